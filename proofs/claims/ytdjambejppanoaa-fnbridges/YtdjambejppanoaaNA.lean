/- Nets: is this edge right, is this net right (program and model). -/
import Derived.Test.YtdjambejppanoaaSE
import Derived.Deep.RegionWith
namespace Go.Proofs.Ytdjambejppanoaa
open Go.RowKit
/-- Is x a node of a net of N nodes? -/
def nodeB (N x : Int) : Bool := inB x 0 (N - 1)
/-- Is the edge right in a net of N nodes? -/
def edgeB (N : Int) (e : EdgeV) : Bool := nodeB N e.a && (nodeB N e.b && (!decide (e.a = e.b) && (inB e.l 1 100000 && inB e.m 1 90)))

set_option maxHeartbeats 400000 in
theorem cHasNode (n : Int) (s : Value) (x : Int) (w : World) : Calls Try.prog 36 #[.agg #[.int .i64 n, s], .int .i64 x] w fun e w' => e = .returned (.bool (nodeB n x)) ∧ Below w.heap.size w w' := by
  have E : Hid (nodeB n x = decide (0 ≤ x ∧ x ≤ n - 1)) := rfl
  have hW := balloc w
  by_cases h1 : 0 ≤ x
  · by_cases h2 : x < n
    · go_enter Try.func36, Try.ntmps36
      go_wp2
      go_ret
      exact ⟨ret_bool (by rw [E.out]; symm; simp; omega), hW _⟩
    · go_enter Try.func36, Try.ntmps36
      go_wp2
      go_ret
      exact ⟨ret_bool (by rw [E.out]; symm; simp; omega), hW _⟩
  · go_enter Try.func36, Try.ntmps36
    go_wp2
    go_ret
    exact ⟨ret_bool (by rw [E.out]; symm; simp; omega), hW _⟩

/-- A boxed net: the two cells of block b. -/
def Bx2 (w : World) (b : Nat) (c0 c1 : Value) : Prop := w.cell? ⟨b, 0, none⟩ = some c0 ∧ w.cell? ⟨b, 1, none⟩ = some c1
theorem Bx2.below {w w1 : World} {b : Nat} {c0 c1 : Value} (h : Bx2 w b c0 c1) (hb : Below w.heap.size w w1) : Bx2 w1 b c0 c1 := ⟨ble hb h.1, ble hb h.2⟩
theorem Bx2.new (w : World) (c0 c1 : Value) (t : TypeId) : Bx2 (w.alloc (.cells #[c0, c1] t)) w.heap.size c0 c1 := ⟨by simp, by simp⟩
/-- A boxed edge: the four cells of block b. -/
def Bx4 (w : World) (b : Nat) (c0 c1 c2 c3 : Value) : Prop := w.cell? ⟨b, 0, none⟩ = some c0 ∧ w.cell? ⟨b, 1, none⟩ = some c1 ∧ w.cell? ⟨b, 2, none⟩ = some c2 ∧ w.cell? ⟨b, 3, none⟩ = some c3
theorem Bx4.below {w w1 : World} {b : Nat} {c0 c1 c2 c3 : Value} (h : Bx4 w b c0 c1 c2 c3) (hb : Below w.heap.size w w1) : Bx4 w1 b c0 c1 c2 c3 := ⟨ble hb h.1, ble hb h.2.1, ble hb h.2.2.1, ble hb h.2.2.2⟩
theorem Bx4.new (w : World) (c0 c1 c2 c3 : Value) (t : TypeId) : Bx4 (w.alloc (.cells #[c0, c1, c2, c3] t)) w.heap.size c0 c1 c2 c3 := ⟨by simp, by simp, by simp, by simp⟩
theorem Bx4.new1 (w : World) (o : Obj) (c0 c1 c2 c3 : Value) (t : TypeId) : Bx4 ((w.alloc o).alloc (.cells #[c0, c1, c2, c3] t)) (w.heap.size + 1) c0 c1 c2 c3 := by
  have h := Bx4.new (w.alloc o) c0 c1 c2 c3 t
  rwa [sz1] at h

theorem eB_a {n : Int} {e : EdgeV} (h : nodeB n e.a = false) : edgeB n e = false := by simp only [edgeB, h, Bool.false_and]
theorem eB_b {n : Int} {e : EdgeV} (h : nodeB n e.b = false) : edgeB n e = false := by simp only [edgeB, h, Bool.false_and, Bool.and_false]
theorem eB_e {n : Int} {e : EdgeV} (h : e.a = e.b) : edgeB n e = false := by simp only [edgeB, h, decide_true, Bool.not_true, Bool.false_and, Bool.and_false]
theorem eB_l {n : Int} {e : EdgeV} (h : inB e.l 1 100000 = false) : edgeB n e = false := by simp only [edgeB, h, Bool.false_and, Bool.and_false]
theorem eB_m {n : Int} {e : EdgeV} (h : inB e.m 1 90 = false) : edgeB n e = false := by simp only [edgeB, h, Bool.and_false]
theorem eB_all {n : Int} {e : EdgeV} (h1 : nodeB n e.a = true) (h2 : nodeB n e.b = true) (h3 : ¬e.a = e.b) (h4 : inB e.l 1 100000 = true) (h5 : inB e.m 1 90 = true) : edgeB n e = true := by
  simp only [edgeB, h1, h2, h3, h4, h5, decide_false, Bool.not_false, Bool.true_and]

set_option maxHeartbeats 1600000 in
theorem cEdgeOk (n : Int) (s : Value) (e : EdgeV) (w : World) : Calls Try.prog 55 #[.agg #[.int .i64 n, s], e.val] w fun e' w' => e' = .returned (.bool (edgeB n e)) ∧ Below w.heap.size w w' := by
  obtain ⟨a, b, l, m⟩ := e
  unfold EdgeV.val
  have hW := btrans (balloc w (.cells #[.int .i64 n, s] 26)) (balloc _ (.cells #[.int .i64 a, .int .i64 b, .int .i64 l, .int .i64 m] 41))
  cases ha : nodeB n a
  · have R := hide (eB_a (n := n) (e := ⟨a, b, l, m⟩) ha)
    have X0 := (Bx2.new w (.int .i64 n) s 26).below (balloc _ (.cells #[.int .i64 a, .int .i64 b, .int .i64 l, .int .i64 m] 41))
    have Y0 := Bx4.new1 w (.cells #[.int .i64 n, s] 26) (.int .i64 a) (.int .i64 b) (.int .i64 l) (.int .i64 m) 41
    go_enter Try.func55, Try.ntmps55
    go_wp2_with fail
    refine (cHasNode _ _ _ _).mono ?_
    rintro e w1 ⟨rfl, hb1⟩
    have HB1 := btrans hW hb1
    have X1 := X0.below hb1
    have Y1 := Y0.below hb1
    clear hb1 X0 Y0
    rw [ha]
    obtain ⟨x0, x1⟩ := id X1
    obtain ⟨y0, y1, y2, y3⟩ := id Y1
    go_wp2
    go_ret
    first | exact ⟨ret_bool R.out.symm, HB1⟩ | exact ⟨ret_bool (by rw [R.out]; simp; omega), HB1⟩
  cases hb : nodeB n b
  · have R := hide (eB_b (n := n) (e := ⟨a, b, l, m⟩) hb)
    have X0 := (Bx2.new w (.int .i64 n) s 26).below (balloc _ (.cells #[.int .i64 a, .int .i64 b, .int .i64 l, .int .i64 m] 41))
    have Y0 := Bx4.new1 w (.cells #[.int .i64 n, s] 26) (.int .i64 a) (.int .i64 b) (.int .i64 l) (.int .i64 m) 41
    go_enter Try.func55, Try.ntmps55
    go_wp2_with fail
    refine (cHasNode _ _ _ _).mono ?_
    rintro e w1 ⟨rfl, hb1⟩
    have HB1 := btrans hW hb1
    have X1 := X0.below hb1
    have Y1 := Y0.below hb1
    clear hb1 X0 Y0
    rw [ha]
    obtain ⟨x0, x1⟩ := id X1
    obtain ⟨y0, y1, y2, y3⟩ := id Y1
    go_wp2_with fail
    refine (cHasNode _ _ _ _).mono ?_
    rintro e w2 ⟨rfl, hb2⟩
    have HB2 := btrans HB1 hb2
    have X2 := X1.below hb2
    have Y2 := Y1.below hb2
    clear hb2 X1 Y1
    rw [hb]
    obtain ⟨x0, x1⟩ := id X2
    obtain ⟨y0, y1, y2, y3⟩ := id Y2
    go_wp2
    go_ret
    first | exact ⟨ret_bool R.out.symm, HB2⟩ | exact ⟨ret_bool (by rw [R.out]; simp; omega), HB2⟩
  by_cases he : a = b
  · have R := hide (eB_e (n := n) (e := ⟨a, b, l, m⟩) he)
    subst he
    have X0 := (Bx2.new w (.int .i64 n) s 26).below (balloc _ (.cells #[.int .i64 a, .int .i64 a, .int .i64 l, .int .i64 m] 41))
    have Y0 := Bx4.new1 w (.cells #[.int .i64 n, s] 26) (.int .i64 a) (.int .i64 a) (.int .i64 l) (.int .i64 m) 41
    go_enter Try.func55, Try.ntmps55
    go_wp2_with fail
    refine (cHasNode _ _ _ _).mono ?_
    rintro e w1 ⟨rfl, hb1⟩
    have HB1 := btrans hW hb1
    have X1 := X0.below hb1
    have Y1 := Y0.below hb1
    clear hb1 X0 Y0
    rw [ha]
    obtain ⟨x0, x1⟩ := id X1
    obtain ⟨y0, y1, y2, y3⟩ := id Y1
    go_wp2_with fail
    refine (cHasNode _ _ _ _).mono ?_
    rintro e w2 ⟨rfl, hb2⟩
    have HB2 := btrans HB1 hb2
    have X2 := X1.below hb2
    have Y2 := Y1.below hb2
    clear hb2 X1 Y1
    rw [ha]
    obtain ⟨x0, x1⟩ := id X2
    obtain ⟨y0, y1, y2, y3⟩ := id Y2
    go_wp2
    go_ret
    first | exact ⟨ret_bool R.out.symm, HB2⟩ | exact ⟨ret_bool (by rw [R.out]; simp; omega), HB2⟩
  cases hl : inB l 1 100000
  · have R := hide (eB_l (n := n) (e := ⟨a, b, l, m⟩) hl)
    rcases inB_false hl with h1 | ⟨h1, h2⟩
    · have X0 := (Bx2.new w (.int .i64 n) s 26).below (balloc _ (.cells #[.int .i64 a, .int .i64 b, .int .i64 l, .int .i64 m] 41))
      have Y0 := Bx4.new1 w (.cells #[.int .i64 n, s] 26) (.int .i64 a) (.int .i64 b) (.int .i64 l) (.int .i64 m) 41
      go_enter Try.func55, Try.ntmps55
      go_wp2_with fail
      refine (cHasNode _ _ _ _).mono ?_
      rintro e w1 ⟨rfl, hb1⟩
      have HB1 := btrans hW hb1
      have X1 := X0.below hb1
      have Y1 := Y0.below hb1
      clear hb1 X0 Y0
      rw [ha]
      obtain ⟨x0, x1⟩ := id X1
      obtain ⟨y0, y1, y2, y3⟩ := id Y1
      go_wp2_with fail
      refine (cHasNode _ _ _ _).mono ?_
      rintro e w2 ⟨rfl, hb2⟩
      have HB2 := btrans HB1 hb2
      have X2 := X1.below hb2
      have Y2 := Y1.below hb2
      clear hb2 X1 Y1
      rw [hb]
      obtain ⟨x0, x1⟩ := id X2
      obtain ⟨y0, y1, y2, y3⟩ := id Y2
      go_wp2
      go_ret
      first | exact ⟨ret_bool R.out.symm, HB2⟩ | exact ⟨ret_bool (by rw [R.out]; simp; omega), HB2⟩

    · have X0 := (Bx2.new w (.int .i64 n) s 26).below (balloc _ (.cells #[.int .i64 a, .int .i64 b, .int .i64 l, .int .i64 m] 41))
      have Y0 := Bx4.new1 w (.cells #[.int .i64 n, s] 26) (.int .i64 a) (.int .i64 b) (.int .i64 l) (.int .i64 m) 41
      go_enter Try.func55, Try.ntmps55
      go_wp2_with fail
      refine (cHasNode _ _ _ _).mono ?_
      rintro e w1 ⟨rfl, hb1⟩
      have HB1 := btrans hW hb1
      have X1 := X0.below hb1
      have Y1 := Y0.below hb1
      clear hb1 X0 Y0
      rw [ha]
      obtain ⟨x0, x1⟩ := id X1
      obtain ⟨y0, y1, y2, y3⟩ := id Y1
      go_wp2_with fail
      refine (cHasNode _ _ _ _).mono ?_
      rintro e w2 ⟨rfl, hb2⟩
      have HB2 := btrans HB1 hb2
      have X2 := X1.below hb2
      have Y2 := Y1.below hb2
      clear hb2 X1 Y1
      rw [hb]
      obtain ⟨x0, x1⟩ := id X2
      obtain ⟨y0, y1, y2, y3⟩ := id Y2
      go_wp2
      go_ret
      first | exact ⟨ret_bool R.out.symm, HB2⟩ | exact ⟨ret_bool (by rw [R.out]; simp; omega), HB2⟩

  have hl' := inB_true hl
  obtain ⟨hl1, hl2⟩ := hl'
  cases hm : inB m 1 90
  · have R := hide (eB_m (n := n) (e := ⟨a, b, l, m⟩) hm)
    rcases inB_false hm with h1 | ⟨h1, h2⟩
    · have X0 := (Bx2.new w (.int .i64 n) s 26).below (balloc _ (.cells #[.int .i64 a, .int .i64 b, .int .i64 l, .int .i64 m] 41))
      have Y0 := Bx4.new1 w (.cells #[.int .i64 n, s] 26) (.int .i64 a) (.int .i64 b) (.int .i64 l) (.int .i64 m) 41
      go_enter Try.func55, Try.ntmps55
      go_wp2_with fail
      refine (cHasNode _ _ _ _).mono ?_
      rintro e w1 ⟨rfl, hb1⟩
      have HB1 := btrans hW hb1
      have X1 := X0.below hb1
      have Y1 := Y0.below hb1
      clear hb1 X0 Y0
      rw [ha]
      obtain ⟨x0, x1⟩ := id X1
      obtain ⟨y0, y1, y2, y3⟩ := id Y1
      go_wp2_with fail
      refine (cHasNode _ _ _ _).mono ?_
      rintro e w2 ⟨rfl, hb2⟩
      have HB2 := btrans HB1 hb2
      have X2 := X1.below hb2
      have Y2 := Y1.below hb2
      clear hb2 X1 Y1
      rw [hb]
      obtain ⟨x0, x1⟩ := id X2
      obtain ⟨y0, y1, y2, y3⟩ := id Y2
      go_wp2
      go_ret
      first | exact ⟨ret_bool R.out.symm, HB2⟩ | exact ⟨ret_bool (by rw [R.out]; simp; omega), HB2⟩

    · have X0 := (Bx2.new w (.int .i64 n) s 26).below (balloc _ (.cells #[.int .i64 a, .int .i64 b, .int .i64 l, .int .i64 m] 41))
      have Y0 := Bx4.new1 w (.cells #[.int .i64 n, s] 26) (.int .i64 a) (.int .i64 b) (.int .i64 l) (.int .i64 m) 41
      go_enter Try.func55, Try.ntmps55
      go_wp2_with fail
      refine (cHasNode _ _ _ _).mono ?_
      rintro e w1 ⟨rfl, hb1⟩
      have HB1 := btrans hW hb1
      have X1 := X0.below hb1
      have Y1 := Y0.below hb1
      clear hb1 X0 Y0
      rw [ha]
      obtain ⟨x0, x1⟩ := id X1
      obtain ⟨y0, y1, y2, y3⟩ := id Y1
      go_wp2_with fail
      refine (cHasNode _ _ _ _).mono ?_
      rintro e w2 ⟨rfl, hb2⟩
      have HB2 := btrans HB1 hb2
      have X2 := X1.below hb2
      have Y2 := Y1.below hb2
      clear hb2 X1 Y1
      rw [hb]
      obtain ⟨x0, x1⟩ := id X2
      obtain ⟨y0, y1, y2, y3⟩ := id Y2
      go_wp2
      go_ret
      first | exact ⟨ret_bool R.out.symm, HB2⟩ | exact ⟨ret_bool (by rw [R.out]; simp; omega), HB2⟩

  have hm' := inB_true hm
  obtain ⟨hm1, hm2⟩ := hm'
  have R := hide (eB_all (n := n) (e := ⟨a, b, l, m⟩) ha hb he hl hm)
  have X0 := (Bx2.new w (.int .i64 n) s 26).below (balloc _ (.cells #[.int .i64 a, .int .i64 b, .int .i64 l, .int .i64 m] 41))
  have Y0 := Bx4.new1 w (.cells #[.int .i64 n, s] 26) (.int .i64 a) (.int .i64 b) (.int .i64 l) (.int .i64 m) 41
  go_enter Try.func55, Try.ntmps55
  go_wp2_with fail
  refine (cHasNode _ _ _ _).mono ?_
  rintro e w1 ⟨rfl, hb1⟩
  have HB1 := btrans hW hb1
  have X1 := X0.below hb1
  have Y1 := Y0.below hb1
  clear hb1 X0 Y0
  rw [ha]
  obtain ⟨x0, x1⟩ := id X1
  obtain ⟨y0, y1, y2, y3⟩ := id Y1
  go_wp2_with fail
  refine (cHasNode _ _ _ _).mono ?_
  rintro e w2 ⟨rfl, hb2⟩
  have HB2 := btrans HB1 hb2
  have X2 := X1.below hb2
  have Y2 := Y1.below hb2
  clear hb2 X1 Y1
  rw [hb]
  obtain ⟨x0, x1⟩ := id X2
  obtain ⟨y0, y1, y2, y3⟩ := id Y2
  go_wp2
  go_ret
  first | exact ⟨ret_bool R.out.symm, HB2⟩ | exact ⟨ret_bool (by rw [R.out]; simp; omega), HB2⟩
end Go.Proofs.Ytdjambejppanoaa
