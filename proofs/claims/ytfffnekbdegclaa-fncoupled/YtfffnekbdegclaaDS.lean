/- Drawn formations of any kind, and two of them. -/
import Derived.Test.YtfffnekbdegclaaDR
import Derived.Test.YtfffnekbdegclaaCG
namespace Go.Proofs.Ytfffnekbdegclaa
open Go.RowKit
theorem set_class (zs : List UV) (k : Nat) (c : Int) (hk : k < zs.length) : (flatUs zs).set (k * 4 + 1) (.int .i64 c) = flatUs (zs.set k ⟨(zs.getD k UV.zero).i, c, (zs.getD k UV.zero).m, (zs.getD k UV.zero).b⟩) := by
  induction zs generalizing k with
  | nil => simp at hk
  | cons z zs ih =>
    cases k with
    | zero => rfl
    | succ k =>
      have e : (k + 1) * 4 + 1 = k * 4 + 1 + 1 + 1 + 1 + 1 := by omega
      have := ih k (by simpa using hk)
      rw [flatUs_cons, e]
      simp only [List.set_cons_succ, this]
      rfl
theorem DrawnU.of {w w1 w' : World} {cb : Nat} {a : Option Addr} {cap : Nat} {bs : List Int} {Pd Pe : List UV → Prop} {e : Ending} (h : DrawnU w1 cb a cap bs Pd e w') (hg : w.grownBy w1 (some cb)) (hp : ∀ l, Pd l → Pe l) : DrawnU w cb a cap bs Pe e w' := by
  obtain ⟨l, v, he, hd, ho, hc, hk⟩ := h
  exact ⟨l, v, he, hp l hd, own_base ho hg.size, hc, gtrans hg hk⟩

set_option maxRecDepth 20000 in
set_option maxHeartbeats 6400000 in
theorem cDrawA (cb cap : Nat) (a : Option Addr) (bs : List Int) (f : Int) (w : World) (hc : Cur w cb a cap bs) (hl : bs.length ≤ 1048576) (f1 : 0 ≤ f) (f2 : f ≤ 1000) :
    Calls Try.prog 43 #[.pointer (some ⟨cb, 0, none⟩), .slice a bs.length cap, .int .i64 f] w (DrawnU w cb a cap bs (fun l => l.length ≤ 60)) := by
  obtain ⟨i1, hi1, hy0, hy1, hy2⟩ := info_parts infoUs
  have hcl := hc.lt (.inl rfl)
  have hOn : ∀ k, OnCur cb a bs k → k < w.heap.size := fun k hk => hc.lt hk
  have C := hc
  have hG : w.grownBy w (some cb) := World.grownBy.refl _ _
  clear hc
  go_enter Try.func43, Try.ntmps43
  go_wp2_with fail
  refine (csize a bs.length cap 7 _ hl (by omega) (by omega)).mono ?_
  rintro e w0 ⟨sz, rfl, sz0, sz1', hw⟩
  subst w0
  go_wp2_with fail
  refine (cbelow cb cap a bs sz _ C hl (by omega) (by omega)).mono ?_
  rintro e w1 ⟨n, rfl, n0, n1, C', G'⟩
  replace hG := gtrans hG G'
  clear C G'
  have C := C'
  clear C'
  go_wp2_with fail
  refine (conce cb cap a bs 2 _ C hl (by omega) (by omega)).mono ?_
  rintro e w2 ⟨lk, rfl, C', G'⟩
  replace hG := gtrans hG G'
  clear C G'
  have C := C'
  clear C'
  go_wp2_with fail
  refine (cDrawR cb cap a bs n f lk _ C hl n0 (by omega) f1 f2).mono ?_
  rintro e w3 ⟨ms, v, rfl, ⟨hms, -⟩, O, C', G'⟩
  replace hms : ms.length ≤ 10 := by omega
  replace O := own_base O hG.size
  replace hG := gtrans hG G'
  clear C G' n0 n1
  have C := C'
  clear C'
  obtain ⟨go, co, rfl⟩ := own_form O
  go_wp2_with fail
  refine (cbelow cb cap a bs 25 _ C hl (by omega) (by omega)).mono ?_
  rintro e w4 ⟨r, rfl, r0, r1, C', G'⟩
  replace O := own_far O G' (fun k hk e => by have := own_from O (Nat.le_refl _) k hk; simp at e; omega)
  replace hG := gtrans hG G'
  clear C G'
  have C := C'
  clear C'
  by_cases q0 : r = 0
  · subst q0
    have F := four w4 0 1 9999 10000
    have hA := balloc w4 (.cells #[.int .i64 0, .int .i64 1, .int .i64 9999, .int .i64 10000] 3)
    have hcb : cb < w4.heap.size := C.lt (.inl rfl)
    have hnb : ∀ x, (some (⟨w4.heap.size, 0, none⟩ : Addr)) = some x → x.block ≠ cb := fun x hx => by injection hx with hx; subst hx; show w4.heap.size ≠ cb; omega
    replace C := C.below hA
    replace O := own_keep O hA
    replace hG := gtrans hG (gofr _ hA)
    clear hA hcb
    go_wp2_with fail
    refine (cPick cb cap a bs _ 4 [0, 1, 9999, 10000] _ C hl F hnb (by simp) (by simp)).mono ?_
    rintro e w5 ⟨k1, rfl, -, C', G'⟩
    clear F hnb
    replace O := own_far O G' (fun k hk e => by have := own_from O (Nat.le_refl _) k hk; simp at e; omega)
    replace hG := gtrans hG G'
    clear C G'
    have C := C'
    clear C'
    have F := four w5 0 1 9 10
    have hA := balloc w5 (.cells #[.int .i64 0, .int .i64 1, .int .i64 9, .int .i64 10] 3)
    have hcb : cb < w5.heap.size := C.lt (.inl rfl)
    have hnb : ∀ x, (some (⟨w5.heap.size, 0, none⟩ : Addr)) = some x → x.block ≠ cb := fun x hx => by injection hx with hx; subst hx; show w5.heap.size ≠ cb; omega
    replace C := C.below hA
    replace O := own_keep O hA
    replace hG := gtrans hG (gofr _ hA)
    clear hA hcb
    go_wp2_with fail
    refine (cPick cb cap a bs _ 4 [0, 1, 9, 10] _ C hl F hnb (by simp) (by simp)).mono ?_
    rintro e w6 ⟨k2, rfl, -, C', G'⟩
    clear F hnb
    replace O := own_far O G' (fun k hk e => by have := own_from O (Nat.le_refl _) k hk; simp at e; omega)
    replace hG := gtrans hG G'
    clear C G'
    have C := C'
    clear C'
    have F := four w6 0 1 200 201
    have hA := balloc w6 (.cells #[.int .i64 0, .int .i64 1, .int .i64 200, .int .i64 201] 3)
    have hcb : cb < w6.heap.size := C.lt (.inl rfl)
    have hnb : ∀ x, (some (⟨w6.heap.size, 0, none⟩ : Addr)) = some x → x.block ≠ cb := fun x hx => by injection hx with hx; subst hx; show w6.heap.size ≠ cb; omega
    replace C := C.below hA
    replace O := own_keep O hA
    replace hG := gtrans hG (gofr _ hA)
    clear hA hcb
    go_wp2_with fail
    refine (cPick cb cap a bs _ 4 [0, 1, 200, 201] _ C hl F hnb (by simp) (by simp)).mono ?_
    rintro e w7 ⟨k3, rfl, -, C', G'⟩
    clear F hnb
    replace O := own_far O G' (fun k hk e => by have := own_from O (Nat.le_refl _) k hk; simp at e; omega)
    replace hG := gtrans hG G'
    clear C G'
    have C := C'
    clear C'
    have hsz := hG.size
    go_wp2_with (at_builtin; refine wpList_append_own _ rfl _ _ 24 rfl w.heap.size 34 i1 _ 4 32 Try.underlying24 hi1 hy0 hy1 hy2 rfl (by decide) _ _ _ rfl (O.alloc _) ⟨w7.heap.size, 0, none⟩ 1 1 [.int .i64 (k1), .int .i64 (k2), .int .i64 (k3), .bool false] rfl rfl ?c1 ?c2 ?c3 ?c4 ?c5 ?_)
    case c1 => exact World.news_of_block (heap_alloc_new w7 _)
    case c2 => intro u hu; simp at hu; rcases hu with rfl | rfl | rfl | rfl <;> rfl
    case c3 => unfold maxLen; omega
    case c4 => omega
    case c5 => simp; omega
    intro v' w9 hown' hgrow _
    have hfrom := own_from O (Nat.le_refl _)
    have C9 := Cur.grow (C.below (balloc w7 _)) hOn hgrow hfrom
    have O9 : w9.ownsRow w.heap.size 34 4 v' (ms ++ [(⟨k1, k2, k3, false⟩ : UV)]).length (flatUs (ms ++ [(⟨k1, k2, k3, false⟩ : UV)])) := by
      rw [List.length_append, flatUs_app]; exact hown'
    have G9 : w.grownBy w9 (some cb) := grown_far (gtrans hG (gofr _ (balloc w7 _))) hgrow hfrom
    clear O C hown' hgrow hfrom hG
    go_wp2
    go_ret
    exact ⟨_, _, rfl, by simp; omega, O9, C9, G9⟩
  by_cases q1 : r = 1
  · subst q1
    by_cases hm0 : ms = []
    · subst hm0
      go_wp2
      go_ret
      exact ⟨[], _, rfl, by simp, O, C, hG⟩
    · have hmp : 0 < ms.length := List.length_pos_iff.2 hm0
      have hmi : (0 : Int) < (ms.length : Int) := by omega
      have hcl0 : ∃ g, go = some ⟨g, 0, none⟩ := by
        rcases O.2 with ⟨h, h0⟩ | ⟨g, c2, cur, h, _⟩
        · omega
        · simp only [Value.slice.injEq] at h; exact ⟨g, h.1⟩
      obtain ⟨g, rfl⟩ := hcl0
      obtain ⟨z0, z1, z2, z3⟩ := us_at ((Us.own O).flat g 0 rfl) hmp
      simp only [Nat.zero_mul, Nat.add_zero, Nat.zero_add] at z0 z1 z2 z3
      generalize ms.getD 0 UV.zero = y at *
      obtain ⟨yi, yc, ym, yb⟩ := y
      dsimp only at *
      have hsz := hG.size
      go_wp2_with (at_builtin; refine wpList_append_own _ rfl _ _ 24 rfl w.heap.size 34 i1 _ 4 32 Try.underlying24 hi1 hy0 hy1 hy2 rfl (by decide) _ _ _ rfl (O.alloc _) ⟨w4.heap.size, 0, none⟩ 1 1 [.int .i64 (yi), .int .i64 (yc), .int .i64 (ym), .bool yb] rfl rfl ?c1 ?c2 ?c3 ?c4 ?c5 ?_)
      case c1 => exact World.news_of_block (heap_alloc_new w4 _)
      case c2 => intro u hu; simp at hu; rcases hu with rfl | rfl | rfl | rfl <;> rfl
      case c3 => unfold maxLen; omega
      case c4 => omega
      case c5 => simp; omega
      intro v' w9 hown' hgrow _
      have hfrom := own_from O (Nat.le_refl _)
      have C9 := Cur.grow (C.below (balloc w4 _)) hOn hgrow hfrom
      have O9 : w9.ownsRow w.heap.size 34 4 v' (ms ++ [(⟨yi, yc, ym, yb⟩ : UV)]).length (flatUs (ms ++ [(⟨yi, yc, ym, yb⟩ : UV)])) := by
        rw [List.length_append, flatUs_app]; exact hown'
      have G9 : w.grownBy w9 (some cb) := grown_far (gtrans hG (gofr _ (balloc w4 _))) hgrow hfrom
      clear O C hown' hgrow hfrom hG
      go_wp2
      go_ret
      exact ⟨_, _, rfl, by simp; omega, O9, C9, G9⟩
  by_cases q2 : r = 2
  · subst q2
    go_wp2_with fail
    refine (cbelow cb cap a bs 2 _ C hl (by omega) (by omega)).mono ?_
    rintro e w5 ⟨p, rfl, p0, p1, C', G'⟩
    replace O := own_far O G' (fun k hk e => by have := own_from O (Nat.le_refl _) k hk; simp at e; omega)
    replace hG := gtrans hG G'
    clear C G'
    have C := C'
    clear C'
    clear O
    go_wp2_with fail
    refine (cDrawR cb cap a bs (30 + p) f true _ C hl (by omega) (by omega) f1 f2).mono ?_
    intro e w6 hD
    obtain ⟨l, v, rfl, hl6, O6, C6, G6⟩ := hD.of hG (Pe := fun l => l.length ≤ 60) (fun l h => by have := h.1; omega)
    obtain ⟨g6, c6, rfl⟩ := own_form O6
    go_wp2
    go_ret
    exact ⟨l, _, rfl, hl6, O6, C6, G6⟩
  by_cases q3 : r = 3
  · subst q3
    go_wp2_with fail
    refine (cbelow cb cap a bs 6 _ C hl (by omega) (by omega)).mono ?_
    rintro e w5 ⟨p, rfl, p0, p1, C', G'⟩
    replace O := own_far O G' (fun k hk e => by have := own_from O (Nat.le_refl _) k hk; simp at e; omega)
    replace hG := gtrans hG G'
    clear C G'
    have C := C'
    clear C'
    clear O
    go_wp2_with fail
    refine (cDrawR cb cap a bs (12 + p) 5 true _ C hl (by omega) (by omega) (by omega) (by omega)).mono ?_
    intro e w6 hD
    obtain ⟨l, v, rfl, hl6, O6, C6, G6⟩ := hD.of hG (Pe := fun l => l.length ≤ 60) (fun l h => by have := h.1; omega)
    obtain ⟨g6, c6, rfl⟩ := own_form O6
    go_wp2
    go_ret
    exact ⟨l, _, rfl, hl6, O6, C6, G6⟩
  · have e0 : (r == 0) = false := by simpa using q0
    have e1 : (r == 1) = false := by simpa using q1
    have e2 : (r == 2) = false := by simpa using q2
    have e3 : (r == 3) = false := by simpa using q3
    clear q0 q1 q2 q3
    go_wp2
    go_ret
    exact ⟨ms, _, rfl, by omega, O, C, hG⟩

/-- Two lists that are drawn. -/
def DrawnC (w : World) (e : Ending) (w' : World) : Prop :=
  ∃ (xs ys : List UV) (v1 v2 : Value), e = .returned (.tuple #[v1, v2]) ∧ xs.length ≤ 60 ∧ ys.length ≤ 60 ∧ w'.ownsRow w.heap.size 34 4 v1 xs.length (flatUs xs) ∧ w'.ownsRow w.heap.size 34 4 v2 ys.length (flatUs ys) ∧ Below w.heap.size w w'

theorem bgrow1 {B cb : Nat} {w w1 w2 : World} (h : Below B w w1) (hB : B ≤ cb) (g : w1.grownBy w2 (some cb)) (hs : B ≤ w1.heap.size) : Below B w w2 := h.grown g hs (fun j e => by simp at e; omega)

set_option maxRecDepth 20000 in
set_option maxHeartbeats 6400000 in
theorem cDrawC (cap : Nat) (a : Option Addr) (bs : List Int) (w : World) (hz : Bytes w a bs) (hl : bs.length ≤ 1048576) :
    Calls Try.prog 13 #[.slice a bs.length cap] w (DrawnC w) := by
  go_enter Try.func13, Try.ntmps13
  go_wp2_with fail
  refine (cnew a cap bs _ hz hl).mono ?_
  rintro e w1 ⟨cb, rfl, hcb, C, HB⟩
  go_wp2_with fail
  refine (cbelow cb cap a bs 4 _ C hl (by omega) (by omega)).mono ?_
  rintro e w2 ⟨n1, rfl, n10, n11, C2, G2⟩
  replace HB := bgrow1 HB hcb G2 HB.size
  clear G2 C
  go_wp2_with fail
  refine (cDrawR cb cap a bs (1 + n1) 1 true _ C2 hl (by omega) (by omega) (by omega) (by omega)).mono ?_
  rintro e w3 ⟨xs, v1, rfl, ⟨hx, -⟩, O1, C3, G3⟩
  have c1 : ∀ k, v1.ownBlock = some k → cb < k := fun k hk => by have := own_from O1 (Nat.le_refl _) k hk; have := C2.lt (.inl rfl); omega
  replace O1 := own_base O1 HB.size
  replace HB := bgrow1 HB hcb G3 HB.size
  have hx1 : 0 < xs.length := by omega
  have hx2 : xs.length ≤ 60 := by omega
  clear G3 C2 hx n10 n11
  obtain ⟨xa, xc, rfl⟩ := own_form O1
  go_wp2_with fail
  refine (cbelow cb cap a bs 4 _ C3 hl (by omega) (by omega)).mono ?_
  rintro e w4 ⟨n2, rfl, n20, n21, C4, G4⟩
  replace O1 := own_far O1 G4 (fun k hk e => by have := c1 k hk; simp at e; omega)
  replace HB := bgrow1 HB hcb G4 HB.size
  clear G4 C3
  go_wp2_with fail
  refine (cDrawR cb cap a bs (1 + n2) 100 true _ C4 hl (by omega) (by omega) (by omega) (by omega)).mono ?_
  rintro e w5 ⟨ys, v2, rfl, ⟨hy, -⟩, O2, C5, G5⟩
  have c2 : ∀ k, v2.ownBlock = some k → cb < k := fun k hk => by have := own_from O2 (Nat.le_refl _) k hk; have := C4.lt (.inl rfl); omega
  have ap : ∀ k j, (Value.slice xa xs.length xc).ownBlock = some k → v2.ownBlock = some j → k ≠ j := fun k j hk hj => by have := own_blk_lt O1 k hk; have := own_from O2 (Nat.le_refl _) j hj; omega
  replace O1 := own_far O1 G5 (fun k hk e => by have := c1 k hk; simp at e; omega)
  replace O2 := own_base O2 HB.size
  replace HB := bgrow1 HB hcb G5 HB.size
  have hy2 : ys.length ≤ 60 := by omega
  clear G5 C4 hy n20 n21
  obtain ⟨ya, yc, rfl⟩ := own_form O2
  go_wp2_with fail
  refine (cbelow cb cap a bs 5 _ C5 hl (by omega) (by omega)).mono ?_
  rintro e w6 ⟨r, rfl, r0, r1, C6, G6⟩
  replace O1 := own_far O1 G6 (fun k hk e => by have := c1 k hk; simp at e; omega)
  replace O2 := own_far O2 G6 (fun k hk e => by have := c2 k hk; simp at e; omega)
  replace HB := bgrow1 HB hcb G6 HB.size
  clear G6 C5
  by_cases q0 : r = 0
  · subst q0
    go_wp2_with fail
    refine (cDrawA cb cap a bs 2 _ C6 hl (by omega) (by omega)).mono ?_
    rintro e w7 ⟨zs, v3, rfl, hz3, O3, C7, G7⟩
    replace O1 := own_far O1 G7 (fun k hk e => by have := c1 k hk; simp at e; omega)
    replace O3 := own_base O3 HB.size
    replace HB := bgrow1 HB hcb G7 HB.size
    obtain ⟨za, zc, rfl⟩ := own_form O3
    clear O2
    go_wp2
    go_ret2
    exact ⟨xs, zs, _, _, rfl, hx2, hz3, O1, O3, HB⟩
  by_cases q1 : r = 1
  · subst q1
    go_wp2_with fail
    refine (cDrawA cb cap a bs 90 _ C6 hl (by omega) (by omega)).mono ?_
    rintro e w7 ⟨zs, v3, rfl, hz3, O3, C7, G7⟩
    replace O2 := own_far O2 G7 (fun k hk e => by have := c2 k hk; simp at e; omega)
    replace O3 := own_base O3 HB.size
    replace HB := bgrow1 HB hcb G7 HB.size
    obtain ⟨za, zc, rfl⟩ := own_form O3
    clear O1
    go_wp2
    go_ret2
    exact ⟨zs, ys, _, _, rfl, hz3, hy2, O3, O2, HB⟩
  by_cases q2 : r = 2
  · subst q2
    go_wp2
    go_loopw [7] (fun i wr => ∃ (k : Nat) (zs : List UV), k ≤ ys.length ∧ zs.length = ys.length ∧ i = .int .i64 k ∧ wr.ownsRow w.heap.size 34 4 (.slice ya ys.length yc) ys.length (flatUs zs) ∧ wr.ownsRow w.heap.size 34 4 (.slice xa xs.length xc) xs.length (flatUs xs) ∧ Below w.heap.size w wr) (fun i _ => ys.length - (intOf i).toNat)
    case atStart => exact ⟨0, ys, Nat.zero_le _, rfl, rfl, O2, O1, HB⟩
    case round =>
      clear O1 O2 HB
      obtain ⟨k, zs, hk, hzl, rfl, O2, O1, HB⟩ := hrel
      have HZ := hide hzl
      by_cases hlt : k < ys.length
      · have g1 : ∃ g, xa = some ⟨g, 0, none⟩ := by
          rcases O1.2 with ⟨h, h0⟩ | ⟨g, c2, cur, h, _⟩
          · omega
          · simp only [Value.slice.injEq] at h; exact ⟨g, h.1⟩
        have g2 : ∃ g, ya = some ⟨g, 0, none⟩ := by
          rcases O2.2 with ⟨h, h0⟩ | ⟨g, c2, cur, h, _⟩
          · omega
          · simp only [Value.slice.injEq] at h; exact ⟨g, h.1⟩
        obtain ⟨g1, rfl⟩ := g1
        obtain ⟨g2, rfl⟩ := g2
        have hne : g1 ≠ g2 := ap g1 g2 rfl rfl
        obtain ⟨-, z1, -, -⟩ := us_at ((Us.own O1).flat g1 0 rfl) hx1
        obtain ⟨-, t1, -, -⟩ := us_at ((Us.own O2).flat g2 0 rfl) (show k < zs.length by omega)
        simp only [Nat.zero_mul, Nat.add_zero, Nat.zero_add] at z1 t1
        have fr := O2.frozenAt (k * 4 + 1)
        generalize (xs.getD 0 UV.zero).c = cc at *
        generalize (zs.getD k UV.zero).c = cd at *
        obtain ⟨O3, G3⟩ := O2.stored (k * 4 + 1) (.int .i64 cc)
        have S1 : (flatUs zs).set (k * 4 + 1) (.int .i64 cc) = flatUs (zs.set k ⟨(zs.getD k UV.zero).i, cc, (zs.getD k UV.zero).m, (zs.getD k UV.zero).b⟩) := set_class zs k cc (by omega)
        rw [S1] at O3
        have hlz : (zs.set k ⟨(zs.getD k UV.zero).i, cc, (zs.getD k UV.zero).m, (zs.getD k UV.zero).b⟩).length = zs.length := by simp
        have HZ2 := hide (hlz.trans hzl)
        have O4 := own_far O1 G3 (fun k hk e => by simp [Value.ownBlock] at hk; simp at e; omega)
        have HB4 := HB.grown G3 HB.size (fun j e => by simp at e; have := own_from O2 (Nat.le_refl _) g2 rfl; omega)
        generalize zs.set k ⟨(zs.getD k UV.zero).i, cc, (zs.getD k UV.zero).m, (zs.getD k UV.zero).b⟩ = zs2 at *
        clear O1 O2 HB G3 S1 hlz hzl
        go_wp2
        go_roundw
        case rel => exact ⟨k + 1, zs2, by omega, HZ2.out, by go_num, O3, O4, HB4⟩
        case measure => simp [intOf]; omega
      · have HB9 := HB
        replace O2 : wr.ownsRow w.heap.size 34 4 (.slice ya ys.length yc) zs.length (flatUs zs) := by rw [HZ.out]; exact O2
        clear hzl
        go_wp2
        go_ret2
        exact ⟨xs, zs, _, _, rfl, hx2, by rw [HZ.out]; exact hy2, O1, O2, HB9⟩
  · have e0 : (r == 0) = false := by simpa using q0
    have e1 : (r == 1) = false := by simpa using q1
    have e2 : (r == 2) = false := by simpa using q2
    clear q0 q1 q2
    go_wp2
    go_ret2
    exact ⟨xs, ys, _, _, rfl, hx2, hy2, O1, O2, HB⟩
end Go.Proofs.Ytfffnekbdegclaa
