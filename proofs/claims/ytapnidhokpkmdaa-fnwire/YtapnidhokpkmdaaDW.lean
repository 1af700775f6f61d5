/- A drawn wire. -/
import Derived.Test.YtapnidhokpkmdaaZM
import Derived.Test.YtapnidhokpkmdaaFD
import Derived.Test.YtapnidhokpkmdaaDK
import Derived.Maps.AppendAt
namespace Go.Proofs.Ytapnidhokpkmdaa
open Go.RowKit Fl
attribute [local go_sem] run_store_float

def LineD (z : ZV) : Prop := ∃ p q : Int, 0 ≤ p ∧ p ≤ 39 ∧ 0 ≤ q ∧ q ≤ 39 ∧ DC 6 p q z.c
def DrawD (z : ZV) : Prop := ∃ p q : Int, 0 ≤ p ∧ p ≤ 178 ∧ -45 ≤ q ∧ q ≤ 44 ∧ DC 3 p q z.c
def VoltD (z : ZV) : Prop := ∃ p q : Int, 0 ≤ p ∧ p ≤ 204288 ∧ 0 ≤ q ∧ q ≤ 11392 ∧ DC 9 p q z.c
theorem gofr {w w' : World} (r : Option Nat) (h : Below w.heap.size w w') : w.grownBy w' r := ⟨h.os, h.tape, h.output, h.size, fun k hk _ => h.block k hk⟩
theorem far_blk {w w' : World} {r : Option Nat} (hg : w.grownBy w' r) {g : Nat} {o : Obj} (h : w.heap[g]? = some o) (hne : ∀ j, r = some j → g ≠ j) : w'.heap[g]? = some o :=
  (hg.block g (lt_of_block h) (fun e => hne g e.symm rfl)).trans h
theorem flat1 (zs : List ZV) (z : ZV) : flatZs zs ++ [.float .f64 z.re, .float .f64 z.im] = flatZs (zs ++ [z]) := by rw [flatZs_app]; rfl
theorem all_push {P : ZV → Prop} {l : List ZV} {z : ZV} (h : ∀ x ∈ l, P x) (hz : P z) : ∀ x ∈ l ++ [z], P x := by
  intro x hx
  rw [List.mem_append, List.mem_singleton] at hx
  rcases hx with hx | rfl
  · exact h x hx
  · exact hz
/-- What is drawn. -/
def DrawnWire (w : World) (e : Ending) (w' : World) : Prop :=
  ∃ (v : ZV) (la da : Option Addr) (lc dc : Nat) (ls ds : List ZV), e = .returned (.tuple #[v.val, .slice la ls.length lc, .slice da ls.length dc]) ∧ ds.length = ls.length ∧ 1 ≤ ls.length ∧ ls.length ≤ 7 ∧ VoltD v ∧ (∀ z ∈ ls, LineD z) ∧ (∀ z ∈ ds, DrawD z) ∧ Zs w' la ls ∧ Zs w' da ds ∧ Below w.heap.size w w'
/-- What the loop holds. -/
structure WireL (w0 wr : World) (cb vb : Nat) (lv dv : Value) (ls ds : List ZV) (v0 v1 : Nat) : Prop where
  ol : wr.ownsRow w0.heap.size 26 2 lv ls.length (flatZs ls)
  od : wr.ownsRow w0.heap.size 26 2 dv ds.length (flatZs ds)
  ap : ∀ k, lv.ownBlock = some k → dv.ownBlock ≠ some k
  lb : ∀ k, lv.ownBlock = some k → k ≠ vb
  db : ∀ k, dv.ownBlock = some k → k ≠ vb
  vbk : wr.heap[vb]? = some (.cells #[.float .f64 v0, .float .f64 v1] 26 (0, 0))
  vlo : w0.heap.size ≤ vb
theorem WireL.cur {w0 wr w2 : World} {cb vb : Nat} {lv dv : Value} {ls ds : List ZV} {v0 v1 : Nat} (h : WireL w0 wr cb vb lv dv ls ds v0 v1) (hc : cb < w0.heap.size) (g : wr.grownBy w2 (some cb)) : WireL w0 w2 cb vb lv dv ls ds v0 v1 :=
  ⟨own_far h.ol g (fun k hk e => by have := own_from h.ol (Nat.le_refl _) k hk; simp at e; omega), own_far h.od g (fun k hk e => by have := own_from h.od (Nat.le_refl _) k hk; simp at e; omega), h.ap, h.lb, h.db, far_blk g h.vbk (fun j hj => by simp at hj; have := h.vlo; omega), h.vlo⟩
theorem WireL.below {w0 wr w2 : World} {cb vb : Nat} {lv dv : Value} {ls ds : List ZV} {v0 v1 : Nat} (h : WireL w0 wr cb vb lv dv ls ds v0 v1) (g : Below wr.heap.size wr w2) : WireL w0 w2 cb vb lv dv ls ds v0 v1 :=
  ⟨own_keep h.ol g, own_keep h.od g, h.ap, h.lb, h.db, keepB g h.vbk, h.vlo⟩
theorem WireL.pushL {w0 wr w2 : World} {cb vb : Nat} {lv dv v2 : Value} {ls ds : List ZV} {v0 v1 : Nat} {z : ZV} (h : WireL w0 wr cb vb lv dv ls ds v0 v1) (ho : w2.ownsRow w0.heap.size 26 2 v2 (ls.length + 1) (flatZs ls ++ [.float .f64 z.re, .float .f64 z.im])) (hg : wr.grownBy w2 lv.ownBlock) (hw : v2.ownBlock = lv.ownBlock ∨ v2.ownBlock = some wr.heap.size) : WireL w0 w2 cb vb v2 dv (ls ++ [z]) ds v0 v1 := by
  have hvl := lt_of_block h.vbk
  refine ⟨?_, own_far h.od hg (fun k hk e => h.ap k e.symm hk), fun k hk => ?_, fun k hk => ?_, h.db, far_blk hg h.vbk (fun j hj e => h.lb j hj e.symm), h.vlo⟩
  · rw [flat1] at ho; rw [List.length_append]; exact ho
  · rcases hw with hw | hw
    · exact h.ap k (by rw [← hw]; exact hk)
    · rw [hk] at hw; intro e; have := own_blk_lt h.od k e; simp at hw; omega
  · rcases hw with hw | hw
    · exact h.lb k (by rw [← hw]; exact hk)
    · rw [hk] at hw; simp at hw; omega
theorem WireL.pushD {w0 wr w2 : World} {cb vb : Nat} {lv dv v2 : Value} {ls ds : List ZV} {v0 v1 : Nat} {z : ZV} (h : WireL w0 wr cb vb lv dv ls ds v0 v1) (ho : w2.ownsRow w0.heap.size 26 2 v2 (ds.length + 1) (flatZs ds ++ [.float .f64 z.re, .float .f64 z.im])) (hg : wr.grownBy w2 dv.ownBlock) (hw : v2.ownBlock = dv.ownBlock ∨ v2.ownBlock = some wr.heap.size) : WireL w0 w2 cb vb lv v2 ls (ds ++ [z]) v0 v1 := by
  have hvl := lt_of_block h.vbk
  refine ⟨own_far h.ol hg (fun k hk e => h.ap k hk e.symm), ?_, fun k hk => ?_, h.lb, fun k hk => ?_, far_blk hg h.vbk (fun j hj e => h.db j hj e.symm), h.vlo⟩
  · rw [flat1] at ho; rw [List.length_append]; exact ho
  · rcases hw with hw | hw
    · rw [hw]; exact h.ap k hk
    · rw [hw]; intro e; have := own_blk_lt h.ol k hk; simp at e; omega
  · rcases hw with hw | hw
    · exact h.db k (by rw [← hw]; exact hk)
    · rw [hk] at hw; simp at hw; omega

set_option maxRecDepth 20000 in
set_option maxHeartbeats 12800000 in
theorem cDrawWire (cap : Nat) (a : Option Addr) (bs : List Int) (w : World) (hz : Bytes w a bs) (hl : bs.length ≤ 1048576) :
    Calls Try.prog 17 #[.slice a bs.length cap] w (DrawnWire w) := by
  obtain ⟨i1, hi1, hy0, hy1, hy2⟩ := info_parts infoZs
  have hbr := balloc w (.cells #[.float .f64 0, .float .f64 0] 26)
  have KR := one_block w (.cells #[.float .f64 0, .float .f64 0] 26)
  go_enter Try.func17, Try.ntmps17
  go_wp2_with fail
  generalize w.alloc (.cells #[.float .f64 0, .float .f64 0] 26) = wa at *
  refine (cnew a cap bs _ (hz.below hbr) hl).mono ?_
  rintro e w0 ⟨cb, rfl, hcb, C0, b0⟩
  have hra : w.heap.size < wa.heap.size := lt_of_block KR
  have hw0 : wa.heap.size ≤ w0.heap.size := b0.size
  replace KR := keepB b0 KR
  have HB0 := btrans hbr b0
  clear hbr b0
  have hcl := C0.lt (.inl rfl)
  have hOn : Hid (∀ k, OnCur cb a bs k → k < w0.heap.size) := hide (fun k hk => C0.lt hk)
  have A1 := btrans (balloc w0 (.cells #[] 26)) (balloc _ (.cells #[] 26))
  have C1 := C0.below A1
  have OL : ((w0.alloc (.cells #[] 26)).alloc (.cells #[] 26)).ownsRow w0.heap.size 26 2 (.slice (some ⟨w0.heap.size, 0, none⟩) 0 0) 0 (flatZs []) := own_keep (World.ownsRow_made w0 #[] 0 (Nat.le_refl _) (by unfold maxLen; omega) rfl) (balloc _ _)
  have OD0 : ((w0.alloc (.cells #[] 26)).alloc (.cells #[] 26)).ownsRow (w0.alloc (.cells #[] 26)).heap.size 26 2 (.slice (some ⟨(w0.alloc (.cells #[] 26)).heap.size, 0, none⟩) 0 0) 0 (flatZs []) := World.ownsRow_made _ #[] 0 (Nat.le_refl _) (by unfold maxLen; omega) rfl
  rw [sz1] at OD0
  have OD := own_base (B' := w0.heap.size) OD0 (by omega)
  clear OD0
  go_wp2_with fail
  have hs1 : w0.heap.size + 2 ≤ ((w0.alloc (.cells #[] 26)).alloc (.cells #[] 26)).heap.size := by rw [sz1, sz1]; omega
  generalize (w0.alloc (.cells #[] 26)).alloc (.cells #[] 26) = w1 at *
  refine (cbelow cb cap a bs 400 _ C1 hl (by omega) (by omega)).mono ?_
  rintro e w2 ⟨n1, rfl, n10, n11, C2, G2⟩
  replace OL := own_far OL G2 (fun k hk e => by simp [Value.ownBlock] at hk; simp at e; omega)
  replace OD := own_far OD G2 (fun k hk e => by simp [Value.ownBlock] at hk; simp at e; omega)
  have G0 := gtrans (gofr (some cb) A1) G2
  have hs2 := G2.size
  clear C1 G2 A1 C0
  go_wp2_with fail
  refine (cbelow cb cap a bs 90 _ C2 hl (by omega) (by omega)).mono ?_
  rintro e w3 ⟨n2, rfl, n20, n21, C3, G3⟩
  replace OL := own_far OL G3 (fun k hk e => by simp [Value.ownBlock] at hk; simp at e; omega)
  replace OD := own_far OD G3 (fun k hk e => by simp [Value.ownBlock] at hk; simp at e; omega)
  replace G0 := gtrans G0 G3
  have hs3 : w0.heap.size + 2 ≤ w3.heap.size := Nat.le_trans hs1 (Nat.le_trans hs2 G3.size)
  clear C2 G3
  have D1 := Dq.conv (n := n1) (by omega)
  obtain ⟨v1, D2, Q2⟩ := quoD Dq4 (by decide) (n := n2) (by omega)
  have hV : VoltD ⟨floatOfInt .f64 n1, v1⟩ := by
    have u1 := D1.cl.up (l := 9) (by decide) (by decide)
    have u2 := D2.cl.up (l := 9) (by decide) (by decide)
    exact ⟨_, _, by omega, by omega, by omega, by omega, u1, u2⟩
  have hb4 := balloc w3 (.cells #[.float .f64 (floatOfInt .f64 n1), .float .f64 v1] 26)
  have KV := one_block w3 (.cells #[.float .f64 (floatOfInt .f64 n1), .float .f64 v1] 26)
  have C4 := C3.below hb4
  have WL : WireL w0 (w3.alloc (.cells #[.float .f64 (floatOfInt .f64 n1), .float .f64 v1] 26)) cb w3.heap.size (.slice (some ⟨w0.heap.size, 0, none⟩) 0 0) (.slice (some ⟨w0.heap.size + 1, 0, none⟩) 0 0) [] [] (floatOfInt .f64 n1) v1 :=
    ⟨own_keep OL hb4, own_keep OD hb4, fun k hk e => by simp [Value.ownBlock] at hk e; omega, fun k hk => by simp [Value.ownBlock] at hk; omega, fun k hk => by simp [Value.ownBlock] at hk; omega, KV, by omega⟩
  replace G0 := gtrans G0 (gofr _ hb4)
  clear OL OD C3 D1 D2 hs1 hs2 hs3 KV hb4
  go_wp2_with fail
  generalize w3.heap.size = vb at WL ⊢
  generalize w3.alloc (.cells #[.float .f64 (floatOfInt .f64 n1), .float .f64 v1] 26) = w4 at *
  generalize floatOfInt .f64 n1 = v0 at *
  refine (cbelow cb cap a bs 7 _ C4 hl (by omega) (by omega)).mono ?_
  rintro e w5 ⟨n3, rfl, n30, n31, C5, G5⟩
  replace WL := WL.cur hcl G5
  replace G0 := gtrans G0 G5
  clear C4 G5 Q2
  have r1 : IntKind.i64.wrap (1 + n3) = 1 + n3 := wrap_in _ (by omega) (by omega)
  go_wp2
  go_loopw [6, 7, 9] (fun lv dv ii wr => ∃ (ls ds : List ZV) (I : Int), ii = .int .i64 I ∧ 0 ≤ I ∧ (ls.length : Int) + I = 1 + n3 ∧ ds.length = ls.length ∧ Hid ((∀ z ∈ ls, LineD z) ∧ (∀ z ∈ ds, DrawD z)) ∧ WireL w0 wr cb vb lv dv ls ds v0 v1 ∧ CurB wr cb a cap bs ∧ w0.grownBy wr (some cb)) (fun _ _ ii _ => (intOf ii).toNat)
  case atStart => exact ⟨[], [], 1 + n3, rfl, by omega, by simp, rfl, hide ⟨fun x hx => (by cases hx), fun x hx => (by cases hx)⟩, WL, C5, G0⟩
  case round =>
    clear WL G0 C5
    obtain ⟨ls, ds, I, rfl, I0, hLI, hLD, hP, WL, C, hG⟩ := hrel
    replace hLI := hide hLI
    replace hLD := hide hLD
    have hml : ls.length ≤ 7 := by have := hLI.out; omega
    have hI7 : I ≤ 7 := by have := hLI.out; omega
    obtain ⟨la, lc, rfl⟩ := own_form WL.ol
    obtain ⟨da, dc, rfl⟩ := own_form WL.od
    have hdl : ds.length ≤ 7 := by have := hLD.out; omega
    by_cases hI : 0 < I
    · go_wp2_with fail
      refine (cbelow cb cap a bs 40 _ C hl (by omega) (by omega)).mono ?_
      rintro e x1 ⟨y1, rfl, y10, y11, C', G'⟩
      replace WL := WL.cur hcl G'
      replace hG := gtrans hG G'
      clear C G'
      have C := C'
      clear C'
      obtain ⟨s1, E1, T1⟩ := quoD Dq64 (by decide) (n := y1) (by omega)
      go_wp2_with fail
      refine (cbelow cb cap a bs 40 _ C hl (by omega) (by omega)).mono ?_
      rintro e x2 ⟨y2, rfl, y20, y21, C', G'⟩
      replace WL := WL.cur hcl G'
      replace hG := gtrans hG G'
      clear C G'
      have C := C'
      clear C'
      obtain ⟨s2, E2, T2⟩ := quoD Dq64 (by decide) (n := y2) (by omega)
      have hN := one_block x2 (.cells #[.float .f64 s1, .float .f64 s2] 26)
      have hb6 := balloc x2 (.cells #[.float .f64 s1, .float .f64 s2] 26)
      have W6 := WL.below hb6
      replace C := C.below hb6
      have hLn : LineD ⟨s1, s2⟩ := ⟨y1, y2, by omega, by omega, by omega, by omega, E1.cl, E2.cl⟩
      have hG6 := gtrans hG (gofr (some cb) hb6)
      have hs6 : w0.heap.size ≤ (x2.alloc (.cells #[.float .f64 s1, .float .f64 s2] 26)).heap.size := hG6.size
      clear WL hG hb6 E1 E2
      go_wp2_with (at_builtin; refine wpList_append_own_at _ rfl _ _ 27 rfl w0.heap.size 26 i1 _ 2 16 Try.underlying27 hi1 hy0 hy1 hy2 rfl (by decide) _ _ _ rfl W6.ol ⟨x2.heap.size, 0, none⟩ 1 1 [.float .f64 s1, .float .f64 s2] rfl rfl ?c1 ?c2 ?c3 ?c4 ?c5 ?_)
      case c1 => exact World.news_of_block hN
      case c2 => intro u hu; simp at hu; rcases hu with rfl | rfl <;> rfl
      case c3 => unfold maxLen; omega
      case c4 => omega
      case c5 => exact hs6
      intro v2 x3 hown hgrow _ hwh
      have hfr := own_from W6.ol (Nat.le_refl _)
      have W7 := W6.pushL (z := ⟨s1, s2⟩) hown hgrow (by rw [sz1]; exact hwh)
      replace C := C.grow hOn.out hgrow hfr
      have hG7 := grown_far hG6 hgrow hfr
      obtain ⟨la2, lc2, rfl⟩ := own_form W7.ol
      rw [List.length_append, List.length_singleton] at W7 ⊢
      clear W6 hown hgrow hwh hG6 hN hfr hs6 T1 T2
      go_wp2_with fail
      refine (cbelow cb cap a bs 90 _ C hl (by omega) (by omega)).mono ?_
      rintro e x4 ⟨y4, rfl, y40, y41, C', G'⟩
      replace W7 := W7.cur hcl G'
      replace hG7 := gtrans hG7 G'
      clear C G'
      have C := C'
      clear C'
      obtain ⟨s3, E3, T3⟩ := quoD Dq4 (by decide) (n := y4) (by omega)
      go_wp2_with fail
      refine (cbelow cb cap a bs 90 _ C hl (by omega) (by omega)).mono ?_
      rintro e x5 ⟨y5, rfl, y50, y51, C', G'⟩
      replace W7 := W7.cur hcl G'
      replace hG7 := gtrans hG7 G'
      clear C G'
      have C := C'
      clear C'
      have e5 : IntKind.i64.wrap (y5 - 45) = y5 - 45 := wrap_in _ (by omega) (by omega)
      obtain ⟨s4, E4, T4⟩ := quoD Dq8 (by decide) (n := y5 - 45) (by omega)
      have hN := one_block x5 (.cells #[.float .f64 s3, .float .f64 s4] 26)
      have hb6 := balloc x5 (.cells #[.float .f64 s3, .float .f64 s4] 26)
      have W8 := W7.below hb6
      replace C := C.below hb6
      have hDn : DrawD ⟨s3, s4⟩ := by
        have u1 := E3.cl.up (l := 3) (by decide) (by decide)
        exact ⟨_, y5 - 45, by omega, by omega, by omega, by omega, u1, E4.cl⟩
      have hG8 := gtrans hG7 (gofr (some cb) hb6)
      have hs6 : w0.heap.size ≤ (x5.alloc (.cells #[.float .f64 s3, .float .f64 s4] 26)).heap.size := hG8.size
      clear W7 hG7 hb6 E3 E4
      go_wp2_with (at_builtin; refine wpList_append_own_at _ rfl _ _ 27 rfl w0.heap.size 26 i1 _ 2 16 Try.underlying27 hi1 hy0 hy1 hy2 rfl (by decide) _ _ _ rfl W8.od ⟨x5.heap.size, 0, none⟩ 1 1 [.float .f64 s3, .float .f64 s4] rfl rfl ?e1 ?e2 ?e3 ?e4 ?e5 ?_)
      case e1 => exact World.news_of_block hN
      case e2 => intro u hu; simp at hu; rcases hu with rfl | rfl <;> rfl
      case e3 => unfold maxLen; omega
      case e4 => omega
      case e5 => exact hs6
      intro v3 x6 hown hgrow _ hwh
      have hfr := own_from W8.od (Nat.le_refl _)
      have W9 := W8.pushD (z := ⟨s3, s4⟩) hown hgrow (by rw [sz1]; exact hwh)
      replace C := C.grow hOn.out hgrow hfr
      have hG9 := grown_far hG8 hgrow hfr
      have hP9 : Hid ((∀ z ∈ ls ++ [⟨s1, s2⟩], LineD z) ∧ (∀ z ∈ ds ++ [⟨s3, s4⟩], DrawD z)) := hide ⟨all_push hP.out.1 hLn, all_push hP.out.2 hDn⟩
      have hLI9 : Hid (((ls ++ [(⟨s1, s2⟩ : ZV)]).length : Int) + (I - 1) = 1 + n3) := hide (by have := hLI.out; simp; omega)
      have hLD9 : Hid ((ds ++ [(⟨s3, s4⟩ : ZV)]).length = (ls ++ [(⟨s1, s2⟩ : ZV)]).length) := hide (by have := hLD.out; simp; omega)
      obtain ⟨da2, dc2, rfl⟩ := own_form W9.od
      have eI : IntKind.i64.wrap (I - 1) = I - 1 := wrap_in _ (by omega) (by omega)
      clear W8 hown hgrow hwh hG8 hN hfr hs6 T3 T4 hP hLI hLD
      go_wp2
      go_roundw
      case rel => exact ⟨_, _, I - 1, rfl, by omega, hLI9.out, hLD9.out, hP9, W9, C, hG9⟩
      case measure => simp [intOf]; omega
    · obtain rfl : I = 0 := by omega
      have hn1 : 1 ≤ ls.length := by have := hLI.out; omega
      obtain ⟨⟨c0, c1⟩, -⟩ := twoC WL.vbk
      have KR2 := far_blk hG KR (fun j hj => by simp at hj; omega)
      obtain ⟨⟨m0, m1⟩, y0, y1⟩ := twoC KR2
      have HBf : Below w.heap.size w wr := HB0.grown hG HB0.size (fun j hj => by simp at hj; omega)
      have HB9 := below_set (b := w.heap.size) (o := 1) (v := .float .f64 v1) (Nat.le_refl _) (below_set (b := w.heap.size) (o := 0) (v := .float .f64 v0) (Nat.le_refl _) HBf)
      have OL9 := own_set (b := w.heap.size) (i := 1) (u := .float .f64 v1) (own_set (b := w.heap.size) (i := 0) (u := .float .f64 v0) WL.ol (fun j hj => by have := own_from WL.ol (Nat.le_refl _) j hj; omega)) (fun j hj => by have := own_from WL.ol (Nat.le_refl _) j hj; omega)
      have OD9 := own_set (b := w.heap.size) (i := 1) (u := .float .f64 v1) (own_set (b := w.heap.size) (i := 0) (u := .float .f64 v0) WL.od (fun j hj => by have := own_from WL.od (Nat.le_refl _) j hj; omega)) (fun j hj => by have := own_from WL.od (Nat.le_refl _) j hj; omega)
      have VL := Zs.own OL9
      have VD := Zs.own OD9
      have hl7 := hml
      have hpp := hP.out
      clear OL9 OD9 HBf hG WL C
      go_wp2
      refine bodyPost_ret (v := .tuple #[.agg #[.float .f64 v0, .float .f64 v1], .slice la ls.length lc, .slice da ds.length dc]) (by simp [results, Try.results17, go_sem, *]) rfl ?_
      exact ⟨⟨v0, v1⟩, la, da, lc, dc, ls, ds, by rw [hLD.out]; rfl, hLD.out, hn1, hl7, hV, hpp.1, hpp.2, VL, VD, HB9⟩
end Go.Proofs.Ytapnidhokpkmdaa
