/- Drawn trains. -/
import Derived.Test.YtipechbhhpagiaaDK
import Derived.Test.YtipechbhhpagiaaLK
import Derived.Test.YtipechbhhpagiaaMH
namespace Go.Proofs.Ytipechbhhpagiaa
open Go.RowKit
theorem Ints.off {w w' : World} {b : Option Addr} {xs : List Int} {cb : Nat} (h : Ints w b xs) (hg : w.grownBy w' (some cb)) (hbc : ∀ x, b = some x → x.block ≠ cb) : Ints w' b xs := by
  rcases h with h | ⟨g, off, rfl, hc⟩
  · exact .inl h
  · refine .inr ⟨g, off, rfl, fun i hi => ?_⟩
    have hx := hc i hi
    have hb := hg.block g (cell_lt hx) (by simpa using hbc _ rfl)
    simp only [World.cell?] at hx ⊢
    rw [hb]
    exact hx

set_option maxHeartbeats 800000 in
theorem cPick (cb cap : Nat) (a : Option Addr) (zs : List Int) (b : Option Addr) (cp : Nat) (xs : List Int) (w : World) (hc : Cur w cb a cap zs) (hl : zs.length ≤ 1048576) (hx : Ints w b xs) (hbc : ∀ x, b = some x → x.block ≠ cb) (h1 : 1 ≤ xs.length) (h2 : xs.length ≤ 1000) :
    Calls Try.prog 60 #[.pointer (some ⟨cb, 0, none⟩), .slice b xs.length cp] w fun e w' => ∃ r, e = .returned (.int .i64 r) ∧ r ∈ xs ∧ Cur w' cb a cap zs ∧ w.grownBy w' (some cb) := by
  go_enter Try.func60, Try.ntmps60
  go_wp2_with fail
  refine (cbelow cb cap a zs xs.length _ hc hl (by omega) (by omega)).mono ?_
  rintro e w1 ⟨y, rfl, y0, y1, C1, G1⟩
  have hx1 := hx.off G1 hbc
  rcases hx1 with h | ⟨nb, off, rfl, hcl⟩
  · simp [h] at h1
  have hy : y.toNat < xs.length := by omega
  have q := hcl y.toNat hy
  have hmem : xs.getD y.toNat 0 ∈ xs := by simp [List.getD, hy]
  generalize xs.getD y.toNat 0 = r at *
  clear hcl hc hx
  go_wp2
  go_ret
  exact ⟨r, rfl, hmem, C1, G1⟩
theorem three (w : World) (p q r : Int) : Ints (w.alloc (.cells #[.int .i64 p, .int .i64 q, .int .i64 r] 3)) (some ⟨w.heap.size, 0, none⟩) [p, q, r] := by
  refine .inr ⟨_, 0, rfl, fun i hi => ?_⟩
  match i, hi with
  | 0, _ => simp
  | 1, _ => simp
  | 2, _ => simp
  | (k + 3), hi => simp at hi; omega
theorem far_blk {w w' : World} {r : Option Nat} (hg : w.grownBy w' r) {g : Nat} {o : Obj} (h : w.heap[g]? = some o) (hne : ∀ j, r = some j → g ≠ j) : w'.heap[g]? = some o :=
  (hg.block g (lt_of_block h) (fun e => hne g e.symm rfl)).trans h
theorem undrewG {w w1 : World} {r : Option Nat} (h : w.drew.grownBy w1 r) : w.grownBy w1 r := ⟨h.os, h.tape, h.output, h.size, h.block⟩
/-- A drawn train. -/
def DrawnW (w : World) (e : Ending) (w' : World) : Prop :=
  ∃ (l : List Int) (v : Value), e = .returned v ∧ l.length ≤ 17 ∧ trainB l = true ∧ w'.ownsRow w.heap.size 3 1 v l.length (enc l) ∧ Below w.heap.size w w'

set_option maxRecDepth 20000 in
set_option maxHeartbeats 6400000 in
theorem cDrawW (cap : Nat) (a : Option Addr) (bs : List Int) (w : World) (hz : Bytes w a bs) (hl : bs.length ≤ 1048576) :
    Calls Try.prog 21 #[.slice a bs.length cap] w (DrawnW w) := by
  obtain ⟨i1, hi1, hy0, hy1, hy2⟩ := info_parts infoInts
  go_enter Try.func21, Try.ntmps21
  go_wp2_with fail
  refine (cnew a cap bs _ hz hl).mono ?_
  rintro e w0 ⟨cb, rfl, hcb, C0, b0⟩
  have A1 := balloc w0 (.cells #[] 3)
  have C1 := C0.below A1
  have O0 : (w0.alloc (.cells #[] 3)).ownsRow w0.heap.size 3 1 (.slice (some ⟨w0.heap.size, 0, none⟩) 0 0) 0 (enc []) := World.ownsRow_made w0 #[] 0 (Nat.le_refl _) (by unfold maxLen; omega) (by simp)
  have hcl := C0.lt (.inl rfl)
  have hOn : ∀ k, OnCur cb a bs k → k < w0.heap.size := fun k hk => C0.lt hk
  go_wp2_with fail
  refine (csize a bs.length cap 16 _ hl (by omega) (by omega)).mono ?_
  rintro e w1 ⟨r0, rfl, hr1, hr2, hw⟩
  subst w1
  go_wp2_with fail
  refine (cbelow cb cap a bs (2 + r0) _ C1 hl (by omega) (by omega)).mono ?_
  rintro e w1 ⟨n3, rfl, n30, n31, C2, G2⟩
  have OA := own_far O0 G2 (fun k hk e => by have := own_from O0 (Nat.le_refl _) k hk; simp at e; omega)
  have GA := gtrans (gofr (some cb) A1) G2
  clear A1 C1 O0 G2 C0
  go_wp2
  go_loopw [4, 5] (fun o ii wr => ∃ (ms : List Int) (I : Int), ii = .int .i64 I ∧ 0 ≤ I ∧ (ms.length : Int) + I = n3 ∧ Hid (∀ x ∈ ms, 1 ≤ x ∧ x ≤ 9999) ∧ wr.ownsRow w0.heap.size 3 1 o ms.length (enc ms) ∧ Cur wr cb a cap bs ∧ w0.grownBy wr (some cb)) (fun _ ii _ => (intOf ii).toNat)
  case atStart => exact ⟨[], n3, rfl, n30, by simp, hide (fun x hx => by simp at hx), OA, C2, GA⟩
  case round =>
    clear OA GA C2
    obtain ⟨ms, I, rfl, I0, hLI, hW, O, C, hG⟩ := hrel
    obtain ⟨go, co, rfl⟩ := own_form O
    replace hLI := hide hLI
    have hml : ms.length ≤ 17 := by have := hLI.out; omega
    have hI4 : I ≤ 17 := by have := hLI.out; omega
    by_cases hI : 0 < I
    · have F := three wr 20 300 9999
      have hA := balloc wr (.cells #[.int .i64 20, .int .i64 300, .int .i64 9999] 3)
      have hcw : cb < wr.heap.size := C.lt (.inl rfl)
      have hnb : ∀ x, (some (⟨wr.heap.size, 0, none⟩ : Addr)) = some x → x.block ≠ cb := fun x hx => by injection hx with hx; subst hx; show wr.heap.size ≠ cb; omega
      replace C := C.below hA
      replace O := own_keep O hA
      replace hG := gtrans hG (gofr _ hA)
      clear hA hcw
      go_wp2_with fail
      refine (cPick cb cap a bs _ 3 [20, 300, 9999] _ C hl F hnb (by simp) (by simp)).mono ?_
      rintro e wc ⟨kd, rfl, hkd, C', G'⟩
      have hk2 : 1 ≤ kd ∧ kd ≤ 9999 := by simp at hkd; omega
      clear F hnb hkd
      replace O := own_far O G' (fun k hk e => by have := own_from O (Nat.le_refl _) k hk; simp at e; omega)
      replace hG := gtrans hG G'
      clear C G'
      have C := C'
      clear C'
      go_wp2_with fail
      refine (cbelow cb cap a bs kd _ C hl (by omega) (by omega)).mono ?_
      rintro e wd ⟨p1, rfl, p10, p11, C', G'⟩
      replace O := own_far O G' (fun k hk e => by have := own_from O (Nat.le_refl _) k hk; simp at e; omega)
      replace hG := gtrans hG G'
      clear C G'
      have C := C'
      clear C'
      have hW2 : Hid (∀ x ∈ ms ++ [1 + p1], 1 ≤ x ∧ x ≤ 9999) := hide (fun x hx => by
        rcases List.mem_append.1 hx with h | h
        · exact hW.out x h
        · simp at h; omega)
      have hL2 : Hid (((ms ++ [1 + p1]).length : Int) + (I - 1) = n3) := hide (by have := hLI.out; simp; omega)
      have hx0 : 1 ≤ 1 + p1 ∧ 1 + p1 ≤ 9999 := by omega
      clear hW hLI
      have hszg := hG.size
      go_wp2_with (at_builtin; refine wpList_append_own _ rfl _ _ 24 rfl w0.heap.size 3 i1 _ 1 8 Try.underlying24 hi1 hy0 hy1 hy2 rfl (by decide) _ _ _ rfl (O.alloc _) ⟨wd.heap.size, 0, none⟩ 1 1 [.int .i64 (1 + p1)] rfl rfl (World.news_of_block (heap_alloc_new wd _)) (fun u hu => by simp at hu; subst hu; rfl) (by unfold maxLen; omega) (by omega) (by simp; omega) ?_)
      intro v5 w5 hown hgrow _
      have hfrom := own_from O (Nat.le_refl _)
      have C5 : Cur w5 cb a cap bs := (C.below (balloc wd (.cells #[.int .i64 (1 + p1)] 3))).grow (B := w0.heap.size) hOn hgrow hfrom
      have hG5 : w0.grownBy w5 (some cb) := grown_far (gtrans hG (gofr _ (balloc wd (.cells #[.int .i64 (1 + p1)] 3)))) hgrow hfrom
      have O5 : w5.ownsRow w0.heap.size 3 1 v5 (ms ++ [1 + p1]).length (enc (ms ++ [1 + p1])) := by rw [List.length_append]; simpa [enc] using hown
      clear hown hgrow O C hG hfrom
      go_wp2
      go_roundw
      case rel => exact ⟨ms ++ [1 + p1], I - 1, rfl, by omega, hL2.out, hW2, O5, C5, hG5⟩
      case measure => simp [intOf]; omega
    · obtain rfl : I = 0 := by omega
      have hb9 : Below w.heap.size w wr := b0.grown hG b0.size (fun k hk => by cases hk; exact hcb)
      have O9 := RowI.own_below O b0.size
      have hT9 : Hid (trainB ms = true) := hide (trainB_of (by omega) hW.out)
      clear O C hG hW hLI
      go_wp2
      go_ret
      exact ⟨ms, _, rfl, hml, hT9.out, O9, hb9⟩
end Go.Proofs.Ytipechbhhpagiaa
