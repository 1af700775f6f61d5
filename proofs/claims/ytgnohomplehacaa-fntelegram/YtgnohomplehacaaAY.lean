/- Axles of the program. -/
import Derived.Test.YtgnohomplehacaaAX
namespace Go.Proofs.Ytgnohomplehacaa
open Go.RowKit
def toldV (b : List Int) : Int := if b.length = 0 then 0 else b.getD 0 0
theorem toldV_in {b : List Int} (h : By b) : 0 ≤ toldV b ∧ toldV b ≤ 255 := by
  unfold toldV
  split
  · omega
  · exact h.at (by omega)
def cntV (c k n : Int) : Int := if k = 3 then 0 else if c = -1 then -1 else if k = 1 then c + n else if k = 2 then (if c - n < 0 then -1 else c - n) else c
structure AxSt where
  c : Int
  l : Int
  o : Int
def axS (s : AxSt) (t : TelV) : AxSt := if accV s.l t.q = 1 then ⟨s.c, s.l, s.o + 1⟩ else ⟨cntV (if accV s.l t.q = 2 then -1 else s.c) t.k (toldV t.b), t.q, s.o⟩
def axF (ts : List TelV) : AxSt := ts.foldl axS ⟨0, 255, 0⟩
def okAll (ts : List TelV) : Bool := ts.all okT
def axA (ts : List TelV) : Int × Int := if ts.length ≤ 200 ∧ okAll ts = true then ((axF ts).c, (axF ts).o) else (-1, -1)
theorem axF_snoc (ts : List TelV) (t : TelV) : axF (ts ++ [t]) = axS (axF ts) t := by simp [axF]
structure AxIn (s : AxSt) (j : Nat) : Prop where
  c0 : -1 ≤ s.c
  c1 : s.c ≤ 255 * j
  o0 : 0 ≤ s.o
  o1 : s.o ≤ j
theorem cntV_in {c k n : Int} {j : Nat} (h0 : -1 ≤ c) (h1 : c ≤ 255 * j) (n0 : 0 ≤ n) (n1 : n ≤ 255) : -1 ≤ cntV c k n ∧ cntV c k n ≤ 255 * ((j + 1 : Nat) : Int) := by
  unfold cntV
  split
  · omega
  · split
    · omega
    · split
      · omega
      · split
        · split <;> omega
        · omega
theorem AxIn.step {s : AxSt} {j : Nat} {t : TelV} (h : AxIn s j) (hb : By t.b) : AxIn (axS s t) (j + 1) := by
  obtain ⟨c0, c1, o0, o1⟩ := h
  have ht := toldV_in hb
  unfold axS
  split
  · exact ⟨c0, by show s.c ≤ _; omega, by show 0 ≤ s.o + 1; omega, by show s.o + 1 ≤ _; omega⟩
  · split
    · have := cntV_in (c := -1) (k := t.k) (j := j) (by omega) (by omega) ht.1 ht.2
      exact ⟨this.1, this.2, o0, by show s.o ≤ _; omega⟩
    · have := cntV_in (k := t.k) c0 c1 ht.1 ht.2
      exact ⟨this.1, this.2, o0, by show s.o ≤ _; omega⟩
theorem axF_in (ts : List TelV) (h : ByT ts) : ∀ j, j ≤ ts.length → AxIn (axF (ts.take j)) j := by
  intro j
  induction j with
  | zero => intro _; exact ⟨by simp [axF], by simp [axF], by simp [axF], by simp [axF]⟩
  | succ j ih =>
    intro hj
    rw [List.take_succ_eq_append_getElem (by omega), axF_snoc]
    exact (ih (by omega)).step (h _ (List.getElem_mem _))
set_option maxHeartbeats 1600000 in
theorem cTold (q k : Int) (a : Option Addr) (cp : Nat) (b : List Int) (w : World) (hb : Bys w a b) (hy : By b) (hl : b.length ≤ 1048576) :
    Calls Try.prog 75 #[.agg #[.int .i64 q, .int .i64 k, .slice a b.length cp]] w fun e w' => e = .returned (.int .i64 (toldV b)) ∧ Below w.heap.size w w' := by
  have HB := balloc w (.cells #[.int .i64 q, .int .i64 k, .slice a b.length cp] 25)
  obtain ⟨⟨x0, x1, x2⟩, -⟩ := blk3 (one_block w (.cells #[.int .i64 q, .int .i64 k, .slice a b.length cp] 25))
  by_cases h0 : b.length = 0
  · have E : Hid (toldV b = 0) := hide (by unfold toldV; rw [if_pos h0])
    have hz : ((b.length : Int) == 0) = true := by simp; exact List.length_eq_zero_iff.1 h0
    replace h0 := hide h0
    clear hb
    go_enter Try.func75, Try.ntmps75
    go_wp2
    go_ret
    exact ⟨by rw [E.out]; rfl, HB⟩
  · have E : Hid (toldV b = b.getD 0 0) := hide (by unfold toldV; rw [if_neg h0])
    have hz : ((b.length : Int) == 0) = false := by simp; intro e; exact h0 (by rw [e]; rfl)
    have h1 : 0 < b.length := by omega
    have h1i : (0 : Int) < (b.length : Int) := by omega
    obtain ⟨y0, y1⟩ := hy.at h1
    rcases hb.below HB with hb | ⟨bb, off, rfl, hc⟩
    · rw [hb] at h1; simp at h1
    have hc0 := hc 0 h1
    rw [Nat.add_zero] at hc0
    clear hc
    generalize b.getD 0 0 = z at *
    have hwz : IntKind.i64.wrap z = z := wrap_in _ (by omega) (by omega)
    go_enter Try.func75, Try.ntmps75
    go_wp2
    go_ret
    exact ⟨by rw [E.out]; rfl, HB⟩
def CtA (cb : Nat) (c l o : Int) (w : World) (e : Ending) (w' : World) : Prop := e = .returned (.tuple #[]) ∧ w'.heap[cb]? = some (.cells #[.int .i64 c, .int .i64 l, .int .i64 o] 77 (0, 0)) ∧ Below cb w w'
set_option maxRecDepth 100000 in
set_option maxHeartbeats 6400000 in
theorem cCount (cb : Nat) (c l o q k : Int) (a : Option Addr) (cp : Nat) (b : List Int) (w0 : World) (hX : w0.heap[cb]? = some (.cells #[.int .i64 c, .int .i64 l, .int .i64 o] 77 (0, 0))) (hb : Bys w0 a b) (hy : By b) (hl : b.length ≤ 1048576) (hc0 : -1 ≤ c) (hc1 : c ≤ 100000) :
    Calls Try.prog 71 #[.pointer (some ⟨cb, 0, none⟩), .agg #[.int .i64 q, .int .i64 k, .slice a b.length cp]] w0 (CtA cb (cntV c k (toldV b)) l o w0) := by
  have hcb := lt_of_block hX
  have H0 := balloc w0 (.cells #[.int .i64 q, .int .i64 k, .slice a b.length cp] 25)
  have HB : Below cb w0 (w0.alloc (.cells #[.int .i64 q, .int .i64 k, .slice a b.length cp] 25)) := H0.mono (by omega)
  have X := blk_keep H0 hX
  have Y := one_block w0 (.cells #[.int .i64 q, .int .i64 k, .slice a b.length cp] 25)
  obtain ⟨⟨p0, p1, p2⟩, f0, f1, f2⟩ := blk3 X
  obtain ⟨⟨x0, x1, x2⟩, -⟩ := blk3 Y
  have hne : w0.heap.size ≠ cb := by omega
  have ht := toldV_in hy
  have hcw : cb ≤ (w0.alloc (.cells #[.int .i64 q, .int .i64 k, .slice a b.length cp] 25)).heap.size := by simp; omega
  have CTO : ∀ W, Below (w0.alloc (.cells #[.int .i64 q, .int .i64 k, .slice a b.length cp] 25)).heap.size (w0.alloc (.cells #[.int .i64 q, .int .i64 k, .slice a b.length cp] 25)) W → Calls Try.prog 75 #[.agg #[.int .i64 q, .int .i64 k, .slice a b.length cp]] W fun e w' => e = .returned (.int .i64 (toldV b)) ∧ Below W.heap.size W w' := fun W hW => cTold q k a cp b W ((hb.below H0).below hW) hy hl
  clear hX hb
  by_cases h3 : k = 3
  · have E : Hid (cntV c k (toldV b) = 0) := hide (by unfold cntV; rw [if_pos h3])
    have k3 : (k == 3) = true := by simp [h3]
    have k1 : (k == 1) = false := by simp [h3]
    have k2 : (k == 2) = false := by simp [h3]
    replace h3 := hide h3
    have X10 : ((w0.alloc (.cells #[.int .i64 q, .int .i64 k, .slice a b.length cp] 25)).setCell ⟨cb, 0, none⟩ (.int .i64 0)).heap[cb]? = some (.cells #[.int .i64 0, .int .i64 l, .int .i64 o] 77 (0, 0)) := by
      have h9 := blk_set (i := 0) (v := .int .i64 0) X
      simpa using h9
    have Y10 := blk_other (i := 0) (v := .int .i64 0) Y hne
    have B10 : Below cb w0 ((w0.alloc (.cells #[.int .i64 q, .int .i64 k, .slice a b.length cp] 25)).setCell ⟨cb, 0, none⟩ (.int .i64 0)) := below_set (Nat.le_refl _) HB
    rw [World.setCell_alloc_past _ _ _ _ hcb] at X10 Y10 B10
    obtain ⟨⟨u0, u1, u2⟩, -⟩ := blk3 X10
    obtain ⟨⟨r0, r1, r2⟩, -⟩ := blk3 Y10
    go_enter Try.func71, Try.ntmps71
    go_wp2
    go_end0
    exact ⟨rfl, by rw [E.out]; exact X10, B10⟩
  have h3b : (k == 3) = false := by simp [h3]
  by_cases hm : c = -1
  · have E : Hid (cntV c k (toldV b) = -1) := hide (by unfold cntV; rw [if_neg h3, if_pos hm])
    subst hm
    go_enter Try.func71, Try.ntmps71
    go_wp2
    refine bodyPost_ret (results_none rfl _ _ _) rfl ?_
    exact ⟨rfl, by rw [E.out]; exact X, HB⟩
  have hmb : (c == -1) = false := by simp [hm]
  by_cases h1 : k = 1
  · have E : Hid (cntV c k (toldV b) = c + toldV b) := hide (by unfold cntV; rw [if_neg h3, if_neg hm, if_pos h1])
    have hk1 : (k == 1) = true := by simp [h1]
    have hwr : IntKind.i64.wrap (c + toldV b) = c + toldV b := wrap_in _ (by omega) (by omega)
    replace h1 := hide h1
    go_enter Try.func71, Try.ntmps71
    go_wp2_with fail
    generalize w0.alloc (.cells #[.int .i64 q, .int .i64 k, .slice a b.length cp] 25) = w at *
    generalize w0.heap.size = tb at *
    clear H0 p1 p2 f0 f1 f2
    refine wp_region_held_drew (S := (fun w' => w'.cell? ⟨tb, 0, none⟩ = some (.int .i64 q) ∧ w'.cell? ⟨tb, 1, none⟩ = some (.int .i64 k) ∧ w'.cell? ⟨tb, 2, none⟩ = some (.slice a b.length cp))) (by kernel_rfl) ?_ (fun hHeld => ?_)
    · exact ⟨x0, x1, x2⟩
    have Bd : Below w.heap.size w w.drew := (Below.refl _ _).drew
    have d0 := ble Bd x0
    have d1 := ble Bd x1
    have d2 := ble Bd x2
    have pd := ble Bd p0
    have X7 := blk_keep Bd X
    have Y7 := blk_keep Bd Y
    clear x0 x1 x2 p0
    generalize w.drew = wd at *
    refine wpAnyH_take (i := 0) (v := .pointer (some ⟨cb, 0, none⟩)) rfl (by kernel_rfl) (by kernel_rfl) (by kernel_rfl) (fun _ _ _ h => h) (Or.inl ⟨by kernel_rfl, fun w hS => by go_simp⟩) hHeld ?_
    change wpAnyH _ _ _ _ _ _ _ { tmps := List.toArray (_ :: _ :: _ :: _ :: _ :: _ :: _ :: _ :: _ :: _ :: _ :: _ :: _ :: _ :: _ :: _ :: _ :: _ :: _ :: .pointer (some ⟨cb, 0, none⟩) :: _ :: _ :: _ :: _ :: _ :: _ :: _ :: _ :: _ :: _ :: _ :: _ :: _ :: _ :: _ :: _ :: _ :: _ :: _ :: _ :: _ :: _ :: _ :: _ :: _ :: _ :: _ :: []), defers := [] } _
    refine wpAnyH_take (i := 1) (v := .pointer (some ⟨cb, 0, none⟩)) rfl (by kernel_rfl) (by kernel_rfl) (by kernel_rfl) (fun _ _ _ h => h) (Or.inl ⟨by kernel_rfl, fun w hS => by go_simp⟩) hHeld ?_
    change wpAnyH _ _ _ _ _ _ _ { tmps := List.toArray (_ :: _ :: _ :: _ :: _ :: _ :: _ :: _ :: _ :: _ :: _ :: _ :: _ :: _ :: _ :: _ :: _ :: _ :: _ :: .pointer (some ⟨cb, 0, none⟩) :: .pointer (some ⟨cb, 0, none⟩) :: _ :: _ :: _ :: _ :: _ :: _ :: _ :: _ :: _ :: _ :: _ :: _ :: _ :: _ :: _ :: _ :: _ :: _ :: _ :: _ :: _ :: _ :: _ :: _ :: _ :: _ :: []), defers := [] } _
    refine wpAnyH_take (i := 2) (v := .pointer (some ⟨cb, 0, none⟩)) rfl (by kernel_rfl) (by kernel_rfl) (by kernel_rfl) (fun _ _ _ h => h) (Or.inl ⟨by kernel_rfl, fun w hS => by go_simp⟩) hHeld ?_
    change wpAnyH _ _ _ _ _ _ _ { tmps := List.toArray (_ :: _ :: _ :: _ :: _ :: _ :: _ :: _ :: _ :: _ :: _ :: _ :: _ :: _ :: _ :: _ :: _ :: _ :: _ :: .pointer (some ⟨cb, 0, none⟩) :: .pointer (some ⟨cb, 0, none⟩) :: .pointer (some ⟨cb, 0, none⟩) :: _ :: _ :: _ :: _ :: _ :: _ :: _ :: _ :: _ :: _ :: _ :: _ :: _ :: _ :: _ :: _ :: _ :: _ :: _ :: _ :: _ :: _ :: _ :: _ :: _ :: []), defers := [] } _
    refine wpAnyH_take (i := 4) (v := .agg #[.int .i64 q, .int .i64 k, .slice a b.length cp]) rfl (by kernel_rfl) (by kernel_rfl) (by kernel_rfl) (fun _ _ _ h => h) (Or.inl ⟨by kernel_rfl, fun w hS => by (obtain ⟨hS0, hS1, hS2⟩ := hS; go_simp)⟩) hHeld ?_
    change wpAnyH _ _ _ _ _ _ _ { tmps := List.toArray (_ :: _ :: _ :: _ :: _ :: _ :: _ :: _ :: _ :: _ :: _ :: _ :: _ :: _ :: _ :: _ :: _ :: _ :: _ :: .pointer (some ⟨cb, 0, none⟩) :: .pointer (some ⟨cb, 0, none⟩) :: .pointer (some ⟨cb, 0, none⟩) :: _ :: .agg #[.int .i64 q, .int .i64 k, .slice a b.length cp] :: _ :: _ :: _ :: _ :: _ :: _ :: _ :: _ :: _ :: _ :: _ :: _ :: _ :: _ :: _ :: _ :: _ :: _ :: _ :: _ :: _ :: _ :: _ :: []), defers := [] } _
    refine wpAnyH_ready (rs := [3, 5]) (by kernel_rfl) (by simp) ?_
    refine (AllReadyH.cons rfl (fun KK hK => ?_) (AllReadyH.cons rfl (fun KK hK => ?_) AllReadyH.nil))
    · skip
      go_simp
      clear hHeld
      refine hK.out _ _ (⟨d0, d1, d2⟩) (fun hHeld => ?_)
      clear hK KK
      change wpAnyH _ _ _ _ _ _ _ { tmps := List.toArray (_ :: _ :: _ :: _ :: _ :: _ :: _ :: _ :: _ :: _ :: _ :: _ :: _ :: _ :: _ :: _ :: _ :: _ :: _ :: .pointer (some ⟨cb, 0, none⟩) :: .pointer (some ⟨cb, 0, none⟩) :: .pointer (some ⟨cb, 0, none⟩) :: .int .i64 c :: .agg #[.int .i64 q, .int .i64 k, .slice a b.length cp] :: _ :: _ :: _ :: _ :: _ :: _ :: _ :: _ :: _ :: _ :: _ :: _ :: _ :: _ :: _ :: _ :: _ :: _ :: _ :: _ :: _ :: _ :: _ :: []), defers := [] } _
      refine wpAnyH_ready (rs := [5]) (by kernel_rfl) (by simp) ?_
      refine (AllReadyH.cons rfl (fun KK hK => ?_) AllReadyH.nil)
      go_simp
      refine (CTO _ Bd).mono ?_
      rintro e wp ⟨rfl, hbp⟩
      have pp := ble hbp pd
      have X8 := blk_keep hbp X7
      have Y8 := blk_keep hbp Y7
      have B8 := btrans Bd hbp
      have pf := (blk3 X8).2.1
      go_wp2_with fail
      clear hHeld
      refine hK.out _ _ (⟨ble hbp d0, ble hbp d1, ble hbp d2⟩) (fun hHeld => ?_)
      clear hK KK
      change wpAnyH _ _ _ _ _ _ _ { tmps := List.toArray (_ :: _ :: _ :: _ :: _ :: _ :: _ :: _ :: _ :: _ :: _ :: _ :: _ :: _ :: _ :: _ :: _ :: _ :: _ :: .pointer (some ⟨cb, 0, none⟩) :: .pointer (some ⟨cb, 0, none⟩) :: .pointer (some ⟨cb, 0, none⟩) :: .int .i64 c :: .agg #[.int .i64 q, .int .i64 k, .slice a b.length cp] :: .int .i64 (toldV b) :: _ :: _ :: _ :: _ :: _ :: _ :: _ :: _ :: _ :: _ :: _ :: _ :: _ :: _ :: _ :: _ :: _ :: _ :: _ :: _ :: _ :: _ :: []), defers := [] } _
      refine wpAnyH_take (i := 6) (v := .int .i64 (c + toldV b)) rfl (by kernel_rfl) (by kernel_rfl) (by kernel_rfl) (fun _ _ _ h => h) (Or.inl ⟨by kernel_rfl, fun w hS => by go_simp⟩) hHeld ?_
      change wpAnyH _ _ _ _ _ _ _ { tmps := List.toArray (_ :: _ :: _ :: _ :: _ :: _ :: _ :: _ :: _ :: _ :: _ :: _ :: _ :: _ :: _ :: _ :: _ :: _ :: _ :: .pointer (some ⟨cb, 0, none⟩) :: .pointer (some ⟨cb, 0, none⟩) :: .pointer (some ⟨cb, 0, none⟩) :: .int .i64 c :: .agg #[.int .i64 q, .int .i64 k, .slice a b.length cp] :: .int .i64 (toldV b) :: .int .i64 (c + toldV b) :: _ :: _ :: _ :: _ :: _ :: _ :: _ :: _ :: _ :: _ :: _ :: _ :: _ :: _ :: _ :: _ :: _ :: _ :: _ :: _ :: _ :: []), defers := [] } _
      refine wpAnyH_take (i := 7) (v := .pointer (some ⟨cb, 0, none⟩)) rfl (by kernel_rfl) (by kernel_rfl) (by kernel_rfl) (fun _ _ _ h => h) (Or.inl ⟨by kernel_rfl, fun w hS => by go_simp⟩) hHeld ?_
      change wpAnyH _ _ _ _ _ _ _ { tmps := List.toArray (_ :: _ :: _ :: _ :: _ :: _ :: _ :: _ :: _ :: _ :: _ :: _ :: _ :: _ :: _ :: _ :: _ :: _ :: _ :: .pointer (some ⟨cb, 0, none⟩) :: .pointer (some ⟨cb, 0, none⟩) :: .pointer (some ⟨cb, 0, none⟩) :: .int .i64 c :: .agg #[.int .i64 q, .int .i64 k, .slice a b.length cp] :: .int .i64 (toldV b) :: .int .i64 (c + toldV b) :: .pointer (some ⟨cb, 0, none⟩) :: _ :: _ :: _ :: _ :: _ :: _ :: _ :: _ :: _ :: _ :: _ :: _ :: _ :: _ :: _ :: _ :: _ :: _ :: _ :: _ :: []), defers := [] } _
      refine wpAnyH_take (i := 8) (v := .pointer (some ⟨cb, 0, none⟩)) rfl (by kernel_rfl) (by kernel_rfl) (by kernel_rfl) (fun _ _ _ h => h) (Or.inl ⟨by kernel_rfl, fun w hS => by go_simp⟩) hHeld ?_
      change wpAnyH _ _ _ _ _ _ _ { tmps := List.toArray (_ :: _ :: _ :: _ :: _ :: _ :: _ :: _ :: _ :: _ :: _ :: _ :: _ :: _ :: _ :: _ :: _ :: _ :: _ :: .pointer (some ⟨cb, 0, none⟩) :: .pointer (some ⟨cb, 0, none⟩) :: .pointer (some ⟨cb, 0, none⟩) :: .int .i64 c :: .agg #[.int .i64 q, .int .i64 k, .slice a b.length cp] :: .int .i64 (toldV b) :: .int .i64 (c + toldV b) :: .pointer (some ⟨cb, 0, none⟩) :: .pointer (some ⟨cb, 0, none⟩) :: _ :: _ :: _ :: _ :: _ :: _ :: _ :: _ :: _ :: _ :: _ :: _ :: _ :: _ :: _ :: _ :: _ :: _ :: _ :: []), defers := [] } _
      refine wpAnyH_ready (rs := [9]) (by kernel_rfl) (by simp) ?_
      refine (AllReadyH.cons rfl (fun KK hK => ?_) AllReadyH.nil)
      go_simp
      have Y9 := blk_other (i := 0) (v := .int .i64 (c + toldV b)) Y8 hne
      have Z9 := (blk3 Y9).1
      have X9 : (wp.setCell ⟨cb, 0, none⟩ (.int .i64 (c + toldV b))).heap[cb]? = some (.cells #[.int .i64 (c + toldV b), .int .i64 l, .int .i64 o] 77 (0, 0)) := by
        have h9 := blk_set (i := 0) (v := .int .i64 (c + toldV b)) X8
        simpa using h9
      have B9 : Below cb w0 (wp.setCell ⟨cb, 0, none⟩ (.int .i64 (c + toldV b))) := below_set (Nat.le_refl _) ((HB.trans (B8.mono hcw)))
      clear hHeld
      refine hK.out _ _ (⟨Z9.1, Z9.2.1, Z9.2.2⟩) (fun hHeld => ?_)
      clear hK KK
      change wpAnyH _ _ _ _ _ _ _ { tmps := List.toArray (_ :: _ :: _ :: _ :: _ :: _ :: _ :: _ :: _ :: _ :: _ :: _ :: _ :: _ :: _ :: _ :: _ :: _ :: _ :: .pointer (some ⟨cb, 0, none⟩) :: .pointer (some ⟨cb, 0, none⟩) :: .pointer (some ⟨cb, 0, none⟩) :: .int .i64 c :: .agg #[.int .i64 q, .int .i64 k, .slice a b.length cp] :: .int .i64 (toldV b) :: .int .i64 (c + toldV b) :: .pointer (some ⟨cb, 0, none⟩) :: .pointer (some ⟨cb, 0, none⟩) :: _ :: _ :: _ :: _ :: _ :: _ :: _ :: _ :: _ :: _ :: _ :: _ :: _ :: _ :: _ :: _ :: _ :: _ :: _ :: []), defers := [] } _
      refine wpAnyH_done (by kernel_rfl) ?_ _
      clear pd pp pf Y8 X8 Y9 Z9 d0 d1 d2 X7 Y7
      obtain ⟨⟨u0, u1, u2⟩, v0, v1, v2⟩ := blk3 X9
      have hng : ¬ (c + toldV b < 0) := by omega
      go_wp2
      go_end0
      exact ⟨rfl, by rw [E.out]; exact X9, B9⟩
    · skip
      go_simp
      refine (CTO _ Bd).mono ?_
      rintro e wp ⟨rfl, hbp⟩
      have pp := ble hbp pd
      have X8 := blk_keep hbp X7
      have Y8 := blk_keep hbp Y7
      have B8 := btrans Bd hbp
      have pf := (blk3 X8).2.1
      go_wp2_with fail
      clear hHeld
      refine hK.out _ _ (⟨ble hbp d0, ble hbp d1, ble hbp d2⟩) (fun hHeld => ?_)
      clear hK KK
      change wpAnyH _ _ _ _ _ _ _ { tmps := List.toArray (_ :: _ :: _ :: _ :: _ :: _ :: _ :: _ :: _ :: _ :: _ :: _ :: _ :: _ :: _ :: _ :: _ :: _ :: _ :: .pointer (some ⟨cb, 0, none⟩) :: .pointer (some ⟨cb, 0, none⟩) :: .pointer (some ⟨cb, 0, none⟩) :: _ :: .agg #[.int .i64 q, .int .i64 k, .slice a b.length cp] :: .int .i64 (toldV b) :: _ :: _ :: _ :: _ :: _ :: _ :: _ :: _ :: _ :: _ :: _ :: _ :: _ :: _ :: _ :: _ :: _ :: _ :: _ :: _ :: _ :: _ :: []), defers := [] } _
      refine wpAnyH_ready (rs := [3]) (by kernel_rfl) (by simp) ?_
      refine (AllReadyH.cons rfl (fun KK hK => ?_) AllReadyH.nil)
      go_simp
      clear hHeld
      refine hK.out _ _ (⟨ble hbp d0, ble hbp d1, ble hbp d2⟩) (fun hHeld => ?_)
      clear hK KK
      change wpAnyH _ _ _ _ _ _ _ { tmps := List.toArray (_ :: _ :: _ :: _ :: _ :: _ :: _ :: _ :: _ :: _ :: _ :: _ :: _ :: _ :: _ :: _ :: _ :: _ :: _ :: .pointer (some ⟨cb, 0, none⟩) :: .pointer (some ⟨cb, 0, none⟩) :: .pointer (some ⟨cb, 0, none⟩) :: .int .i64 c :: .agg #[.int .i64 q, .int .i64 k, .slice a b.length cp] :: .int .i64 (toldV b) :: _ :: _ :: _ :: _ :: _ :: _ :: _ :: _ :: _ :: _ :: _ :: _ :: _ :: _ :: _ :: _ :: _ :: _ :: _ :: _ :: _ :: _ :: []), defers := [] } _
      refine wpAnyH_take (i := 6) (v := .int .i64 (c + toldV b)) rfl (by kernel_rfl) (by kernel_rfl) (by kernel_rfl) (fun _ _ _ h => h) (Or.inl ⟨by kernel_rfl, fun w hS => by go_simp⟩) hHeld ?_
      change wpAnyH _ _ _ _ _ _ _ { tmps := List.toArray (_ :: _ :: _ :: _ :: _ :: _ :: _ :: _ :: _ :: _ :: _ :: _ :: _ :: _ :: _ :: _ :: _ :: _ :: _ :: .pointer (some ⟨cb, 0, none⟩) :: .pointer (some ⟨cb, 0, none⟩) :: .pointer (some ⟨cb, 0, none⟩) :: .int .i64 c :: .agg #[.int .i64 q, .int .i64 k, .slice a b.length cp] :: .int .i64 (toldV b) :: .int .i64 (c + toldV b) :: _ :: _ :: _ :: _ :: _ :: _ :: _ :: _ :: _ :: _ :: _ :: _ :: _ :: _ :: _ :: _ :: _ :: _ :: _ :: _ :: _ :: []), defers := [] } _
      refine wpAnyH_take (i := 7) (v := .pointer (some ⟨cb, 0, none⟩)) rfl (by kernel_rfl) (by kernel_rfl) (by kernel_rfl) (fun _ _ _ h => h) (Or.inl ⟨by kernel_rfl, fun w hS => by go_simp⟩) hHeld ?_
      change wpAnyH _ _ _ _ _ _ _ { tmps := List.toArray (_ :: _ :: _ :: _ :: _ :: _ :: _ :: _ :: _ :: _ :: _ :: _ :: _ :: _ :: _ :: _ :: _ :: _ :: _ :: .pointer (some ⟨cb, 0, none⟩) :: .pointer (some ⟨cb, 0, none⟩) :: .pointer (some ⟨cb, 0, none⟩) :: .int .i64 c :: .agg #[.int .i64 q, .int .i64 k, .slice a b.length cp] :: .int .i64 (toldV b) :: .int .i64 (c + toldV b) :: .pointer (some ⟨cb, 0, none⟩) :: _ :: _ :: _ :: _ :: _ :: _ :: _ :: _ :: _ :: _ :: _ :: _ :: _ :: _ :: _ :: _ :: _ :: _ :: _ :: _ :: []), defers := [] } _
      refine wpAnyH_take (i := 8) (v := .pointer (some ⟨cb, 0, none⟩)) rfl (by kernel_rfl) (by kernel_rfl) (by kernel_rfl) (fun _ _ _ h => h) (Or.inl ⟨by kernel_rfl, fun w hS => by go_simp⟩) hHeld ?_
      change wpAnyH _ _ _ _ _ _ _ { tmps := List.toArray (_ :: _ :: _ :: _ :: _ :: _ :: _ :: _ :: _ :: _ :: _ :: _ :: _ :: _ :: _ :: _ :: _ :: _ :: _ :: .pointer (some ⟨cb, 0, none⟩) :: .pointer (some ⟨cb, 0, none⟩) :: .pointer (some ⟨cb, 0, none⟩) :: .int .i64 c :: .agg #[.int .i64 q, .int .i64 k, .slice a b.length cp] :: .int .i64 (toldV b) :: .int .i64 (c + toldV b) :: .pointer (some ⟨cb, 0, none⟩) :: .pointer (some ⟨cb, 0, none⟩) :: _ :: _ :: _ :: _ :: _ :: _ :: _ :: _ :: _ :: _ :: _ :: _ :: _ :: _ :: _ :: _ :: _ :: _ :: _ :: []), defers := [] } _
      refine wpAnyH_ready (rs := [9]) (by kernel_rfl) (by simp) ?_
      refine (AllReadyH.cons rfl (fun KK hK => ?_) AllReadyH.nil)
      go_simp
      have Y9 := blk_other (i := 0) (v := .int .i64 (c + toldV b)) Y8 hne
      have Z9 := (blk3 Y9).1
      have X9 : (wp.setCell ⟨cb, 0, none⟩ (.int .i64 (c + toldV b))).heap[cb]? = some (.cells #[.int .i64 (c + toldV b), .int .i64 l, .int .i64 o] 77 (0, 0)) := by
        have h9 := blk_set (i := 0) (v := .int .i64 (c + toldV b)) X8
        simpa using h9
      have B9 : Below cb w0 (wp.setCell ⟨cb, 0, none⟩ (.int .i64 (c + toldV b))) := below_set (Nat.le_refl _) ((HB.trans (B8.mono hcw)))
      clear hHeld
      refine hK.out _ _ (⟨Z9.1, Z9.2.1, Z9.2.2⟩) (fun hHeld => ?_)
      clear hK KK
      change wpAnyH _ _ _ _ _ _ _ { tmps := List.toArray (_ :: _ :: _ :: _ :: _ :: _ :: _ :: _ :: _ :: _ :: _ :: _ :: _ :: _ :: _ :: _ :: _ :: _ :: _ :: .pointer (some ⟨cb, 0, none⟩) :: .pointer (some ⟨cb, 0, none⟩) :: .pointer (some ⟨cb, 0, none⟩) :: .int .i64 c :: .agg #[.int .i64 q, .int .i64 k, .slice a b.length cp] :: .int .i64 (toldV b) :: .int .i64 (c + toldV b) :: .pointer (some ⟨cb, 0, none⟩) :: .pointer (some ⟨cb, 0, none⟩) :: _ :: _ :: _ :: _ :: _ :: _ :: _ :: _ :: _ :: _ :: _ :: _ :: _ :: _ :: _ :: _ :: _ :: _ :: _ :: []), defers := [] } _
      refine wpAnyH_done (by kernel_rfl) ?_ _
      clear pd pp pf Y8 X8 Y9 Z9 d0 d1 d2 X7 Y7
      obtain ⟨⟨u0, u1, u2⟩, v0, v1, v2⟩ := blk3 X9
      have hng : ¬ (c + toldV b < 0) := by omega
      go_wp2
      go_end0
      exact ⟨rfl, by rw [E.out]; exact X9, B9⟩
  have h1b : (k == 1) = false := by simp [h1]
  by_cases h2 : k = 2
  · have E : Hid (cntV c k (toldV b) = if c - toldV b < 0 then -1 else c - toldV b) := hide (by unfold cntV; rw [if_neg h3, if_neg hm, if_neg h1, if_pos h2])
    have hk2 : (k == 2) = true := by simp [h2]
    have hwr : IntKind.i64.wrap (c - toldV b) = c - toldV b := wrap_in _ (by omega) (by omega)
    replace h2 := hide h2
    go_enter Try.func71, Try.ntmps71
    go_wp2_with fail
    generalize w0.alloc (.cells #[.int .i64 q, .int .i64 k, .slice a b.length cp] 25) = w at *
    generalize w0.heap.size = tb at *
    clear H0 p1 p2 f0 f1 f2
    refine wp_region_held_drew (S := (fun w' => w'.cell? ⟨tb, 0, none⟩ = some (.int .i64 q) ∧ w'.cell? ⟨tb, 1, none⟩ = some (.int .i64 k) ∧ w'.cell? ⟨tb, 2, none⟩ = some (.slice a b.length cp))) (by kernel_rfl) ?_ (fun hHeld => ?_)
    · exact ⟨x0, x1, x2⟩
    have Bd : Below w.heap.size w w.drew := (Below.refl _ _).drew
    have d0 := ble Bd x0
    have d1 := ble Bd x1
    have d2 := ble Bd x2
    have pd := ble Bd p0
    have X7 := blk_keep Bd X
    have Y7 := blk_keep Bd Y
    clear x0 x1 x2 p0
    generalize w.drew = wd at *
    refine wpAnyH_take (i := 0) (v := .pointer (some ⟨cb, 0, none⟩)) rfl (by kernel_rfl) (by kernel_rfl) (by kernel_rfl) (fun _ _ _ h => h) (Or.inl ⟨by kernel_rfl, fun w hS => by go_simp⟩) hHeld ?_
    change wpAnyH _ _ _ _ _ _ _ { tmps := List.toArray (_ :: _ :: _ :: _ :: _ :: _ :: _ :: _ :: _ :: _ :: _ :: _ :: _ :: _ :: _ :: _ :: _ :: _ :: _ :: _ :: _ :: _ :: _ :: _ :: _ :: _ :: _ :: _ :: _ :: _ :: .pointer (some ⟨cb, 0, none⟩) :: _ :: _ :: _ :: _ :: _ :: _ :: _ :: _ :: _ :: _ :: _ :: _ :: _ :: _ :: _ :: _ :: []), defers := [] } _
    refine wpAnyH_take (i := 1) (v := .pointer (some ⟨cb, 0, none⟩)) rfl (by kernel_rfl) (by kernel_rfl) (by kernel_rfl) (fun _ _ _ h => h) (Or.inl ⟨by kernel_rfl, fun w hS => by go_simp⟩) hHeld ?_
    change wpAnyH _ _ _ _ _ _ _ { tmps := List.toArray (_ :: _ :: _ :: _ :: _ :: _ :: _ :: _ :: _ :: _ :: _ :: _ :: _ :: _ :: _ :: _ :: _ :: _ :: _ :: _ :: _ :: _ :: _ :: _ :: _ :: _ :: _ :: _ :: _ :: _ :: .pointer (some ⟨cb, 0, none⟩) :: .pointer (some ⟨cb, 0, none⟩) :: _ :: _ :: _ :: _ :: _ :: _ :: _ :: _ :: _ :: _ :: _ :: _ :: _ :: _ :: _ :: []), defers := [] } _
    refine wpAnyH_take (i := 2) (v := .pointer (some ⟨cb, 0, none⟩)) rfl (by kernel_rfl) (by kernel_rfl) (by kernel_rfl) (fun _ _ _ h => h) (Or.inl ⟨by kernel_rfl, fun w hS => by go_simp⟩) hHeld ?_
    change wpAnyH _ _ _ _ _ _ _ { tmps := List.toArray (_ :: _ :: _ :: _ :: _ :: _ :: _ :: _ :: _ :: _ :: _ :: _ :: _ :: _ :: _ :: _ :: _ :: _ :: _ :: _ :: _ :: _ :: _ :: _ :: _ :: _ :: _ :: _ :: _ :: _ :: .pointer (some ⟨cb, 0, none⟩) :: .pointer (some ⟨cb, 0, none⟩) :: .pointer (some ⟨cb, 0, none⟩) :: _ :: _ :: _ :: _ :: _ :: _ :: _ :: _ :: _ :: _ :: _ :: _ :: _ :: _ :: []), defers := [] } _
    refine wpAnyH_take (i := 4) (v := .agg #[.int .i64 q, .int .i64 k, .slice a b.length cp]) rfl (by kernel_rfl) (by kernel_rfl) (by kernel_rfl) (fun _ _ _ h => h) (Or.inl ⟨by kernel_rfl, fun w hS => by (obtain ⟨hS0, hS1, hS2⟩ := hS; go_simp)⟩) hHeld ?_
    change wpAnyH _ _ _ _ _ _ _ { tmps := List.toArray (_ :: _ :: _ :: _ :: _ :: _ :: _ :: _ :: _ :: _ :: _ :: _ :: _ :: _ :: _ :: _ :: _ :: _ :: _ :: _ :: _ :: _ :: _ :: _ :: _ :: _ :: _ :: _ :: _ :: _ :: .pointer (some ⟨cb, 0, none⟩) :: .pointer (some ⟨cb, 0, none⟩) :: .pointer (some ⟨cb, 0, none⟩) :: _ :: .agg #[.int .i64 q, .int .i64 k, .slice a b.length cp] :: _ :: _ :: _ :: _ :: _ :: _ :: _ :: _ :: _ :: _ :: _ :: _ :: []), defers := [] } _
    refine wpAnyH_ready (rs := [3, 5]) (by kernel_rfl) (by simp) ?_
    refine (AllReadyH.cons rfl (fun KK hK => ?_) (AllReadyH.cons rfl (fun KK hK => ?_) AllReadyH.nil))
    · skip
      go_simp
      clear hHeld
      refine hK.out _ _ (⟨d0, d1, d2⟩) (fun hHeld => ?_)
      clear hK KK
      change wpAnyH _ _ _ _ _ _ _ { tmps := List.toArray (_ :: _ :: _ :: _ :: _ :: _ :: _ :: _ :: _ :: _ :: _ :: _ :: _ :: _ :: _ :: _ :: _ :: _ :: _ :: _ :: _ :: _ :: _ :: _ :: _ :: _ :: _ :: _ :: _ :: _ :: .pointer (some ⟨cb, 0, none⟩) :: .pointer (some ⟨cb, 0, none⟩) :: .pointer (some ⟨cb, 0, none⟩) :: .int .i64 c :: .agg #[.int .i64 q, .int .i64 k, .slice a b.length cp] :: _ :: _ :: _ :: _ :: _ :: _ :: _ :: _ :: _ :: _ :: _ :: _ :: []), defers := [] } _
      refine wpAnyH_ready (rs := [5]) (by kernel_rfl) (by simp) ?_
      refine (AllReadyH.cons rfl (fun KK hK => ?_) AllReadyH.nil)
      go_simp
      refine (CTO _ Bd).mono ?_
      rintro e wp ⟨rfl, hbp⟩
      have pp := ble hbp pd
      have X8 := blk_keep hbp X7
      have Y8 := blk_keep hbp Y7
      have B8 := btrans Bd hbp
      have pf := (blk3 X8).2.1
      go_wp2_with fail
      clear hHeld
      refine hK.out _ _ (⟨ble hbp d0, ble hbp d1, ble hbp d2⟩) (fun hHeld => ?_)
      clear hK KK
      change wpAnyH _ _ _ _ _ _ _ { tmps := List.toArray (_ :: _ :: _ :: _ :: _ :: _ :: _ :: _ :: _ :: _ :: _ :: _ :: _ :: _ :: _ :: _ :: _ :: _ :: _ :: _ :: _ :: _ :: _ :: _ :: _ :: _ :: _ :: _ :: _ :: _ :: .pointer (some ⟨cb, 0, none⟩) :: .pointer (some ⟨cb, 0, none⟩) :: .pointer (some ⟨cb, 0, none⟩) :: .int .i64 c :: .agg #[.int .i64 q, .int .i64 k, .slice a b.length cp] :: .int .i64 (toldV b) :: _ :: _ :: _ :: _ :: _ :: _ :: _ :: _ :: _ :: _ :: _ :: []), defers := [] } _
      refine wpAnyH_take (i := 6) (v := .int .i64 (c - toldV b)) rfl (by kernel_rfl) (by kernel_rfl) (by kernel_rfl) (fun _ _ _ h => h) (Or.inl ⟨by kernel_rfl, fun w hS => by go_simp⟩) hHeld ?_
      change wpAnyH _ _ _ _ _ _ _ { tmps := List.toArray (_ :: _ :: _ :: _ :: _ :: _ :: _ :: _ :: _ :: _ :: _ :: _ :: _ :: _ :: _ :: _ :: _ :: _ :: _ :: _ :: _ :: _ :: _ :: _ :: _ :: _ :: _ :: _ :: _ :: _ :: .pointer (some ⟨cb, 0, none⟩) :: .pointer (some ⟨cb, 0, none⟩) :: .pointer (some ⟨cb, 0, none⟩) :: .int .i64 c :: .agg #[.int .i64 q, .int .i64 k, .slice a b.length cp] :: .int .i64 (toldV b) :: .int .i64 (c - toldV b) :: _ :: _ :: _ :: _ :: _ :: _ :: _ :: _ :: _ :: _ :: []), defers := [] } _
      refine wpAnyH_take (i := 7) (v := .pointer (some ⟨cb, 0, none⟩)) rfl (by kernel_rfl) (by kernel_rfl) (by kernel_rfl) (fun _ _ _ h => h) (Or.inl ⟨by kernel_rfl, fun w hS => by go_simp⟩) hHeld ?_
      change wpAnyH _ _ _ _ _ _ _ { tmps := List.toArray (_ :: _ :: _ :: _ :: _ :: _ :: _ :: _ :: _ :: _ :: _ :: _ :: _ :: _ :: _ :: _ :: _ :: _ :: _ :: _ :: _ :: _ :: _ :: _ :: _ :: _ :: _ :: _ :: _ :: _ :: .pointer (some ⟨cb, 0, none⟩) :: .pointer (some ⟨cb, 0, none⟩) :: .pointer (some ⟨cb, 0, none⟩) :: .int .i64 c :: .agg #[.int .i64 q, .int .i64 k, .slice a b.length cp] :: .int .i64 (toldV b) :: .int .i64 (c - toldV b) :: .pointer (some ⟨cb, 0, none⟩) :: _ :: _ :: _ :: _ :: _ :: _ :: _ :: _ :: _ :: []), defers := [] } _
      refine wpAnyH_take (i := 8) (v := .pointer (some ⟨cb, 0, none⟩)) rfl (by kernel_rfl) (by kernel_rfl) (by kernel_rfl) (fun _ _ _ h => h) (Or.inl ⟨by kernel_rfl, fun w hS => by go_simp⟩) hHeld ?_
      change wpAnyH _ _ _ _ _ _ _ { tmps := List.toArray (_ :: _ :: _ :: _ :: _ :: _ :: _ :: _ :: _ :: _ :: _ :: _ :: _ :: _ :: _ :: _ :: _ :: _ :: _ :: _ :: _ :: _ :: _ :: _ :: _ :: _ :: _ :: _ :: _ :: _ :: .pointer (some ⟨cb, 0, none⟩) :: .pointer (some ⟨cb, 0, none⟩) :: .pointer (some ⟨cb, 0, none⟩) :: .int .i64 c :: .agg #[.int .i64 q, .int .i64 k, .slice a b.length cp] :: .int .i64 (toldV b) :: .int .i64 (c - toldV b) :: .pointer (some ⟨cb, 0, none⟩) :: .pointer (some ⟨cb, 0, none⟩) :: _ :: _ :: _ :: _ :: _ :: _ :: _ :: _ :: []), defers := [] } _
      refine wpAnyH_ready (rs := [9]) (by kernel_rfl) (by simp) ?_
      refine (AllReadyH.cons rfl (fun KK hK => ?_) AllReadyH.nil)
      go_simp
      have Y9 := blk_other (i := 0) (v := .int .i64 (c - toldV b)) Y8 hne
      have Z9 := (blk3 Y9).1
      have X9 : (wp.setCell ⟨cb, 0, none⟩ (.int .i64 (c - toldV b))).heap[cb]? = some (.cells #[.int .i64 (c - toldV b), .int .i64 l, .int .i64 o] 77 (0, 0)) := by
        have h9 := blk_set (i := 0) (v := .int .i64 (c - toldV b)) X8
        simpa using h9
      have B9 : Below cb w0 (wp.setCell ⟨cb, 0, none⟩ (.int .i64 (c - toldV b))) := below_set (Nat.le_refl _) ((HB.trans (B8.mono hcw)))
      clear hHeld
      refine hK.out _ _ (⟨Z9.1, Z9.2.1, Z9.2.2⟩) (fun hHeld => ?_)
      clear hK KK
      change wpAnyH _ _ _ _ _ _ _ { tmps := List.toArray (_ :: _ :: _ :: _ :: _ :: _ :: _ :: _ :: _ :: _ :: _ :: _ :: _ :: _ :: _ :: _ :: _ :: _ :: _ :: _ :: _ :: _ :: _ :: _ :: _ :: _ :: _ :: _ :: _ :: _ :: .pointer (some ⟨cb, 0, none⟩) :: .pointer (some ⟨cb, 0, none⟩) :: .pointer (some ⟨cb, 0, none⟩) :: .int .i64 c :: .agg #[.int .i64 q, .int .i64 k, .slice a b.length cp] :: .int .i64 (toldV b) :: .int .i64 (c - toldV b) :: .pointer (some ⟨cb, 0, none⟩) :: .pointer (some ⟨cb, 0, none⟩) :: _ :: _ :: _ :: _ :: _ :: _ :: _ :: _ :: []), defers := [] } _
      refine wpAnyH_done (by kernel_rfl) ?_ _
      clear pd pp pf Y8 X8 Y9 Z9 d0 d1 d2 X7 Y7
      obtain ⟨⟨u0, u1, u2⟩, v0, v1, v2⟩ := blk3 X9
      by_cases hlt : c - toldV b < 0
      · have E2 : Hid (cntV c k (toldV b) = -1) := hide (by rw [E.out, if_pos hlt])
        have X10 : ((wp.setCell ⟨cb, 0, none⟩ (.int .i64 (c - toldV b))).setCell ⟨cb, 0, none⟩ (.int .i64 (-1))).heap[cb]? = some (.cells #[.int .i64 (-1), .int .i64 l, .int .i64 o] 77 (0, 0)) := by
          have h9 := blk_set (i := 0) (v := .int .i64 (-1)) X9
          simpa using h9
        have B10 := below_set (o := 0) (v := .int .i64 (-1)) (Nat.le_refl _) B9
        go_wp2
        go_end0
        exact ⟨rfl, by rw [E2.out]; exact X10, B10⟩
      · have E2 : Hid (cntV c k (toldV b) = c - toldV b) := hide (by rw [E.out, if_neg hlt])
        go_wp2
        go_end0
        exact ⟨rfl, by rw [E2.out]; exact X9, B9⟩
    · skip
      go_simp
      refine (CTO _ Bd).mono ?_
      rintro e wp ⟨rfl, hbp⟩
      have pp := ble hbp pd
      have X8 := blk_keep hbp X7
      have Y8 := blk_keep hbp Y7
      have B8 := btrans Bd hbp
      have pf := (blk3 X8).2.1
      go_wp2_with fail
      clear hHeld
      refine hK.out _ _ (⟨ble hbp d0, ble hbp d1, ble hbp d2⟩) (fun hHeld => ?_)
      clear hK KK
      change wpAnyH _ _ _ _ _ _ _ { tmps := List.toArray (_ :: _ :: _ :: _ :: _ :: _ :: _ :: _ :: _ :: _ :: _ :: _ :: _ :: _ :: _ :: _ :: _ :: _ :: _ :: _ :: _ :: _ :: _ :: _ :: _ :: _ :: _ :: _ :: _ :: _ :: .pointer (some ⟨cb, 0, none⟩) :: .pointer (some ⟨cb, 0, none⟩) :: .pointer (some ⟨cb, 0, none⟩) :: _ :: .agg #[.int .i64 q, .int .i64 k, .slice a b.length cp] :: .int .i64 (toldV b) :: _ :: _ :: _ :: _ :: _ :: _ :: _ :: _ :: _ :: _ :: _ :: []), defers := [] } _
      refine wpAnyH_ready (rs := [3]) (by kernel_rfl) (by simp) ?_
      refine (AllReadyH.cons rfl (fun KK hK => ?_) AllReadyH.nil)
      go_simp
      clear hHeld
      refine hK.out _ _ (⟨ble hbp d0, ble hbp d1, ble hbp d2⟩) (fun hHeld => ?_)
      clear hK KK
      change wpAnyH _ _ _ _ _ _ _ { tmps := List.toArray (_ :: _ :: _ :: _ :: _ :: _ :: _ :: _ :: _ :: _ :: _ :: _ :: _ :: _ :: _ :: _ :: _ :: _ :: _ :: _ :: _ :: _ :: _ :: _ :: _ :: _ :: _ :: _ :: _ :: _ :: .pointer (some ⟨cb, 0, none⟩) :: .pointer (some ⟨cb, 0, none⟩) :: .pointer (some ⟨cb, 0, none⟩) :: .int .i64 c :: .agg #[.int .i64 q, .int .i64 k, .slice a b.length cp] :: .int .i64 (toldV b) :: _ :: _ :: _ :: _ :: _ :: _ :: _ :: _ :: _ :: _ :: _ :: []), defers := [] } _
      refine wpAnyH_take (i := 6) (v := .int .i64 (c - toldV b)) rfl (by kernel_rfl) (by kernel_rfl) (by kernel_rfl) (fun _ _ _ h => h) (Or.inl ⟨by kernel_rfl, fun w hS => by go_simp⟩) hHeld ?_
      change wpAnyH _ _ _ _ _ _ _ { tmps := List.toArray (_ :: _ :: _ :: _ :: _ :: _ :: _ :: _ :: _ :: _ :: _ :: _ :: _ :: _ :: _ :: _ :: _ :: _ :: _ :: _ :: _ :: _ :: _ :: _ :: _ :: _ :: _ :: _ :: _ :: _ :: .pointer (some ⟨cb, 0, none⟩) :: .pointer (some ⟨cb, 0, none⟩) :: .pointer (some ⟨cb, 0, none⟩) :: .int .i64 c :: .agg #[.int .i64 q, .int .i64 k, .slice a b.length cp] :: .int .i64 (toldV b) :: .int .i64 (c - toldV b) :: _ :: _ :: _ :: _ :: _ :: _ :: _ :: _ :: _ :: _ :: []), defers := [] } _
      refine wpAnyH_take (i := 7) (v := .pointer (some ⟨cb, 0, none⟩)) rfl (by kernel_rfl) (by kernel_rfl) (by kernel_rfl) (fun _ _ _ h => h) (Or.inl ⟨by kernel_rfl, fun w hS => by go_simp⟩) hHeld ?_
      change wpAnyH _ _ _ _ _ _ _ { tmps := List.toArray (_ :: _ :: _ :: _ :: _ :: _ :: _ :: _ :: _ :: _ :: _ :: _ :: _ :: _ :: _ :: _ :: _ :: _ :: _ :: _ :: _ :: _ :: _ :: _ :: _ :: _ :: _ :: _ :: _ :: _ :: .pointer (some ⟨cb, 0, none⟩) :: .pointer (some ⟨cb, 0, none⟩) :: .pointer (some ⟨cb, 0, none⟩) :: .int .i64 c :: .agg #[.int .i64 q, .int .i64 k, .slice a b.length cp] :: .int .i64 (toldV b) :: .int .i64 (c - toldV b) :: .pointer (some ⟨cb, 0, none⟩) :: _ :: _ :: _ :: _ :: _ :: _ :: _ :: _ :: _ :: []), defers := [] } _
      refine wpAnyH_take (i := 8) (v := .pointer (some ⟨cb, 0, none⟩)) rfl (by kernel_rfl) (by kernel_rfl) (by kernel_rfl) (fun _ _ _ h => h) (Or.inl ⟨by kernel_rfl, fun w hS => by go_simp⟩) hHeld ?_
      change wpAnyH _ _ _ _ _ _ _ { tmps := List.toArray (_ :: _ :: _ :: _ :: _ :: _ :: _ :: _ :: _ :: _ :: _ :: _ :: _ :: _ :: _ :: _ :: _ :: _ :: _ :: _ :: _ :: _ :: _ :: _ :: _ :: _ :: _ :: _ :: _ :: _ :: .pointer (some ⟨cb, 0, none⟩) :: .pointer (some ⟨cb, 0, none⟩) :: .pointer (some ⟨cb, 0, none⟩) :: .int .i64 c :: .agg #[.int .i64 q, .int .i64 k, .slice a b.length cp] :: .int .i64 (toldV b) :: .int .i64 (c - toldV b) :: .pointer (some ⟨cb, 0, none⟩) :: .pointer (some ⟨cb, 0, none⟩) :: _ :: _ :: _ :: _ :: _ :: _ :: _ :: _ :: []), defers := [] } _
      refine wpAnyH_ready (rs := [9]) (by kernel_rfl) (by simp) ?_
      refine (AllReadyH.cons rfl (fun KK hK => ?_) AllReadyH.nil)
      go_simp
      have Y9 := blk_other (i := 0) (v := .int .i64 (c - toldV b)) Y8 hne
      have Z9 := (blk3 Y9).1
      have X9 : (wp.setCell ⟨cb, 0, none⟩ (.int .i64 (c - toldV b))).heap[cb]? = some (.cells #[.int .i64 (c - toldV b), .int .i64 l, .int .i64 o] 77 (0, 0)) := by
        have h9 := blk_set (i := 0) (v := .int .i64 (c - toldV b)) X8
        simpa using h9
      have B9 : Below cb w0 (wp.setCell ⟨cb, 0, none⟩ (.int .i64 (c - toldV b))) := below_set (Nat.le_refl _) ((HB.trans (B8.mono hcw)))
      clear hHeld
      refine hK.out _ _ (⟨Z9.1, Z9.2.1, Z9.2.2⟩) (fun hHeld => ?_)
      clear hK KK
      change wpAnyH _ _ _ _ _ _ _ { tmps := List.toArray (_ :: _ :: _ :: _ :: _ :: _ :: _ :: _ :: _ :: _ :: _ :: _ :: _ :: _ :: _ :: _ :: _ :: _ :: _ :: _ :: _ :: _ :: _ :: _ :: _ :: _ :: _ :: _ :: _ :: _ :: .pointer (some ⟨cb, 0, none⟩) :: .pointer (some ⟨cb, 0, none⟩) :: .pointer (some ⟨cb, 0, none⟩) :: .int .i64 c :: .agg #[.int .i64 q, .int .i64 k, .slice a b.length cp] :: .int .i64 (toldV b) :: .int .i64 (c - toldV b) :: .pointer (some ⟨cb, 0, none⟩) :: .pointer (some ⟨cb, 0, none⟩) :: _ :: _ :: _ :: _ :: _ :: _ :: _ :: _ :: []), defers := [] } _
      refine wpAnyH_done (by kernel_rfl) ?_ _
      clear pd pp pf Y8 X8 Y9 Z9 d0 d1 d2 X7 Y7
      obtain ⟨⟨u0, u1, u2⟩, v0, v1, v2⟩ := blk3 X9
      by_cases hlt : c - toldV b < 0
      · have E2 : Hid (cntV c k (toldV b) = -1) := hide (by rw [E.out, if_pos hlt])
        have X10 : ((wp.setCell ⟨cb, 0, none⟩ (.int .i64 (c - toldV b))).setCell ⟨cb, 0, none⟩ (.int .i64 (-1))).heap[cb]? = some (.cells #[.int .i64 (-1), .int .i64 l, .int .i64 o] 77 (0, 0)) := by
          have h9 := blk_set (i := 0) (v := .int .i64 (-1)) X9
          simpa using h9
        have B10 := below_set (o := 0) (v := .int .i64 (-1)) (Nat.le_refl _) B9
        go_wp2
        go_end0
        exact ⟨rfl, by rw [E2.out]; exact X10, B10⟩
      · have E2 : Hid (cntV c k (toldV b) = c - toldV b) := hide (by rw [E.out, if_neg hlt])
        go_wp2
        go_end0
        exact ⟨rfl, by rw [E2.out]; exact X9, B9⟩
  have h2b : (k == 2) = false := by simp [h2]
  have E : Hid (cntV c k (toldV b) = c) := hide (by unfold cntV; rw [if_neg h3, if_neg hm, if_neg h1, if_neg h2])
  have hng : ¬ (c < 0) := by omega
  go_enter Try.func71, Try.ntmps71
  go_wp2
  go_end0
  exact ⟨rfl, by rw [E.out]; exact X, HB⟩
end Go.Proofs.Ytgnohomplehacaa
