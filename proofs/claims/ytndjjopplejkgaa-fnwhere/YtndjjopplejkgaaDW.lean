/- Where a right trip is: what the law asks of it; the draw of a right trip. -/
import Derived.Test.YtndjjopplejkgaaDS
import Derived.Test.YtndjjopplejkgaaH
namespace Go.Proofs.Ytndjjopplejkgaa
open Go.RowKit
abbrev cAt (cs : List HaltV) (i : Nat) : HaltV := cs.getD i HaltV.zero
theorem chain_at : ∀ (cs : List HaltV), chainB cs = true → ∀ i, i + 1 < cs.length → stepB (cAt cs i) (cAt cs (i + 1)) = true
  | [], _, i, hi => by simp at hi
  | [_], _, i, hi => by simp at hi
  | p :: q :: r, h, i, hi => by
    simp only [chainB, Bool.and_eq_true] at h
    cases i with
    | zero => exact h.1
    | succ i => exact chain_at (q :: r) h.2 i (by simpa using hi)
theorem dep_up {cs : List HaltV} (hall : cs.all callB = true) (hch : chainB cs = true) : ∀ j i, i + j < cs.length → (cAt cs i).d ≤ (cAt cs (i + j)).d
  | 0, i, _ => Int.le_refl _
  | j + 1, i, hi => by
    have h1 := dep_up hall hch j i (by omega)
    have h2 := chain_at cs hch (i + j) (by omega)
    have h3 := (call_parts (call_at hall (k := i + j + 1) (by omega))).2.1.2
    simp only [stepB, Bool.and_eq_true, decide_eq_true_eq] at h2
    have h4 := h2.1
    rw [show i + (j + 1) = i + j + 1 by omega]
    unfold cAt at *
    omega
/-- Where a trip is at a minute within it. -/
def Spot (cs : List HaltV) (m : Int) (r : Int × Int) : Prop :=
  ∃ i : Nat, i < cs.length ∧ r.1 = i ∧ ((r.2 = 0 ∧ (cAt cs i).a ≤ m ∧ m ≤ (cAt cs i).d) ∨ (r.2 = 1 ∧ i + 1 < cs.length ∧ (cAt cs i).d < m ∧ m < (cAt cs (i + 1)).a))
theorem spot_scan {cs : List HaltV} {m : Int} (hlast : m ≤ (cAt cs (cs.length - 1)).d) : ∀ j k, k + j = cs.length → 0 < j → (k = 0 → (cAt cs 0).a ≤ m) → (∀ p, p + 1 = k → (cAt cs p).d < m) → Spot cs m (scanW m k (cs.drop k))
  | 0, _, _, h, _, _ => absurd h (by omega)
  | j + 1, k, hk, _, h0, h1 => by
    rw [scan_drop (by omega : k < cs.length)]
    by_cases g1 : m < (cAt cs k).a
    · rw [if_pos g1]
      have hk0 : k ≠ 0 := fun e => by subst e; have := h0 rfl; omega
      have h2 := h1 (k - 1) (by omega)
      exact ⟨k - 1, by omega, by simp only; omega, .inr ⟨rfl, by omega, h2, by rw [show k - 1 + 1 = k by omega]; exact g1⟩⟩
    · rw [if_neg g1]
      by_cases g2 : m ≤ (cAt cs k).d
      · rw [if_pos g2]
        exact ⟨k, by omega, rfl, .inl ⟨rfl, by omega, g2⟩⟩
      · rw [if_neg g2]
        have hj : 0 < j := by
          by_cases hj : j = 0
          · subst hj
            rw [show cs.length - 1 = k by omega] at hlast
            omega
          · omega
        have h3 : ∀ p, p + 1 = k + 1 → (cAt cs p).d < m := by
          intro p hp
          rw [show p = k by omega]; omega
        exact spot_scan hlast j (k + 1) (by omega) hj (fun e => by omega) h3
theorem past_scan {cs : List HaltV} {m : Int} (h : ∀ i, i < cs.length → (cAt cs i).a ≤ m ∧ (cAt cs i).d < m) : ∀ j k, k + j = cs.length → scanW m k (cs.drop k) = (-1, 1)
  | 0, k, hk => by rw [List.drop_eq_nil_of_le (by omega)]; rfl
  | j + 1, k, hk => by
    obtain ⟨h1, h2⟩ := h k (by omega)
    rw [scan_drop (by omega : k < cs.length), if_neg (by unfold cAt at h1; omega), if_neg (by unfold cAt at h2; omega)]
    exact past_scan h j (k + 1) (by omega)
theorem where_in {s : ByteArray} {cs : List HaltV} {m : Int} (h : tripB ⟨s, cs⟩ = true) (h0 : (cAt cs 0).a ≤ m) (h1 : m ≤ (cAt cs (cs.length - 1)).d) : Spot cs m (whereB ⟨s, cs⟩ m) := by
  obtain ⟨-, l1, -, -, -⟩ := trip_parts h
  dsimp only at l1
  unfold whereB
  rw [h, if_neg (by simp), if_neg (by dsimp only; unfold cAt at h0; omega)]
  have := spot_scan h1 cs.length 0 (by omega) (by omega) (fun _ => h0) (fun p hp => by omega)
  simpa using this
theorem where_ahead {s : ByteArray} {cs : List HaltV} {m : Int} (h : tripB ⟨s, cs⟩ = true) (h0 : m < (cAt cs 0).a) : whereB ⟨s, cs⟩ m = (-1, 0) := by
  unfold whereB
  rw [h, if_neg (by simp), if_pos h0]
theorem where_past {s : ByteArray} {cs : List HaltV} {m : Int} (h : tripB ⟨s, cs⟩ = true) (h1 : (cAt cs (cs.length - 1)).d < m) : whereB ⟨s, cs⟩ m = (-1, 1) := by
  obtain ⟨-, l1, -, hall, hch⟩ := trip_parts h
  dsimp only at l1 hall hch
  have key : ∀ i, i < cs.length → (cAt cs i).a ≤ m ∧ (cAt cs i).d < m := fun i hi => by
    have e1 := dep_up hall hch (cs.length - 1 - i) i (by omega)
    rw [show i + (cs.length - 1 - i) = cs.length - 1 by omega] at e1
    have e2 := (call_parts (call_at hall hi)).2.1.2
    unfold cAt at *
    omega
  unfold whereB
  rw [h, if_neg (by simp), if_neg (by have := (key 0 (by omega)).1; dsimp only; unfold cAt at this; omega)]
  have := past_scan key cs.length 0 (by omega)
  simpa using this

set_option maxHeartbeats 800000 in
theorem cRightTrip (a : Option Addr) (cap : Nat) (zs : List Int) (w : World) (hz : Bytes w a zs) (hl : zs.length ≤ 1048576) :
    Calls Try.prog 12 #[.slice a zs.length cap] w fun e w' => ∃ s cs ao cp, e = .returned (.agg #[.string s, .slice ao (List.length cs) cp]) ∧ tripB ⟨s, cs⟩ = true ∧ w'.ownsRow w.heap.size 29 3 (.slice ao cs.length cp) cs.length (flatHalts cs) ∧ Below w.heap.size w w' := by
  have hb0 := balloc w (.cells #[.string ⟨#[]⟩, .slice none 0 0] 26)
  have K0 := one_block w (.cells #[.string ⟨#[]⟩, .slice none 0 0] 26)
  go_enter Try.func12, Try.ntmps12
  go_wp2_with fail
  refine (cnew a cap zs _ (hz.below hb0) hl).mono ?_
  rintro e w1 ⟨cb, rfl, hcb, hc, hb1⟩
  rw [sz1] at hcb
  have HB := btrans hb0 hb1
  replace K0 := blk_keep hb1 K0
  have hcl : cb < w1.heap.size := hc.lt (.inl rfl)
  clear hb0 hb1
  go_wp2_with fail
  refine (cDrawTrip cb cap a zs _ hc hl hcl).mono ?_
  rintro e w2 ⟨s, cs, ao, cp, rfl, hT, ho, hc2, hgr⟩
  replace HB := HB.grown hgr HB.size (fun k hk => by simp at hk; omega)
  replace K0 := far_blk hgr K0 (fun j hj => by simp at hj; omega)
  obtain ⟨⟨y0, y1⟩, f0, f1⟩ := blk2 K0
  have hfr := own_from ho (Nat.le_refl _)
  replace hT := hide hT
  have hwl : w.heap.size < w1.heap.size := by omega
  clear hgr hc2 hc
  go_wp2
  refine bodyPost_ret (v := .agg #[.string s, .slice ao cs.length cp]) (by simp [results, Try.results12, go_sem, y0, y1]) rfl ?_
  exact ⟨s, cs, ao, cp, rfl, hT.out, own_base (own_set (own_set ho (fun k hk => by have := hfr k hk; omega)) (fun k hk => by have := hfr k hk; omega)) (by omega), below_set (by omega) (below_set (by omega) HB)⟩
end Go.Proofs.Ytndjjopplejkgaa
