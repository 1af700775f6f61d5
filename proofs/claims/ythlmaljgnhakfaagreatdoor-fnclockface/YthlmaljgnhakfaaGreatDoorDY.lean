/- A right trip drawn: spec.DrawRightTrip. -/
import Derived.Test.YthlmaljgnhakfaaGreatDoorDS
namespace Go.Proofs.YthlmaljgnhakfaaGreatDoor
open Go.RowKit
set_option maxHeartbeats 800000 in
theorem cRightTrip (a : Option Addr) (cap : Nat) (zs : List Int) (w : World) (hz : Bytes w a zs) (hl : zs.length ≤ 1048576) :
    Calls Tryz.prog 5 #[.slice a zs.length cap] w fun e w' => ∃ s cs ao cp, e = .returned (.agg #[.string s, .slice ao (List.length cs) cp]) ∧ tripB ⟨s, cs⟩ = true ∧ ((∀ p ∈ cs, p.d ≤ 400) ∧ s.size ≤ 4) ∧ w'.ownsRow w.heap.size 33 3 (.slice ao cs.length cp) cs.length (flatHalts cs) ∧ Below w.heap.size w w' := by
  have hb0 := balloc w (.cells #[.string ⟨#[]⟩, .slice none 0 0] 26)
  have K0 := one_block w (.cells #[.string ⟨#[]⟩, .slice none 0 0] 26)
  go_enter Tryz.func5, Tryz.ntmps5
  go_wp2_with fail
  refine (cnew a cap zs _ (hz.below hb0) hl).mono ?_
  rintro e w1 ⟨cb, rfl, hcb, hc, hb1⟩
  rw [sz1] at hcb
  have HB := btrans hb0 hb1
  replace K0 := blk_keep hb1 K0
  have hcl : cb < w1.heap.size := hc.lt (.inl rfl)
  clear hb0 hb1
  go_wp2_with fail
  refine (cDrawTrip cb cap a zs _ hc hl hcl).mono ?_
  rintro e w2 ⟨s, cs, ao, cp, rfl, hT, hU, ho, hc2, hgr⟩
  replace HB := HB.grown hgr HB.size (fun k hk => by simp at hk; omega)
  replace K0 := far_blk hgr K0 (fun j hj => by simp at hj; omega)
  obtain ⟨⟨y0, y1⟩, f0, f1⟩ := blk2 K0
  have hfr := own_from ho (Nat.le_refl _)
  replace hT := hide hT
  have hwl : w.heap.size < w1.heap.size := by omega
  clear hgr hc2 hc
  go_wp2
  refine bodyPost_ret (v := .agg #[.string s, .slice ao cs.length cp]) (by simp [results, Tryz.results5, go_sem, y0, y1]) rfl ?_
  exact ⟨s, cs, ao, cp, rfl, hT.out, hU, own_base (own_set (own_set ho (fun k hk => by have := hfr k hk; omega)) (fun k hk => by have := hfr k hk; omega)) (by omega), below_set (by omega) (below_set (by omega) HB)⟩
end Go.Proofs.YthlmaljgnhakfaaGreatDoor
