/- The law of Scan. -/
import Derived.Test.YtgnohomplehacaaTS
import Derived.Test.YtgnohomplehacaaWD
namespace Go.Proofs.Ytgnohomplehacaa
open Go.RowKit
theorem scV_fnd : ∀ (l p : List Int) (st : List TelV × Int) (j : Nat), By l → By p → Fnd st.1 st.2 j → Fnd (scV l p st).1 (scV l p st).2 (j + l.length + 1) := by
  intro l
  induction l with
  | nil => intro p st j _ hp h; exact h.take hp
  | cons z l ih =>
    intro p st j hl hp h
    have hl2 : By l := fun x hx => hl x (List.mem_cons_of_mem _ hx)
    have hz := hl z (by simp)
    rw [scV]
    split
    · have := ih [] (takeP st p) (j + 1) hl2 By.nil (h.take hp)
      exact this.mono (by rw [List.length_cons]; omega)
    · have := ih (p ++ [z]) st j hl2 (hp.app (By.one hz.1 hz.2)) h
      exact this.mono (by rw [List.length_cons]; omega)
theorem scanV_fnd {zs : List Int} (hy : By zs) : (scanV zs).1.length ≤ 4000 ∧ (∀ t ∈ (scanV zs).1, okT t = true ∧ By t.b) := by
  unfold scanV
  split
  · exact ⟨by simp, fun t ht => by simp at ht⟩
  · have := scV_fnd zs [] ([], 0) 0 hy By.nil Fnd.zero
    have h1 := this.le
    have h2 := this.n0
    exact ⟨by omega, this.tel⟩
theorem AnsSc.open {w W : World} {zs : List Int} {ts : List TelV} {n : Int} {e : Ending} (h : AnsSc w zs e W) (hE : scanV zs = (ts, n)) : ∃ v cs, e = .returned (.tuple #[v, .int .i64 n]) ∧ TabT w.heap.size W v cs ts ∧ Below w.heap.size w W := by
  obtain ⟨v, cs, h1, h2, h3⟩ := h
  rw [hE] at h1 h2
  exact ⟨v, cs, h1, h2, h3⟩
set_option maxRecDepth 100000 in
set_option maxHeartbeats 6400000 in
theorem walkScan (a : Option Addr) (cap : Nat) (zs : List Int) (w : World) (hz : Bys w a zs) (hy : By zs) (hl : zs.length ≤ maxLen) :
    Calls Try.prog 10 #[.slice a zs.length cap] w fun e w' => e = .returned (.bool true) ∧ Below w.heap.size w w' := by
  have HB := Below.refl w.heap.size w
  have hl2 := hl
  unfold maxLen at hl2
  by_cases hbig : 1048576 < zs.length
  · go_enter Try.func10, Try.ntmps10
    go_wp2
    go_ret
    exact ⟨rfl, HB⟩
  have hs : zs.length ≤ 1048576 := by omega
  obtain ⟨hts, hok⟩ := scanV_fnd hy
  obtain ⟨⟨ts, n⟩, hE⟩ : ∃ p, scanV zs = p := ⟨_, rfl⟩
  rw [hE] at hts hok
  dsimp only at hts hok
  have hsm : ∀ i, i < ts.length → (ts.getD i TelV.zero).b.length ≤ 60 := fun i hi => by
    rw [show ts.getD i TelV.zero = ts[i] by simp [List.getD, hi]]
    exact (okT_parts (hok _ (List.getElem_mem hi)).1).2.2.2.2
  have hsm2 : ∀ t ∈ ts, t.b.length ≤ 1048576 := fun t ht => by have := (okT_parts (hok t ht).1).2.2.2.2; omega
  clear hok
  have cScanS := fun a c (W : World) (h1 : Bys W a zs) => (cScanS a c zs W h1 hy hs).mono fun e w' h => h.open hE
  have cScanI := fun b o c (W : World) (h1 : Bys W (some ⟨b, o, none⟩) zs) (h2 : zs.length ≤ c) => (cScanI b o c zs W h1 hy hs h2).mono fun e w' h => h.open hE
  replace hE := hide hE
  go_enter Try.func10, Try.ntmps10
  go_wp2_with fail
  refine (cToBys a cap zs _ (hz.below HB) hs).mono ?_
  rintro e w1 ⟨g0, rfl, O0, hg0, hb⟩
  replace HB := btrans HB hb
  clear hb hg0
  go_wp2_with fail
  refine (cScanS _ _ _ (Bys.of_owns O0)).mono ?_
  rintro e w2 ⟨vS, csS, rfl, TS, hb⟩
  replace HB := btrans HB hb
  replace O0 := own_keep O0 hb
  clear hb O0
  have BS := Below.refl w2.heap.size w2
  have hwS : w.heap.size ≤ w2.heap.size := HB.size
  obtain ⟨aS, cS, rfl⟩ := own_form TS.own
  go_wp2_with fail
  refine (cToBys a cap zs _ (hz.below HB) hs).mono ?_
  rintro e w3 ⟨g1, rfl, O1, hg1, hb⟩
  replace HB := btrans HB hb
  replace BS := btrans BS hb
  clear hb hg1
  have hSg : w2.heap.size ≤ g1 := own_from O1 (Nat.le_refl _) g1 rfl
  have hg1 := owns_lt O1
  go_wp2_with fail
  refine (cScanI _ _ _ _ (Bys.of_owns O1) (Nat.le_refl _)).mono ?_
  rintro e w4 ⟨vG, csG, rfl, TG, hb⟩
  replace HB := btrans HB hb
  replace O1 := own_keep O1 hb
  replace BS := btrans BS hb
  have hBs := hb.size
  clear hb
  obtain ⟨aG, cG, rfl⟩ := own_form TG.own
  have hSB : w2.heap.size ≤ w3.heap.size := by omega
  have hwB : w.heap.size ≤ w3.heap.size := by omega
  go_wp2_with fail
  refine (cEqTels _ _ _ _ ts _ TG.tels (TS.below BS).tels (by omega) hsm2).mono ?_
  rintro e w5 ⟨rfl, hb⟩
  replace HB := btrans HB hb
  replace O1 := own_keep O1 hb
  replace TG := TG.below hb
  replace BS := btrans BS hb
  replace hBs := Nat.le_trans hBs hb.size
  clear hb
  go_wp2_with fail
  refine (cToBys a cap zs _ (hz.below HB) hs).mono ?_
  rintro e w6 ⟨g2, rfl, O2, hg2, hb⟩
  replace HB := btrans HB hb
  replace O1 := own_keep O1 hb
  replace TG := TG.below hb
  replace BS := btrans BS hb
  replace hBs := Nat.le_trans hBs hb.size
  clear hb hg2
  go_wp2_with fail
  refine (cEqBys _ _ _ _ zs _ (Bys.of_owns O1) (Bys.of_owns O2) hl).mono ?_
  rintro e w7 ⟨rfl, hb⟩
  replace HB := btrans HB hb
  replace O1 := own_keep O1 hb
  replace TG := TG.below hb
  replace O2 := own_keep O2 hb
  replace BS := btrans BS hb
  replace hBs := Nat.le_trans hBs hb.size
  clear hb O2
  go_wp2_with fail
  refine (cMarkBys _ zs.length _ zs 1 _ rfl O1 hs (by omega) (by omega)).mono ?_
  rintro e w8 ⟨rfl, M1, hg⟩
  replace HB := HB.grown hg HB.size (fun j hj => by simp [Value.ownBlock] at hj; omega)
  replace hBs := Nat.le_trans hBs hg.size
  replace BS := BS.grown hg BS.size (fun j hj => by simp [Value.ownBlock] at hj; omega)
  replace TG := TG.far hg hg1
  clear hg O1 M1
  have hk1 : ¬ (1 + (zs.length : Int) < 0) := by omega
  go_wp2_with fail
  refine (cEqTels _ _ _ _ ts _ TG.tels (TS.below BS).tels (by omega) hsm2).mono ?_
  rintro e w9 ⟨rfl, hb⟩
  replace HB := btrans HB hb
  replace TG := TG.below hb
  replace BS := btrans BS hb
  replace hBs := Nat.le_trans hBs hb.size
  clear hb
  clear hk1
  go_wp2_with fail
  refine (cMarkTels _ _ csG ts 1 _ TG hBs hts hsm (by omega) (by omega)).mono ?_
  rintro e w10 ⟨rfl, ⟨csM, MG⟩, hb⟩
  replace HB := HB.trans (hb.mono hwB)
  replace BS := BS.trans (hb.mono hSB)
  clear hb TG
  generalize hM : offT 1 ts ts.length = M at *
  replace hM := hide hM
  have hM0 : ¬ (M < 0) := by rw [← hM.out]; have := (offT_in (k := 1) (by omega) hsm ts.length (Nat.le_refl _)).1; omega
  have CH : ∀ W, MkIn w3.heap.size (.slice aG ts.length cG) csG ts 1 ts.length csM W → Calls Try.prog 42 #[.slice aG ts.length cG, .int .i64 1] W (fun e w' => e = .returned (.int .i64 M) ∧ Below W.heap.size W w') := fun W hW => by rw [← hM.out]; exact cHeldTels _ _ csG csM ts 1 W hW hts hsm (by omega) (by omega)
  go_wp2_with fail
  refine (CH _ MG).mono ?_
  rintro e w11 ⟨rfl, hb⟩
  replace HB := btrans HB hb
  replace MG := MG.below hb
  replace BS := btrans BS hb
  clear hb
  go_wp2_with fail
  refine (cToBys a cap zs _ (hz.below HB) hs).mono ?_
  rintro e w12 ⟨g5, rfl, O5, hg5, hb⟩
  replace HB := btrans HB hb
  replace MG := MG.below hb
  replace BS := btrans BS hb
  clear hb hg5
  go_wp2_with fail
  refine (cScanI _ _ _ _ (Bys.of_owns O5) (Nat.le_refl _)).mono ?_
  rintro e w13 ⟨vH, csH, rfl, TH, hb⟩
  replace HB := btrans HB hb
  replace MG := MG.below hb
  replace O5 := own_keep O5 hb
  replace BS := btrans BS hb
  clear hb O5
  obtain ⟨aH, cH, rfl⟩ := own_form TH.own
  go_wp2_with fail
  refine (cEqTels _ _ _ _ ts _ TH.tels (TS.below BS).tels (by omega) hsm2).mono ?_
  rintro e w14 ⟨rfl, hb⟩
  replace HB := btrans HB hb
  replace MG := MG.below hb
  replace BS := btrans BS hb
  clear hb
  clear TH
  go_wp2_with fail
  refine (CH _ MG).mono ?_
  rintro e w15 ⟨rfl, hb⟩
  replace HB := btrans HB hb
  replace MG := MG.below hb
  replace BS := btrans BS hb
  clear hb
  go_wp2
  go_ret
  exact ⟨rfl, HB⟩
end Go.Proofs.Ytgnohomplehacaa
