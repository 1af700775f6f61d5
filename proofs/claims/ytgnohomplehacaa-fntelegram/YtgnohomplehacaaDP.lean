/- Decode of the program. -/
import Derived.Test.YtgnohomplehacaaTO
namespace Go.Proofs.Ytgnohomplehacaa
open Go.RowKit
theorem decV_not {d : List Int} (h : framed d = false) : decV d = none := by unfold decV; rw [h]; rfl
theorem decV_yes {d : List Int} (h : framed d = true) : decV d = decP ((d.drop 1).take (d.length - 2)) := by unfold decV; rw [if_pos h]
set_option maxRecDepth 100000 in
set_option maxHeartbeats 6400000 in
theorem cDecoded (a : Option Addr) (c : Nat) (zs : List Int) (w : World) (hz : Bys w a zs) (hy : By zs) (hl : zs.length ≤ 1048576) : Calls Try.prog 50 #[.slice a zs.length c] w (AnsT w (decP zs)) := by
  have hA := one_block w (.cells #[.int .i64 0, .int .i64 0, .slice none 0 0] 25)
  have hb := balloc w (.cells #[.int .i64 0, .int .i64 0, .slice none 0 0] 25)
  have CU := cUne a c zs _ (hz.below hb) hl
  go_enter Try.func50, Try.ntmps50
  go_wp2_with fail
  refine CU.mono ?_
  rintro e w1 ⟨hans, hb1⟩
  have A1 := blk_keep hb1 hA
  have B1 := btrans hb hb1
  have hB1 := B1.size
  clear CU hA hb1 hb
  rcases hans with ⟨l, v, hU, rfl, R⟩ | ⟨hU, rfl⟩
  · obtain ⟨hyl, hel⟩ := une_some _ _ _ (Nat.le_refl _) hy hU
    have hll : l.length ≤ zs.length := by have := esc_len l; rw [hel] at this; omega
    have E : Hid (decP zs = telP l) := hide (by unfold decP; rw [hU])
    have CT : Calls Try.prog 66 #[v] w1 (AnsT w1 (telP l)) := by
      by_cases h4 : l.length < 4
      · obtain ⟨va, vc, rfl⟩ := own_form R
        exact cTelShort va vc l w1 h4
      · rcases R.2 with ⟨rfl, h0⟩ | ⟨g, cap, cur, rfl, _, _, hcap, _⟩
        · omega
        · exact cTelOf g 0 cap l w1 (Bys.of_owns R) hyl (by omega) (by omega) hcap
    obtain ⟨va, vc, rfl⟩ := own_form R
    clear hU hel R hz hyl hll
    go_wp2_with fail
    refine CT.mono ?_
    rintro e w2 ⟨hans, hb2⟩
    have A2 := blk_keep hb2 A1
    have B2 := btrans B1 hb2
    obtain ⟨⟨a0, a1, a2⟩, e0, e1, e2⟩ := blk3 A2
    clear CT hb2 A1 B1
    rcases hans with ⟨t, v, ht, rfl, R2⟩ | ⟨ht, rfl⟩
    · have hne := own_apartB R2 A2 (by decide)
      obtain ⟨va2, vc2, rfl⟩ := own_form R2
      replace ht := hide ht
      go_wp2_with fail
      refine bodyPost_ret (v := .tuple #[.agg #[.int .i64 t.q, .int .i64 t.k, .slice va2 t.b.length vc2], .bool true]) (by simp [results, Try.results50, go_sem, a0, a1, a2]) rfl ⟨.inl ⟨t, _, E.out.trans ht.out, rfl, ?_⟩, ?_⟩
      · exact own_base (own_set (own_set (own_set R2 hne) hne) hne) hB1
      · exact below_set (Nat.le_refl _) (below_set (Nat.le_refl _) (below_set (Nat.le_refl _) B2))
    · replace ht := hide ht
      go_wp2_with fail
      refine bodyPost_ret (v := .tuple #[.agg #[.int .i64 0, .int .i64 0, .slice none 0 0], .bool false]) (by simp [results, Try.results50, go_sem, a0, a1, a2]) rfl ⟨.inr ⟨E.out.trans ht.out, rfl⟩, ?_⟩
      exact below_set (Nat.le_refl _) (below_set (Nat.le_refl _) (below_set (Nat.le_refl _) B2))
  · have E : Hid (decP zs = none) := hide (by unfold decP; rw [hU])
    obtain ⟨⟨a0, a1, a2⟩, e0, e1, e2⟩ := blk3 A1
    clear hU hz
    go_wp2_with fail
    refine bodyPost_ret (v := .tuple #[.agg #[.int .i64 0, .int .i64 0, .slice none 0 0], .bool false]) (by simp [results, Try.results50, go_sem, a0, a1, a2]) rfl ⟨.inr ⟨E.out, rfl⟩, ?_⟩
    exact below_set (Nat.le_refl _) (below_set (Nat.le_refl _) (below_set (Nat.le_refl _) B1))
set_option maxRecDepth 100000 in
set_option maxHeartbeats 6400000 in
theorem cDecI (a : Option Addr) (c : Nat) (zs : List Int) (w : World) (hz : Bys w a zs) (hy : By zs) (hl : zs.length ≤ 1048576) (hc : zs.length ≤ c) : Calls Try.prog 16 #[.slice a zs.length c] w (AnsT w (decV zs)) := by
  have hA := one_block w (.cells #[.int .i64 0, .int .i64 0, .slice none 0 0] 25)
  have hb := balloc w (.cells #[.int .i64 0, .int .i64 0, .slice none 0 0] 25)
  obtain ⟨⟨a0, a1, a2⟩, e0, e1, e2⟩ := blk3 hA
  have hF : Hid (framed zs = (decide (2 ≤ zs.length) && (zs.getD 0 0 == 126 && zs.getD (zs.length - 1) 0 == 126))) := hide rfl
  by_cases h2 : zs.length < 2
  · have E : Hid (decV zs = none) := hide (decV_not (by rw [hF.out, decide_eq_false (by omega)]; rfl))
    have hlt : ((zs.length : Int) - 1 < 1) := by omega
    clear hF hz
    go_enter Try.func16, Try.ntmps16
    go_wp2_with fail
    refine bodyPost_ret (v := .tuple #[.agg #[.int .i64 0, .int .i64 0, .slice none 0 0], .bool false]) (by simp [results, Try.results16, go_sem, a0, a1, a2]) rfl ⟨.inr ⟨E.out, rfl⟩, ?_⟩
    first
    | exact hb
    | exact below_set (Nat.le_refl _) (below_set (Nat.le_refl _) (below_set (Nat.le_refl _) hb))
  have hz0 := hz
  rcases hz with hz | ⟨b, off, rfl, hcell⟩
  · rw [hz] at h2; simp at h2
  have k0 := ble hb (hcell 0 (by omega))
  rw [Nat.add_zero] at k0
  have k3 := ble hb (hcell (zs.length - 1) (by omega))
  have hD : Hid (framed zs = true → decV zs = decP ((zs.drop 1).take (zs.length - 2))) := hide decV_yes
  have hbody : Bys (w.alloc (.cells #[.int .i64 0, .int .i64 0, .slice none 0 0] 25)) (some ⟨b, off + 1, none⟩) ((zs.drop 1).take (zs.length - 2)) := by
    have h1 := (hz0.below hb).part 1
    rcases h1 with h1 | ⟨b2, o2, e2, h1⟩
    · exact .inl (by rw [h1, List.take_nil])
    · simp only [Option.some.injEq, Addr.mk.injEq, and_true] at e2
      obtain ⟨rfl, rfl⟩ := e2
      exact h1.upto _
  have hbl : ((zs.drop 1).take (zs.length - 2)).length = zs.length - 1 - 1 := by simp; omega
  have CD := cDecoded (some ⟨b, off + 1, none⟩) (c - 1) _ _ hbody ((hy.drop 1).take _) (by rw [hbl]; omega)
  rw [hbl] at CD
  have hlt : ¬ ((zs.length : Int) - 1 < 1) := by omega
  obtain ⟨M, hM⟩ : ∃ M : Nat, (zs.length : Int) - 1 = (M : Int) := ⟨zs.length - 1, by omega⟩
  have hMn : zs.length - 1 = M := by omega
  rw [hMn] at k3 CD hF
  have hMl : M < zs.length := by omega
  have hMl2 : (M : Int) < (zs.length : Int) := by omega
  have hM1 : (1 : Int) ≤ (M : Int) := by omega
  have hM2 : (M : Int) ≤ (c : Int) := by omega
  have hM4 : 1 ≤ M := by omega
  have hM5 : M ≤ c := by omega
  have hc1 : ¬ (c = 1) := by omega
  have h00 : 0 < zs.length := by omega
  have h2d : Hid (decide (2 ≤ zs.length) = true) := hide (decide_eq_true (by omega))
  have hdz : Hid (decV zs = decV zs) := hide rfl
  clear hcell hMn hz0 hbody hbl
  generalize zs.getD 0 0 = z0 at *
  generalize zs.getD M 0 = z3 at *
  generalize hLL : (zs.drop 1).take (zs.length - 2) = LL at *
  clear hLL
  cases hz1 : (z0 == 126)
  · have E : Hid (decV zs = none) := hide (decV_not (by rw [hF.out, hz1]; simp))
    have hn1 : (z0 != 126) = true := by simp [bne, hz1]
    clear hF hD hdz
    go_enter Try.func16, Try.ntmps16
    go_wp2_with fail
    refine bodyPost_ret (v := .tuple #[.agg #[.int .i64 0, .int .i64 0, .slice none 0 0], .bool false]) (by simp [results, Try.results16, go_sem, a0, a1, a2]) rfl ⟨.inr ⟨E.out, rfl⟩, ?_⟩
    first
    | exact hb
    | exact below_set (Nat.le_refl _) (below_set (Nat.le_refl _) (below_set (Nat.le_refl _) hb))
  have hn1 : (z0 != 126) = false := by simp [bne, hz1]
  cases hz2 : (z3 == 126)
  · have E : Hid (decV zs = none) := hide (decV_not (by rw [hF.out, hz1, hz2]; simp))
    have hn2 : (z3 != 126) = true := by simp [bne, hz2]
    clear hF hD hdz
    go_enter Try.func16, Try.ntmps16
    go_wp2_with fail
    refine bodyPost_ret (v := .tuple #[.agg #[.int .i64 0, .int .i64 0, .slice none 0 0], .bool false]) (by simp [results, Try.results16, go_sem, a0, a1, a2]) rfl ⟨.inr ⟨E.out, rfl⟩, ?_⟩
    first
    | exact hb
    | exact below_set (Nat.le_refl _) (below_set (Nat.le_refl _) (below_set (Nat.le_refl _) hb))
  have hn2 : (z3 != 126) = false := by simp [bne, hz2]
  have E : Hid (decV zs = decP LL) := hide (hD.out (by rw [hF.out, hz1, hz2, h2d.out]; rfl))
  clear hF hD hdz h2d
  go_enter Try.func16, Try.ntmps16
  go_wp2_with fail
  refine CD.mono ?_
  rintro e w2 ⟨hans, hb2⟩
  have A2 := blk_keep hb2 hA
  have B2 := btrans hb hb2
  have hB1 := hb.size
  clear CD hb2 a0 a1 a2 e0 e1 e2 hb k0 k3
  obtain ⟨⟨a0, a1, a2⟩, e0, e1, e2⟩ := blk3 A2
  rcases hans with ⟨t, v, ht, rfl, R2⟩ | ⟨ht, rfl⟩
  · have hne := own_apartB R2 A2 (by decide)
    obtain ⟨va2, vc2, rfl⟩ := own_form R2
    replace ht := hide ht
    go_wp2_with fail
    refine bodyPost_ret (v := .tuple #[.agg #[.int .i64 t.q, .int .i64 t.k, .slice va2 t.b.length vc2], .bool true]) (by simp [results, Try.results16, go_sem, a0, a1, a2]) rfl ⟨.inl ⟨t, _, E.out.trans ht.out, rfl, ?_⟩, ?_⟩
    · exact own_base (own_set (own_set (own_set R2 hne) hne) hne) hB1
    · exact below_set (Nat.le_refl _) (below_set (Nat.le_refl _) (below_set (Nat.le_refl _) B2))
  · replace ht := hide ht
    go_wp2_with fail
    refine bodyPost_ret (v := .tuple #[.agg #[.int .i64 0, .int .i64 0, .slice none 0 0], .bool false]) (by simp [results, Try.results16, go_sem, a0, a1, a2]) rfl ⟨.inr ⟨E.out.trans ht.out, rfl⟩, ?_⟩
    exact below_set (Nat.le_refl _) (below_set (Nat.le_refl _) (below_set (Nat.le_refl _) B2))
end Go.Proofs.Ytgnohomplehacaa
