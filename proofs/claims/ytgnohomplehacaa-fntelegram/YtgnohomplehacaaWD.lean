/- The law of Decode. -/
import Derived.Test.YtgnohomplehacaaDS
import Derived.Test.YtgnohomplehacaaWE
namespace Go.Proofs.Ytgnohomplehacaa
open Go.RowKit
theorem cEqTeln (B1 B2 n : Nat) (q k : Int) (v1 v2 : Value) (xs : List Int) (w : World) (hn : xs.length = n) (h1 : w.ownsRow B1 5 1 v1 n (xs.map (Value.int .u8))) (h2 : w.ownsRow B2 5 1 v2 n (xs.map (Value.int .u8))) (hl : n ≤ maxLen) :
    Calls Try.prog 30 #[.agg #[.int .i64 q, .int .i64 k, v1], .agg #[.int .i64 q, .int .i64 k, v2]] w fun e w' => e = .returned (.bool true) ∧ Below w.heap.size w w' := by
  obtain ⟨a1, c1, rfl⟩ := own_form h1
  obtain ⟨a2, c2, rfl⟩ := own_form h2
  subst hn
  exact cEqTel q k a1 a2 c1 c2 xs w (Bys.own h1 rfl) (Bys.own h2 rfl) hl
def AnsF (q k : Int) (bd : List Int) (n : Nat) (f : Bool) (W : World) (e : Ending) (w' : World) : Prop := ∃ v, e = .returned (.tuple #[.agg #[.int .i64 q, .int .i64 k, v], .bool f]) ∧ w'.ownsRow W.heap.size 5 1 v n (enc8 bd) ∧ Below W.heap.size W w'
theorem AnsT.form {w W : World} {o : Option TelV} {e : Ending} (h : AnsT w o e W) : AnsF (o.getD TelV.zero).q (o.getD TelV.zero).k (o.getD TelV.zero).b (o.getD TelV.zero).b.length o.isSome w e W := by
  obtain ⟨h1 | h1, hb⟩ := h
  · obtain ⟨t, v, rfl, rfl, ho⟩ := h1
    exact ⟨v, rfl, ho, hb⟩
  · obtain ⟨rfl, rfl⟩ := h1
    exact ⟨_, rfl, World.ownsRow_nil _ _ _ _, hb⟩
theorem decForm (zs : List Int) (hy : By zs) : ∃ q k bd n f, bd.length = n ∧ n ≤ 60 ∧
    (∀ W g c, Bys W g zs → zs.length ≤ 1048576 → zs.length ≤ c → Calls Try.prog 16 #[.slice g zs.length c] W (AnsF q k bd n f W)) ∧
    (∀ W g c, Bys W g zs → zs.length ≤ 1048576 → zs.length ≤ c → Calls Try.prog 37 #[.slice g zs.length c] W (AnsF q k bd n f W)) := by
  refine ⟨((decV zs).getD TelV.zero).q, ((decV zs).getD TelV.zero).k, ((decV zs).getD TelV.zero).b, _, (decV zs).isSome, rfl, ?_, ?_, ?_⟩
  · cases h : decV zs with
    | none => exact Nat.zero_le _
    | some t => exact (okT_parts (decV_some hy h).1).2.2.2.2
  · exact fun W g c h1 h2 h3 => (cDecI g c zs W h1 hy h2 h3).mono fun e w' h => h.form
  · exact fun W g c h1 h2 _ => (cDecS g c zs W h1 hy h2).mono fun e w' h => h.form
set_option maxRecDepth 100000 in
set_option maxHeartbeats 6400000 in
theorem walkDecode (a : Option Addr) (cap : Nat) (zs : List Int) (w : World) (hz : Bys w a zs) (hy : By zs) (hl : zs.length ≤ maxLen) :
    Calls Try.prog 9 #[.slice a zs.length cap] w fun e w' => e = .returned (.bool true) ∧ Below w.heap.size w w' := by
  have HB := Below.refl w.heap.size w
  have hl2 := hl
  unfold maxLen at hl2
  by_cases hbig : 1048576 < zs.length
  · go_enter Try.func9, Try.ntmps9
    go_wp2
    go_ret
    exact ⟨rfl, HB⟩
  have hs : zs.length ≤ 1048576 := by omega
  obtain ⟨q, k, bd, n, f, hn, hn60, CI, CS⟩ := decForm zs hy
  replace hn := hide hn
  go_enter Try.func9, Try.ntmps9
  go_wp2_with fail
  refine (cToBys a cap zs _ (hz.below HB) hs).mono ?_
  rintro e w1 ⟨g0, rfl, O0, hg0, hb⟩
  replace HB := btrans HB hb
  clear hb
  clear hg0
  go_wp2_with fail
  refine (CS _ _ _ (Bys.of_owns O0) hs (Nat.le_refl _)).mono ?_
  rintro e w2 ⟨vS, rfl, RS, hb⟩
  replace HB := btrans HB hb
  replace O0 := own_keep O0 hb
  clear hb O0
  replace RS := own_base RS (Nat.zero_le _)
  have HB0 := HB
  have hSl := own_blk_lt RS
  obtain ⟨aS, cS, rfl⟩ := own_form RS
  have KW := one_block w2 (.cells #[.int .i64 q, .int .i64 k, .slice aS n cS] 25)
  have hb := balloc w2 (.cells #[.int .i64 q, .int .i64 k, .slice aS n cS] 25)
  replace HB := btrans HB hb
  replace RS := own_keep RS hb
  clear hb
  have hszw : w.heap.size ≤ w2.heap.size := HB0.size
  have hsz : w2.heap.size ≤ (w2.alloc (.cells #[.int .i64 q, .int .i64 k, .slice aS n cS] 25)).heap.size := by simp
  go_wp2_with fail
  refine (cToBys a cap zs _ (hz.below HB) hs).mono ?_
  rintro e w3 ⟨g1, rfl, O1, hg1, hb⟩
  replace HB := btrans HB hb
  replace RS := own_keep RS hb
  replace KW := blk_keep hb KW
  clear hb
  clear hg1
  have hwg : w.heap.size ≤ g1 := by have h2 := own_from O1 (Nat.le_refl _) g1 rfl; have h3 := hszw; omega
  have hSg : ∀ b, (Value.slice aS n cS).ownBlock = some b → b ≠ g1 := fun b hb e => by have h1 := hSl b hb; have h2 := own_from O1 (Nat.le_refl _) g1 rfl; omega
  have hg1 := owns_lt O1
  go_wp2_with fail
  refine (CI _ _ _ (Bys.of_owns O1) hs (Nat.le_refl _)).mono ?_
  rintro e w4 ⟨vG, rfl, RG, hb⟩
  replace HB := btrans HB hb
  replace RS := own_keep RS hb
  replace KW := blk_keep hb KW
  replace O1 := own_keep O1 hb
  have hGg : ∀ b, vG.ownBlock = some b → b ≠ g1 := fun b hb e => by have h2 := own_from RG (Nat.le_refl _) b hb; omega
  have hSl2 : ∀ b, (Value.slice aS n cS).ownBlock = some b → vG.ownBlock ≠ some b := fun b hb e => by have h1 := hSl b hb; have h2 := own_from RG (Nat.le_refl _) b e; have h3 := own_from O1 (Nat.le_refl _) g1 rfl; omega
  have hGw : ∀ j, vG.ownBlock = some j → w.heap.size ≤ j := fun j hj => by have h2 := own_from RG (Nat.le_refl _) j hj; omega
  replace RG := own_base RG (Nat.zero_le _)
  clear hb hg1 hsz hszw hSl HB0
  obtain ⟨aG, cG, rfl⟩ := own_form RG
  have KG := one_block w4 (.cells #[.int .i64 q, .int .i64 k, .slice aG n cG] 25)
  have hb := balloc w4 (.cells #[.int .i64 q, .int .i64 k, .slice aG n cG] 25)
  replace HB := btrans HB hb
  replace RS := own_keep RS hb
  replace KW := blk_keep hb KW
  replace O1 := own_keep O1 hb
  replace RG := own_keep RG hb
  clear hb
  obtain ⟨⟨xKW0, xKW1, xKW2⟩, -⟩ := blk3 KW
  obtain ⟨⟨xKG0, xKG1, xKG2⟩, -⟩ := blk3 KG
  go_wp2_with fail
  refine (cEqTeln _ _ n q k _ _ bd _ hn.out RG RS (by unfold maxLen; omega)).mono ?_
  rintro e w5 ⟨rfl, hb⟩
  clear xKW0 xKW1 xKW2 xKG0 xKG1 xKG2
  replace HB := btrans HB hb
  replace RS := own_keep RS hb
  replace KW := blk_keep hb KW
  replace O1 := own_keep O1 hb
  replace RG := own_keep RG hb
  replace KG := blk_keep hb KG
  clear hb
  go_wp2_with fail
  refine (cToBys a cap zs _ (hz.below HB) hs).mono ?_
  rintro e w6 ⟨g2, rfl, O2, hg2, hb⟩
  replace HB := btrans HB hb
  replace RS := own_keep RS hb
  replace KW := blk_keep hb KW
  replace O1 := own_keep O1 hb
  replace RG := own_keep RG hb
  replace KG := blk_keep hb KG
  clear hb
  clear hg2
  go_wp2_with fail
  refine (cEqBys _ _ _ _ zs _ (Bys.of_owns O1) (Bys.of_owns O2) hl).mono ?_
  rintro e w7 ⟨rfl, hb⟩
  replace HB := btrans HB hb
  replace RS := own_keep RS hb
  replace KW := blk_keep hb KW
  replace O1 := own_keep O1 hb
  replace RG := own_keep RG hb
  replace KG := blk_keep hb KG
  replace O2 := own_keep O2 hb
  clear hb O2
  go_wp2_with fail
  refine (cMarkBys _ zs.length _ zs 1 _ rfl O1 hs (by omega) (by omega)).mono ?_
  rintro e w8 ⟨rfl, M1, hg⟩
  replace HB := HB.grown hg HB.size (fun j hj => by simp [Value.ownBlock] at hj; omega)
  replace KW := blk_far KW O1 (by decide) hg
  replace KG := blk_far KG O1 (by decide) hg
  replace RG := own_far RG hg (fun b hb e => hGg b hb (by simpa [Value.ownBlock] using e))
  replace RS := own_far RS hg (fun b hb e => hSg b hb (by simpa [Value.ownBlock] using e))
  clear hg O1 M1 hGg hSg hwg
  have hk1 : ¬ (1 + (zs.length : Int) < 0) := by omega
  obtain ⟨⟨xKW0, xKW1, xKW2⟩, -⟩ := blk3 KW
  obtain ⟨⟨xKG0, xKG1, xKG2⟩, -⟩ := blk3 KG
  go_wp2_with fail
  refine (cEqTeln _ _ n q k _ _ bd _ hn.out RG RS (by unfold maxLen; omega)).mono ?_
  rintro e w9 ⟨rfl, hb⟩
  clear xKW0 xKW1 xKW2 xKG0 xKG1 xKG2
  replace HB := btrans HB hb
  replace RS := own_keep RS hb
  replace KW := blk_keep hb KW
  replace RG := own_keep RG hb
  replace KG := blk_keep hb KG
  clear hb hk1
  obtain ⟨⟨xKG0, xKG1, xKG2⟩, -⟩ := blk3 KG
  go_wp2_with fail
  refine (cMarkTel _ n q k _ bd 1 _ hn.out RG (by omega) (by omega) (by omega)).mono ?_
  rintro e w10 ⟨rfl, MG, hg⟩
  clear xKG0 xKG1 xKG2
  replace HB := HB.grown hg HB.size (fun j hj => hGw j hj)
  replace KW := blk_far KW RG (by decide) hg
  replace KG := blk_far KG RG (by decide) hg
  replace RS := own_far RS hg (fun b hb e => hSl2 b hb e.symm)
  clear hg RG hGw hSl2
  have hq0 : ¬ (1 + (n : Int) < 0) := by omega
  obtain ⟨⟨xKG0, xKG1, xKG2⟩, -⟩ := blk3 KG
  go_wp2_with fail
  refine (cHeldTel _ n q k _ 1 _ MG (by omega) (by omega) (by omega)).mono ?_
  rintro e w11 ⟨rfl, hb⟩
  clear xKG0 xKG1 xKG2
  replace HB := btrans HB hb
  replace RS := own_keep RS hb
  replace KW := blk_keep hb KW
  replace KG := blk_keep hb KG
  replace MG := own_keep MG hb
  clear hb
  go_wp2_with fail
  refine (cToBys a cap zs _ (hz.below HB) hs).mono ?_
  rintro e w12 ⟨g5, rfl, O5, hg5, hb⟩
  replace HB := btrans HB hb
  replace RS := own_keep RS hb
  replace KW := blk_keep hb KW
  replace KG := blk_keep hb KG
  replace MG := own_keep MG hb
  clear hb
  clear hg5
  go_wp2_with fail
  refine (CI _ _ _ (Bys.of_owns O5) hs (Nat.le_refl _)).mono ?_
  rintro e w13 ⟨vH, rfl, RH, hb⟩
  replace HB := btrans HB hb
  replace RS := own_keep RS hb
  replace KW := blk_keep hb KW
  replace KG := blk_keep hb KG
  replace MG := own_keep MG hb
  replace O5 := own_keep O5 hb
  clear hb O5
  replace RH := own_base RH (Nat.zero_le _)
  obtain ⟨aH, cH, rfl⟩ := own_form RH
  have KH := one_block w13 (.cells #[.int .i64 q, .int .i64 k, .slice aH n cH] 25)
  have hb := balloc w13 (.cells #[.int .i64 q, .int .i64 k, .slice aH n cH] 25)
  replace HB := btrans HB hb
  replace RS := own_keep RS hb
  replace KW := blk_keep hb KW
  replace KG := blk_keep hb KG
  replace MG := own_keep MG hb
  replace RH := own_keep RH hb
  clear hb
  obtain ⟨⟨xKW0, xKW1, xKW2⟩, -⟩ := blk3 KW
  obtain ⟨⟨xKH0, xKH1, xKH2⟩, -⟩ := blk3 KH
  go_wp2_with fail
  refine (cEqTeln _ _ n q k _ _ bd _ hn.out RH RS (by unfold maxLen; omega)).mono ?_
  rintro e w14 ⟨rfl, hb⟩
  clear xKW0 xKW1 xKW2 xKH0 xKH1 xKH2
  replace HB := btrans HB hb
  replace RS := own_keep RS hb
  replace KW := blk_keep hb KW
  replace KG := blk_keep hb KG
  replace MG := own_keep MG hb
  replace RH := own_keep RH hb
  replace KH := blk_keep hb KH
  clear hb
  obtain ⟨⟨xKG0, xKG1, xKG2⟩, -⟩ := blk3 KG
  go_wp2_with fail
  refine (cHeldTel _ n q k _ 1 _ MG (by omega) (by omega) (by omega)).mono ?_
  rintro e w15 ⟨rfl, hb⟩
  clear xKG0 xKG1 xKG2
  replace HB := btrans HB hb
  replace RS := own_keep RS hb
  replace KW := blk_keep hb KW
  replace KG := blk_keep hb KG
  replace MG := own_keep MG hb
  replace RH := own_keep RH hb
  replace KH := blk_keep hb KH
  clear hb
  go_wp2
  go_ret
  exact ⟨rfl, HB⟩
end Go.Proofs.Ytgnohomplehacaa
