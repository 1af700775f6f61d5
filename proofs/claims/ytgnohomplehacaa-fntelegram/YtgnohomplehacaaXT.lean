/- FnTelegram. -/
import Derived.Test.YtgnohomplehacaaSX
import Derived.Test.YtgnohomplehacaaXS
import Derived.Test.YtgnohomplehacaaDR
namespace Go.Proofs.Ytgnohomplehacaa
open Go.RowKit
theorem encC (q k : Int) (v : Value) (m : Nat) (bd : List Int) (W : World) {B : Nat} (h : W.ownsRow B 5 1 v m (enc8 bd)) (hm : bd.length = m) (hy : By bd) (hok : okT ⟨q, k, bd⟩ = true) {DL : List Int} {L : Nat} (hD : encL ⟨q, k, bd⟩ = DL) (hL : DL.length = L) :
    Calls Try.prog 15 #[.agg #[.int .i64 q, .int .i64 k, v]] W fun e w' => ∃ v, e = .returned v ∧ w'.ownsRow W.heap.size 5 1 v L (enc8 DL) ∧ Below W.heap.size W w' := by
  obtain ⟨a, c, rfl⟩ := own_form h
  subst hm
  have := cEncI q k a c bd W (Bys.own h rfl) hy (own_cap h)
  rw [encV_yes hok, hD, hL] at this
  exact this
theorem decC (v : Value) (L : Nat) (DL : List Int) (W : World) {B : Nat} (h : W.ownsRow B 5 1 v L (enc8 DL)) (hL : DL.length = L) (hy : By DL) (hl : L ≤ 1000) : Calls Try.prog 16 #[v] W (AnsT W (decV DL)) := by
  obtain ⟨a, c, rfl⟩ := own_form h
  subst hL
  exact cDecI a c DL W (Bys.own h rfl) hy (by omega) (own_cap h)
theorem decForm1 {w W : World} {DL : List Int} {t : TelV} {e : Ending} (hd : decV DL = some t) (h : AnsT w (decV DL) e W) : ∃ v, e = .returned (.tuple #[.agg #[.int .i64 t.q, .int .i64 t.k, v], .bool true]) ∧ W.ownsRow w.heap.size 5 1 v t.b.length (enc8 t.b) ∧ Below w.heap.size w W := by
  obtain ⟨h1 | h1, hb⟩ := h
  · obtain ⟨u, v, e1, rfl, ho⟩ := h1
    rw [hd] at e1
    simp only [Option.some.injEq] at e1
    subst e1
    exact ⟨v, rfl, ho, hb⟩
  · rw [hd] at h1; cases h1.1
theorem cell_own {w : World} {B g n c : Nat} {xs : List Int} (h : w.ownsRow B 5 1 (.slice (some ⟨g, 0, none⟩) n c) n (enc8 xs)) (hn : xs.length = n) {i : Nat} (hi : i < n) : w.cell? ⟨g, i, none⟩ = some (.int .u8 (xs.getD i 0)) := by
  rcases Bys.own h hn with h1 | ⟨b', o', e, hc⟩
  · rw [h1] at hn; simp at hn; omega
  · simp only [Option.some.injEq, Addr.mk.injEq, and_true] at e
    obtain ⟨rfl, rfl⟩ := e
    have := hc i (by omega)
    rw [Nat.zero_add] at this
    exact this
theorem ends {w : World} {B g n c : Nat} {xs : List Int} (h : w.ownsRow B 5 1 (.slice (some ⟨g, 0, none⟩) n c) n (enc8 xs)) (hn : xs.length = n) (hf : framed xs = true) (h6 : 6 ≤ n) : w.cell? ⟨g, 0, none⟩ = some (.int .u8 126) ∧ w.cell? ⟨g, n - 1, none⟩ = some (.int .u8 126) := by
  simp only [framed, Bool.and_eq_true, decide_eq_true_eq, beq_iff_eq] at hf
  obtain ⟨h1, h2, h3⟩ := hf
  refine ⟨?_, ?_⟩
  · rw [cell_own h hn (by omega), h2]
  · rw [cell_own h hn (by omega), ← hn, h3]
theorem xor8_nat {x y : Int} (x0 : 0 ≤ x) (x1 : x ≤ 255) (y0 : 0 ≤ y) (y1 : y ≤ 255) : bits .xor .u8 x y = ((x.toNat ^^^ y.toNat : Nat) : Int) := by
  obtain ⟨a, rfl⟩ := Int.eq_ofNat_of_zero_le x0
  obtain ⟨b, rfl⟩ := Int.eq_ofNat_of_zero_le y0
  have e : bits .xor .u8 (a : Int) (b : Int) = IntKind.u8.wrap (((BitVec.ofInt 8 (a : Int) ^^^ BitVec.ofInt 8 (b : Int)).toNat : Nat) : Int) := rfl
  have h : (BitVec.ofInt 8 (a : Int) ^^^ BitVec.ofInt 8 (b : Int)).toNat = a ^^^ b := by
    rw [BitVec.toNat_xor]
    simp
    rw [Nat.mod_eq_of_lt (by omega), Nat.mod_eq_of_lt (by omega)]
  have hlt : a ^^^ b < 2 ^ 8 := Nat.xor_lt_two_pow (by omega) (by omega)
  rw [e, h, wrap8 _ (by omega) (by omega)]
  simp
theorem xor8_in {x y : Int} (x0 : 0 ≤ x) (x1 : x ≤ 255) (y0 : 0 ≤ y) (y1 : y ≤ 255) : 0 ≤ bits .xor .u8 x y ∧ bits .xor .u8 x y ≤ 255 := by
  rw [xor8_nat x0 x1 y0 y1]
  have hlt : x.toNat ^^^ y.toNat < 2 ^ 8 := Nat.xor_lt_two_pow (by omega) (by omega)
  omega
theorem xor8_ne {x y : Int} (x0 : 0 ≤ x) (x1 : x ≤ 255) (y0 : 1 ≤ y) (y1 : y ≤ 255) : bits .xor .u8 x y ≠ x := by
  rw [xor8_nat x0 x1 (by omega) y1]
  intro e
  have e2 : x.toNat ^^^ y.toNat = x.toNat := by omega
  have e3 : y.toNat = 0 := by
    have := congrArg (x.toNat ^^^ ·) e2
    simpa [← Nat.xor_assoc] using this
  omega
theorem by_set {xs : List Int} (h : By xs) {j : Nat} {z : Int} (z0 : 0 ≤ z) (z1 : z ≤ 255) : By (xs.set j z) := fun y hy => by
  rcases List.mem_or_eq_of_mem_set hy with h1 | h1
  · exact h y h1
  · subst h1; exact ⟨z0, z1⟩
theorem set_ne {xs : List Int} {j : Nat} (hj : j < xs.length) {z : Int} (h : z ≠ xs.getD j 0) : xs.set j z ≠ xs := fun e => by
  have := congrArg (fun l : List Int => l.getD j 0) e
  simp [List.getD, hj] at this h
  exact h this
theorem crcI1 (a : Option Addr) (c m : Nat) (bd : List Int) (W : World) {B : Nat} (h : W.ownsRow B 5 1 (.slice a m c) m (enc8 bd)) (hm : bd.length = m) (hy : By bd) (hl : m ≤ 1000) : Calls Try.prog 21 #[.slice a m c] W fun e w' => e = .returned (.int .i64 (crcV bd)) ∧ w' = W := by
  subst hm
  exact cCrcI a c bd W (Bys.own h rfl) hy (by unfold maxLen; omega)
theorem crcS1 (a : Option Addr) (c m : Nat) (bd : List Int) (W : World) {B : Nat} (h : W.ownsRow B 5 1 (.slice a m c) m (enc8 bd)) (hm : bd.length = m) (hy : By bd) (hl : m ≤ 1000) : Calls Try.prog 22 #[.slice a m c] W fun e w' => e = .returned (.int .i64 (crcV bd)) ∧ w' = W := by
  subst hm
  exact cCrcS a c bd W (Bys.own h rfl) hy (by unfold maxLen; omega)
set_option maxRecDepth 100000 in
set_option maxHeartbeats 12800000 in
theorem walkTelegramD (a : Option Addr) (cap : Nat) (bs : List Int) (w : World) (hzw : Bytes w a bs) (hl0 : bs.length ≤ maxLen) :
    Calls Try.prog 3 #[.slice a bs.length cap] w fun e w' => e = .returned (.bool true) ∧ Below w.heap.size w w' := by
  by_cases hbig : 1048576 < bs.length
  · have CB := cbig a cap bs.length w hl0
    rw [decide_eq_true hbig] at CB
    go_enter Try.func3, Try.ntmps3
    go_wp2_with fail
    refine CB.mono ?_
    rintro e w1 ⟨rfl, hw1⟩
    subst w1
    go_wp2
    go_ret
    exact ⟨rfl, Below.refl _ _⟩
  have hl : bs.length ≤ 1048576 := by omega
  have CB := cbig a cap bs.length w hl0
  rw [decide_eq_false hbig] at CB
  go_enter Try.func3, Try.ntmps3
  go_wp2_with fail
  refine CB.mono ?_
  rintro e w1 ⟨rfl, hw1⟩
  subst w1
  clear CB
  go_wp2_with fail
  refine (cDrawT1 cap a bs w hzw hl).mono ?_
  rintro e w1 ⟨⟨q, k, bd⟩, v, rfl, hok, hyb, hb6, RT, HB0⟩
  dsimp only at hyb hb6 RT
  obtain ⟨m, hm⟩ : ∃ m, bd.length = m := ⟨_, rfl⟩
  have hok1 := hok
  rw [hm] at RT hb6
  obtain ⟨va, vc, rfl⟩ := own_form RT
  replace RT := own_base RT (Nat.zero_le _)
  obtain ⟨DL, hDL⟩ : ∃ DL, encL ⟨q, k, bd⟩ = DL := ⟨_, rfl⟩
  have hel := enc_len hok
  have hyD := enc_by hok hyb
  have hdv : decV DL = some ⟨q, k, bd⟩ := by rw [← hDL]; exact decV_enc hok hyb
  have hDf : framed DL = true := by rw [← hDL]; exact framed_mk _
  rw [hDL] at hel hyD
  obtain ⟨L, hL⟩ : ∃ L, DL.length = L := ⟨_, rfl⟩
  rw [hL] at hel
  obtain ⟨hL6, hL130⟩ := hel
  obtain ⟨ML, hML⟩ : ∃ ML, L - 1 = ML := ⟨_, rfl⟩
  have hokB : Hid (telB q k m = true) := hide (by rw [← hm]; exact hok)
  replace hm := hide hm
  replace hok := hide hok
  replace hDL := hide hDL
  replace hL := hide hL
  replace hdv := hide hdv
  replace hDf := hide hDf
  clear hok1
  have HB := HB0
  have KT := one_block w1 (.cells #[.int .i64 q, .int .i64 k, .slice va m vc] 25)
  have hb := balloc w1 (.cells #[.int .i64 q, .int .i64 k, .slice va m vc] 25)
  replace HB := btrans HB hb
  replace RT := own_keep RT hb
  clear hb
  obtain ⟨⟨xKT0, xKT1, xKT2⟩, -⟩ := blk3 KT
  go_wp2_with fail
  refine (encC q k _ m bd _ RT hm.out hyb hok.out hDL.out hL.out).mono ?_
  rintro e w2 ⟨vD, rfl, RD, hb⟩
  clear xKT0 xKT1 xKT2
  replace HB := btrans HB hb
  replace RT := own_keep RT hb
  replace KT := blk_keep hb KT
  clear hb
  replace RD := own_base RD (Nat.zero_le _)
  obtain ⟨gD, cD, rfl⟩ := row_some RD (by omega)
  go_wp2_with fail
  refine (decC _ L DL _ RD hL.out hyD (by omega)).mono ?_
  intro e w3 hA
  obtain ⟨vG, rfl, RG, hb⟩ := decForm1 hdv.out hA
  clear hA
  replace HB := btrans HB hb
  replace RT := own_keep RT hb
  replace KT := blk_keep hb KT
  replace RD := own_keep RD hb
  clear hb
  replace RG := own_base RG (Nat.zero_le _)
  dsimp only at RG
  rw [hm.out] at RG
  obtain ⟨aG, cG, rfl⟩ := own_form RG
  have KG := one_block w3 (.cells #[.int .i64 q, .int .i64 k, .slice aG m cG] 25)
  have hb := balloc w3 (.cells #[.int .i64 q, .int .i64 k, .slice aG m cG] 25)
  replace HB := btrans HB hb
  replace RT := own_keep RT hb
  replace KT := blk_keep hb KT
  replace RD := own_keep RD hb
  replace RG := own_keep RG hb
  clear hb
  obtain ⟨⟨xKT0, xKT1, xKT2⟩, -⟩ := blk3 KT
  obtain ⟨⟨xKG0, xKG1, xKG2⟩, -⟩ := blk3 KG
  dsimp only
  go_wp2_with fail
  refine (cOkI q k va m vc _).mono ?_
  rintro e w4 ⟨rfl, hb⟩
  clear xKT0 xKT1 xKT2 xKG0 xKG1 xKG2
  replace HB := btrans HB hb
  replace RT := own_keep RT hb
  replace KT := blk_keep hb KT
  replace RD := own_keep RD hb
  replace RG := own_keep RG hb
  replace KG := blk_keep hb KG
  clear hb
  rw [hokB.out]
  obtain ⟨⟨xKT0, xKT1, xKT2⟩, -⟩ := blk3 KT
  obtain ⟨⟨xKG0, xKG1, xKG2⟩, -⟩ := blk3 KG
  go_wp2_with fail
  refine (cSameT _ _ m m q k q k _ _ bd bd _ hm.out hm.out RG RT hyb hyb).mono ?_
  rintro e w5 ⟨rfl, hb⟩
  clear xKT0 xKT1 xKT2 xKG0 xKG1 xKG2
  replace HB := btrans HB hb
  replace RT := own_keep RT hb
  replace KT := blk_keep hb KT
  replace RD := own_keep RD hb
  replace RG := own_keep RG hb
  replace KG := blk_keep hb KG
  clear hb
  rw [sameB_self]
  obtain ⟨d0, dl⟩ := ends RD hL.out hDf.out hL6
  rw [hML] at dl
  have l6 : ¬ ((L : Int) < 6) := by omega
  have l0 : (0 : Int) < (L : Int) := by omega
  have l0n : 0 < L := by omega
  have lm : (L : Int) - 1 = (ML : Int) := by omega
  have lm0 : (0 : Int) ≤ (ML : Int) := by omega
  have lm1 : (ML : Int) < (L : Int) := by omega
  have lm2 : ML < L := by omega
  have lm3 : ((ML : Int)).toNat = ML := by omega
  have A7 := balloc w5 (.cells #[] 5)
  have E7 : (w5.alloc (.cells #[] 5)).ownsRow w5.heap.size 5 1 (.slice (some ⟨w5.heap.size, 0, none⟩) 0 0) 0 (enc8 []) := World.ownsRow_made w5 _ 0 (Nat.le_refl _) (by unfold maxLen; omega) (by simp)
  obtain ⟨vB, w7, hrun, RB, hg7, -⟩ := app_by (xs := []) (n := 0) rfl E7 (some ⟨gD, 0, none⟩) cD (Bys.own (own_keep RD A7) hL.out) (by rw [hL.out]; omega) A7.size
  rw [hL.out, Nat.zero_add, List.nil_append] at RB
  rw [hL.out] at hrun
  have hb7 : Below w5.heap.size w5 w7 := A7.grown hg7 A7.size (fun y hy => own_from E7 (Nat.le_refl _) y hy)
  have hszw : w.heap.size ≤ w5.heap.size := HB.size
  obtain ⟨gB, cB, rfl⟩ := row_some RB (by omega)
  have hgB : w5.heap.size ≤ gB := own_from RB (Nat.le_refl _) gB rfl
  have hneT : ∀ y, (Value.slice va m vc).ownBlock = some y → y ≠ gB := fun y hy e => by have := own_blk_lt RT y hy; omega
  have hneG : ∀ y, (Value.slice aG m cG).ownBlock = some y → y ≠ gB := fun y hy e => by have := own_blk_lt RG y hy; omega
  have hneD : gD ≠ gB := fun e => by have := own_blk_lt RD gD rfl; omega
  have hb := hb7
  replace HB := btrans HB hb
  replace RT := own_keep RT hb
  replace KT := blk_keep hb KT
  replace RD := own_keep RD hb
  replace RG := own_keep RG hb
  replace KG := blk_keep hb KG
  clear hb hb7 A7 E7 hg7
  replace RB := own_base RB (Nat.zero_le _)
  go_wp2_with (at_builtin; refine Go.Lib.wpList_append_run _ rfl _ _ _ _ rfl _ _ rfl rfl _ _ hrun ?_)
  clear hrun d0 dl
  refine (cat a cap bs 3 _ (hzw.below HB) hl (by omega)).mono ?_
  rintro e w8 ⟨rfl, hw8⟩
  subst w8
  have at3 := atZ_in hzw 3
  generalize atZ bs 3 = z3 at *
  obtain ⟨J, hJ⟩ : ∃ J : Nat, z3.tmod (L : Int) = (J : Int) := ⟨(z3.tmod (L : Int)).toNat, by rw [Int.tmod_eq_emod_of_nonneg at3.1]; have := Int.emod_nonneg z3 (show (L : Int) ≠ 0 by omega); omega⟩
  have hJL : J < L := by have h1 := Int.emod_lt_of_pos z3 l0; rw [Int.tmod_eq_emod_of_nonneg at3.1] at hJ; omega
  have hLne : (L : Int) ≠ 0 := by omega
  have hwJ : IntKind.i64.wrap (J : Int) = (J : Int) := wrap_in _ (by omega) (by omega)
  have hJ0 : (0 : Int) ≤ (J : Int) := by omega
  have hJ1 : (J : Int) < (L : Int) := by omega
  have hJD : J < DL.length := by rw [hL.out]; exact hJL
  have cJ : w7.cell? ⟨gB, J, none⟩ = some (.int .u8 (DL.getD J 0)) := cell_own RB hL.out hJL
  have fJ := RB.frozenAt J
  have zJ := hyD.at hJD
  obtain ⟨zb, hzb⟩ : ∃ zb, zb = DL.getD J 0 := ⟨_, rfl⟩
  rw [← hzb] at cJ zJ
  have at4 := atZ_in hzw 4
  have C4 := fun W hW => cat a cap bs 4 W (hzw.below (w' := W) hW) hl (by omega)
  generalize atZ bs 4 = z4 at *
  obtain ⟨r4, hr4⟩ : ∃ r4, z4.tmod 255 = r4 := ⟨_, rfl⟩
  have hr40 : 0 ≤ r4 ∧ r4 ≤ 254 := by rw [← hr4, Int.tmod_eq_emod_of_nonneg at4.1]; omega
  have hw4a : IntKind.i64.wrap r4 = r4 := wrap_in _ (by omega) (by omega)
  have hw4b : IntKind.i64.wrap (1 + r4) = 1 + r4 := wrap_in _ (by omega) (by omega)
  have hw4c := wrap8 (1 + r4) (by omega) (by omega)
  obtain ⟨xb, hxb⟩ : ∃ xb, bits .xor .u8 zb (1 + r4) = xb := ⟨_, rfl⟩
  have hxb0 := xor8_in zJ.1 zJ.2 (show 0 ≤ 1 + r4 by omega) (show 1 + r4 ≤ 255 by omega)
  have hxbn : xb ≠ zb := by rw [← hxb]; exact xor8_ne zJ.1 zJ.2 (by omega) (by omega)
  rw [hxb] at hxb0
  replace hzb := hide hzb
  clear at3 at4
  go_wp2_with fail
  go_cut [] from 14 (fun wc => wc = w7.drew.setCell ⟨gB, J, none⟩ (.int .u8 xb))
  case first =>
    refine wp_region_held_drew (S := (fun _ => True)) (by kernel_rfl) ?_ (fun hHeld => ?_)
    · trivial
    have Bd : Below w7.heap.size w7 w7.drew := (Below.refl _ _).drew
    have cd := ble Bd cJ
    have RBd := own_keep RB Bd
    have fd := RBd.frozenAt J
    have D4 := C4 w7.drew (HB.drew)
    clear C4 cJ fJ RB HB KT KG RT RD RG RBd
    generalize w7.drew = wd at *
    refine wpAnyH_take (i := 0) (v := .slice (some ⟨gB, 0, none⟩) L cB) rfl (by kernel_rfl) (by kernel_rfl) (by kernel_rfl) (fun _ _ _ h => h) (Or.inl ⟨by kernel_rfl, fun w hS => by go_simp⟩) hHeld ?_
    change wpAnyH _ _ _ _ _ _ _ { tmps := List.toArray (_ :: _ :: _ :: _ :: _ :: _ :: _ :: _ :: _ :: _ :: _ :: _ :: _ :: _ :: _ :: _ :: _ :: _ :: _ :: _ :: _ :: _ :: _ :: _ :: _ :: _ :: _ :: _ :: _ :: _ :: _ :: _ :: _ :: _ :: _ :: _ :: _ :: _ :: _ :: _ :: _ :: _ :: _ :: _ :: _ :: _ :: _ :: _ :: _ :: _ :: _ :: _ :: _ :: _ :: _ :: _ :: _ :: _ :: _ :: _ :: _ :: _ :: _ :: _ :: _ :: _ :: .slice (some ⟨gB, 0, none⟩) L cB :: _ :: _ :: _ :: _ :: _ :: _ :: _ :: _ :: _ :: _ :: _ :: _ :: _ :: _ :: _ :: _ :: _ :: _ :: _ :: _ :: _ :: _ :: _ :: _ :: _ :: _ :: _ :: _ :: _ :: _ :: _ :: _ :: _ :: _ :: _ :: _ :: _ :: _ :: _ :: _ :: _ :: _ :: _ :: _ :: _ :: _ :: _ :: _ :: _ :: _ :: _ :: _ :: _ :: _ :: _ :: _ :: _ :: _ :: _ :: _ :: _ :: _ :: _ :: _ :: _ :: []), defers := [] } _
    refine wpAnyH_take (i := 1) (v := .int .i64 (J : Int)) rfl (by kernel_rfl) (by kernel_rfl) (by kernel_rfl) (fun _ _ _ h => h) (Or.inl ⟨by kernel_rfl, fun w hS => by go_simp⟩) hHeld ?_
    change wpAnyH _ _ _ _ _ _ _ { tmps := List.toArray (_ :: _ :: _ :: _ :: _ :: _ :: _ :: _ :: _ :: _ :: _ :: _ :: _ :: _ :: _ :: _ :: _ :: _ :: _ :: _ :: _ :: _ :: _ :: _ :: _ :: _ :: _ :: _ :: _ :: _ :: _ :: _ :: _ :: _ :: _ :: _ :: _ :: _ :: _ :: _ :: _ :: _ :: _ :: _ :: _ :: _ :: _ :: _ :: _ :: _ :: _ :: _ :: _ :: _ :: _ :: _ :: _ :: _ :: _ :: _ :: _ :: _ :: _ :: _ :: _ :: _ :: .slice (some ⟨gB, 0, none⟩) L cB :: .int .i64 (J : Int) :: _ :: _ :: _ :: _ :: _ :: _ :: _ :: _ :: _ :: _ :: _ :: _ :: _ :: _ :: _ :: _ :: _ :: _ :: _ :: _ :: _ :: _ :: _ :: _ :: _ :: _ :: _ :: _ :: _ :: _ :: _ :: _ :: _ :: _ :: _ :: _ :: _ :: _ :: _ :: _ :: _ :: _ :: _ :: _ :: _ :: _ :: _ :: _ :: _ :: _ :: _ :: _ :: _ :: _ :: _ :: _ :: _ :: _ :: _ :: _ :: _ :: _ :: _ :: _ :: []), defers := [] } _
    refine wpAnyH_take (i := 2) (v := .slice (some ⟨gB, 0, none⟩) L cB) rfl (by kernel_rfl) (by kernel_rfl) (by kernel_rfl) (fun _ _ _ h => h) (Or.inl ⟨by kernel_rfl, fun w hS => by go_simp⟩) hHeld ?_
    change wpAnyH _ _ _ _ _ _ _ { tmps := List.toArray (_ :: _ :: _ :: _ :: _ :: _ :: _ :: _ :: _ :: _ :: _ :: _ :: _ :: _ :: _ :: _ :: _ :: _ :: _ :: _ :: _ :: _ :: _ :: _ :: _ :: _ :: _ :: _ :: _ :: _ :: _ :: _ :: _ :: _ :: _ :: _ :: _ :: _ :: _ :: _ :: _ :: _ :: _ :: _ :: _ :: _ :: _ :: _ :: _ :: _ :: _ :: _ :: _ :: _ :: _ :: _ :: _ :: _ :: _ :: _ :: _ :: _ :: _ :: _ :: _ :: _ :: .slice (some ⟨gB, 0, none⟩) L cB :: .int .i64 (J : Int) :: .slice (some ⟨gB, 0, none⟩) L cB :: _ :: _ :: _ :: _ :: _ :: _ :: _ :: _ :: _ :: _ :: _ :: _ :: _ :: _ :: _ :: _ :: _ :: _ :: _ :: _ :: _ :: _ :: _ :: _ :: _ :: _ :: _ :: _ :: _ :: _ :: _ :: _ :: _ :: _ :: _ :: _ :: _ :: _ :: _ :: _ :: _ :: _ :: _ :: _ :: _ :: _ :: _ :: _ :: _ :: _ :: _ :: _ :: _ :: _ :: _ :: _ :: _ :: _ :: _ :: _ :: _ :: _ :: _ :: []), defers := [] } _
    refine wpAnyH_take (i := 3) (v := .int .i64 (J : Int)) rfl (by kernel_rfl) (by kernel_rfl) (by kernel_rfl) (fun _ _ _ h => h) (Or.inl ⟨by kernel_rfl, fun w hS => by go_simp⟩) hHeld ?_
    change wpAnyH _ _ _ _ _ _ _ { tmps := List.toArray (_ :: _ :: _ :: _ :: _ :: _ :: _ :: _ :: _ :: _ :: _ :: _ :: _ :: _ :: _ :: _ :: _ :: _ :: _ :: _ :: _ :: _ :: _ :: _ :: _ :: _ :: _ :: _ :: _ :: _ :: _ :: _ :: _ :: _ :: _ :: _ :: _ :: _ :: _ :: _ :: _ :: _ :: _ :: _ :: _ :: _ :: _ :: _ :: _ :: _ :: _ :: _ :: _ :: _ :: _ :: _ :: _ :: _ :: _ :: _ :: _ :: _ :: _ :: _ :: _ :: _ :: .slice (some ⟨gB, 0, none⟩) L cB :: .int .i64 (J : Int) :: .slice (some ⟨gB, 0, none⟩) L cB :: .int .i64 (J : Int) :: _ :: _ :: _ :: _ :: _ :: _ :: _ :: _ :: _ :: _ :: _ :: _ :: _ :: _ :: _ :: _ :: _ :: _ :: _ :: _ :: _ :: _ :: _ :: _ :: _ :: _ :: _ :: _ :: _ :: _ :: _ :: _ :: _ :: _ :: _ :: _ :: _ :: _ :: _ :: _ :: _ :: _ :: _ :: _ :: _ :: _ :: _ :: _ :: _ :: _ :: _ :: _ :: _ :: _ :: _ :: _ :: _ :: _ :: _ :: _ :: _ :: _ :: []), defers := [] } _
    refine wpAnyH_take (i := 4) (v := .pointer (some ⟨gB, J, none⟩)) rfl (by kernel_rfl) (by kernel_rfl) (by kernel_rfl) (fun _ _ _ h => h) (Or.inl ⟨by kernel_rfl, fun w hS => by go_simp⟩) hHeld ?_
    change wpAnyH _ _ _ _ _ _ _ { tmps := List.toArray (_ :: _ :: _ :: _ :: _ :: _ :: _ :: _ :: _ :: _ :: _ :: _ :: _ :: _ :: _ :: _ :: _ :: _ :: _ :: _ :: _ :: _ :: _ :: _ :: _ :: _ :: _ :: _ :: _ :: _ :: _ :: _ :: _ :: _ :: _ :: _ :: _ :: _ :: _ :: _ :: _ :: _ :: _ :: _ :: _ :: _ :: _ :: _ :: _ :: _ :: _ :: _ :: _ :: _ :: _ :: _ :: _ :: _ :: _ :: _ :: _ :: _ :: _ :: _ :: _ :: _ :: .slice (some ⟨gB, 0, none⟩) L cB :: .int .i64 (J : Int) :: .slice (some ⟨gB, 0, none⟩) L cB :: .int .i64 (J : Int) :: .pointer (some ⟨gB, J, none⟩) :: _ :: _ :: _ :: _ :: _ :: _ :: _ :: _ :: _ :: _ :: _ :: _ :: _ :: _ :: _ :: _ :: _ :: _ :: _ :: _ :: _ :: _ :: _ :: _ :: _ :: _ :: _ :: _ :: _ :: _ :: _ :: _ :: _ :: _ :: _ :: _ :: _ :: _ :: _ :: _ :: _ :: _ :: _ :: _ :: _ :: _ :: _ :: _ :: _ :: _ :: _ :: _ :: _ :: _ :: _ :: _ :: _ :: _ :: _ :: _ :: _ :: []), defers := [] } _
    refine wpAnyH_take (i := 6) (v := .slice a bs.length cap) rfl (by kernel_rfl) (by kernel_rfl) (by kernel_rfl) (fun _ _ _ h => h) (Or.inl ⟨by kernel_rfl, fun w hS => by go_simp⟩) hHeld ?_
    change wpAnyH _ _ _ _ _ _ _ { tmps := List.toArray (_ :: _ :: _ :: _ :: _ :: _ :: _ :: _ :: _ :: _ :: _ :: _ :: _ :: _ :: _ :: _ :: _ :: _ :: _ :: _ :: _ :: _ :: _ :: _ :: _ :: _ :: _ :: _ :: _ :: _ :: _ :: _ :: _ :: _ :: _ :: _ :: _ :: _ :: _ :: _ :: _ :: _ :: _ :: _ :: _ :: _ :: _ :: _ :: _ :: _ :: _ :: _ :: _ :: _ :: _ :: _ :: _ :: _ :: _ :: _ :: _ :: _ :: _ :: _ :: _ :: _ :: .slice (some ⟨gB, 0, none⟩) L cB :: .int .i64 (J : Int) :: .slice (some ⟨gB, 0, none⟩) L cB :: .int .i64 (J : Int) :: .pointer (some ⟨gB, J, none⟩) :: _ :: .slice a bs.length cap :: _ :: _ :: _ :: _ :: _ :: _ :: _ :: _ :: _ :: _ :: _ :: _ :: _ :: _ :: _ :: _ :: _ :: _ :: _ :: _ :: _ :: _ :: _ :: _ :: _ :: _ :: _ :: _ :: _ :: _ :: _ :: _ :: _ :: _ :: _ :: _ :: _ :: _ :: _ :: _ :: _ :: _ :: _ :: _ :: _ :: _ :: _ :: _ :: _ :: _ :: _ :: _ :: _ :: _ :: _ :: _ :: _ :: _ :: _ :: []), defers := [] } _
    refine wpAnyH_ready (rs := [5, 7]) (by kernel_rfl) (by simp) ?_
    refine (AllReadyH.cons rfl (fun KK hK => ?_) (AllReadyH.cons rfl (fun KK hK => ?_) AllReadyH.nil))
    · skip
      go_simp
      clear hHeld
      refine hK.out _ _ (trivial) (fun hHeld => ?_)
      clear hK KK
      change wpAnyH _ _ _ _ _ _ _ { tmps := List.toArray (_ :: _ :: _ :: _ :: _ :: _ :: _ :: _ :: _ :: _ :: _ :: _ :: _ :: _ :: _ :: _ :: _ :: _ :: _ :: _ :: _ :: _ :: _ :: _ :: _ :: _ :: _ :: _ :: _ :: _ :: _ :: _ :: _ :: _ :: _ :: _ :: _ :: _ :: _ :: _ :: _ :: _ :: _ :: _ :: _ :: _ :: _ :: _ :: _ :: _ :: _ :: _ :: _ :: _ :: _ :: _ :: _ :: _ :: _ :: _ :: _ :: _ :: _ :: _ :: _ :: _ :: .slice (some ⟨gB, 0, none⟩) L cB :: .int .i64 (J : Int) :: .slice (some ⟨gB, 0, none⟩) L cB :: .int .i64 (J : Int) :: .pointer (some ⟨gB, J, none⟩) :: .int .u8 zb :: .slice a bs.length cap :: _ :: _ :: _ :: _ :: _ :: _ :: _ :: _ :: _ :: _ :: _ :: _ :: _ :: _ :: _ :: _ :: _ :: _ :: _ :: _ :: _ :: _ :: _ :: _ :: _ :: _ :: _ :: _ :: _ :: _ :: _ :: _ :: _ :: _ :: _ :: _ :: _ :: _ :: _ :: _ :: _ :: _ :: _ :: _ :: _ :: _ :: _ :: _ :: _ :: _ :: _ :: _ :: _ :: _ :: _ :: _ :: _ :: _ :: _ :: []), defers := [] } _
      refine wpAnyH_ready (rs := [7]) (by kernel_rfl) (by simp) ?_
      refine (AllReadyH.cons rfl (fun KK hK => ?_) AllReadyH.nil)
      go_simp
      refine D4.mono ?_
      rintro e wp ⟨rfl, hwp⟩
      subst wp
      go_wp2_with fail
      clear hHeld
      refine hK.out _ _ (trivial) (fun hHeld => ?_)
      clear hK KK
      change wpAnyH _ _ _ _ _ _ _ { tmps := List.toArray (_ :: _ :: _ :: _ :: _ :: _ :: _ :: _ :: _ :: _ :: _ :: _ :: _ :: _ :: _ :: _ :: _ :: _ :: _ :: _ :: _ :: _ :: _ :: _ :: _ :: _ :: _ :: _ :: _ :: _ :: _ :: _ :: _ :: _ :: _ :: _ :: _ :: _ :: _ :: _ :: _ :: _ :: _ :: _ :: _ :: _ :: _ :: _ :: _ :: _ :: _ :: _ :: _ :: _ :: _ :: _ :: _ :: _ :: _ :: _ :: _ :: _ :: _ :: _ :: _ :: _ :: .slice (some ⟨gB, 0, none⟩) L cB :: .int .i64 (J : Int) :: .slice (some ⟨gB, 0, none⟩) L cB :: .int .i64 (J : Int) :: .pointer (some ⟨gB, J, none⟩) :: .int .u8 zb :: .slice a bs.length cap :: .int .i64 z4 :: _ :: _ :: _ :: _ :: _ :: _ :: _ :: _ :: _ :: _ :: _ :: _ :: _ :: _ :: _ :: _ :: _ :: _ :: _ :: _ :: _ :: _ :: _ :: _ :: _ :: _ :: _ :: _ :: _ :: _ :: _ :: _ :: _ :: _ :: _ :: _ :: _ :: _ :: _ :: _ :: _ :: _ :: _ :: _ :: _ :: _ :: _ :: _ :: _ :: _ :: _ :: _ :: _ :: _ :: _ :: _ :: _ :: _ :: []), defers := [] } _
      refine wpAnyH_take (i := 8) (v := .int .i64 r4) rfl (by kernel_rfl) (by kernel_rfl) (by kernel_rfl) (fun _ _ _ h => h) (Or.inl ⟨by kernel_rfl, fun w hS => by go_simp⟩) hHeld ?_
      change wpAnyH _ _ _ _ _ _ _ { tmps := List.toArray (_ :: _ :: _ :: _ :: _ :: _ :: _ :: _ :: _ :: _ :: _ :: _ :: _ :: _ :: _ :: _ :: _ :: _ :: _ :: _ :: _ :: _ :: _ :: _ :: _ :: _ :: _ :: _ :: _ :: _ :: _ :: _ :: _ :: _ :: _ :: _ :: _ :: _ :: _ :: _ :: _ :: _ :: _ :: _ :: _ :: _ :: _ :: _ :: _ :: _ :: _ :: _ :: _ :: _ :: _ :: _ :: _ :: _ :: _ :: _ :: _ :: _ :: _ :: _ :: _ :: _ :: .slice (some ⟨gB, 0, none⟩) L cB :: .int .i64 (J : Int) :: .slice (some ⟨gB, 0, none⟩) L cB :: .int .i64 (J : Int) :: .pointer (some ⟨gB, J, none⟩) :: .int .u8 zb :: .slice a bs.length cap :: .int .i64 z4 :: .int .i64 r4 :: _ :: _ :: _ :: _ :: _ :: _ :: _ :: _ :: _ :: _ :: _ :: _ :: _ :: _ :: _ :: _ :: _ :: _ :: _ :: _ :: _ :: _ :: _ :: _ :: _ :: _ :: _ :: _ :: _ :: _ :: _ :: _ :: _ :: _ :: _ :: _ :: _ :: _ :: _ :: _ :: _ :: _ :: _ :: _ :: _ :: _ :: _ :: _ :: _ :: _ :: _ :: _ :: _ :: _ :: _ :: _ :: _ :: []), defers := [] } _
      refine wpAnyH_take (i := 9) (v := .int .i64 (1 + r4)) rfl (by kernel_rfl) (by kernel_rfl) (by kernel_rfl) (fun _ _ _ h => h) (Or.inl ⟨by kernel_rfl, fun w hS => by go_simp⟩) hHeld ?_
      change wpAnyH _ _ _ _ _ _ _ { tmps := List.toArray (_ :: _ :: _ :: _ :: _ :: _ :: _ :: _ :: _ :: _ :: _ :: _ :: _ :: _ :: _ :: _ :: _ :: _ :: _ :: _ :: _ :: _ :: _ :: _ :: _ :: _ :: _ :: _ :: _ :: _ :: _ :: _ :: _ :: _ :: _ :: _ :: _ :: _ :: _ :: _ :: _ :: _ :: _ :: _ :: _ :: _ :: _ :: _ :: _ :: _ :: _ :: _ :: _ :: _ :: _ :: _ :: _ :: _ :: _ :: _ :: _ :: _ :: _ :: _ :: _ :: _ :: .slice (some ⟨gB, 0, none⟩) L cB :: .int .i64 (J : Int) :: .slice (some ⟨gB, 0, none⟩) L cB :: .int .i64 (J : Int) :: .pointer (some ⟨gB, J, none⟩) :: .int .u8 zb :: .slice a bs.length cap :: .int .i64 z4 :: .int .i64 r4 :: .int .i64 (1 + r4) :: _ :: _ :: _ :: _ :: _ :: _ :: _ :: _ :: _ :: _ :: _ :: _ :: _ :: _ :: _ :: _ :: _ :: _ :: _ :: _ :: _ :: _ :: _ :: _ :: _ :: _ :: _ :: _ :: _ :: _ :: _ :: _ :: _ :: _ :: _ :: _ :: _ :: _ :: _ :: _ :: _ :: _ :: _ :: _ :: _ :: _ :: _ :: _ :: _ :: _ :: _ :: _ :: _ :: _ :: _ :: _ :: []), defers := [] } _
      refine wpAnyH_take (i := 10) (v := .int .u8 (1 + r4)) rfl (by kernel_rfl) (by kernel_rfl) (by kernel_rfl) (fun _ _ _ h => h) (Or.inl ⟨by kernel_rfl, fun w hS => by go_simp⟩) hHeld ?_
      change wpAnyH _ _ _ _ _ _ _ { tmps := List.toArray (_ :: _ :: _ :: _ :: _ :: _ :: _ :: _ :: _ :: _ :: _ :: _ :: _ :: _ :: _ :: _ :: _ :: _ :: _ :: _ :: _ :: _ :: _ :: _ :: _ :: _ :: _ :: _ :: _ :: _ :: _ :: _ :: _ :: _ :: _ :: _ :: _ :: _ :: _ :: _ :: _ :: _ :: _ :: _ :: _ :: _ :: _ :: _ :: _ :: _ :: _ :: _ :: _ :: _ :: _ :: _ :: _ :: _ :: _ :: _ :: _ :: _ :: _ :: _ :: _ :: _ :: .slice (some ⟨gB, 0, none⟩) L cB :: .int .i64 (J : Int) :: .slice (some ⟨gB, 0, none⟩) L cB :: .int .i64 (J : Int) :: .pointer (some ⟨gB, J, none⟩) :: .int .u8 zb :: .slice a bs.length cap :: .int .i64 z4 :: .int .i64 r4 :: .int .i64 (1 + r4) :: .int .u8 (1 + r4) :: _ :: _ :: _ :: _ :: _ :: _ :: _ :: _ :: _ :: _ :: _ :: _ :: _ :: _ :: _ :: _ :: _ :: _ :: _ :: _ :: _ :: _ :: _ :: _ :: _ :: _ :: _ :: _ :: _ :: _ :: _ :: _ :: _ :: _ :: _ :: _ :: _ :: _ :: _ :: _ :: _ :: _ :: _ :: _ :: _ :: _ :: _ :: _ :: _ :: _ :: _ :: _ :: _ :: _ :: _ :: []), defers := [] } _
      refine wpAnyH_take (i := 11) (v := .int .u8 xb) rfl (by kernel_rfl) (by kernel_rfl) (by kernel_rfl) (fun _ _ _ h => h) (Or.inl ⟨by kernel_rfl, fun w hS => by go_simp⟩) hHeld ?_
      change wpAnyH _ _ _ _ _ _ _ { tmps := List.toArray (_ :: _ :: _ :: _ :: _ :: _ :: _ :: _ :: _ :: _ :: _ :: _ :: _ :: _ :: _ :: _ :: _ :: _ :: _ :: _ :: _ :: _ :: _ :: _ :: _ :: _ :: _ :: _ :: _ :: _ :: _ :: _ :: _ :: _ :: _ :: _ :: _ :: _ :: _ :: _ :: _ :: _ :: _ :: _ :: _ :: _ :: _ :: _ :: _ :: _ :: _ :: _ :: _ :: _ :: _ :: _ :: _ :: _ :: _ :: _ :: _ :: _ :: _ :: _ :: _ :: _ :: .slice (some ⟨gB, 0, none⟩) L cB :: .int .i64 (J : Int) :: .slice (some ⟨gB, 0, none⟩) L cB :: .int .i64 (J : Int) :: .pointer (some ⟨gB, J, none⟩) :: .int .u8 zb :: .slice a bs.length cap :: .int .i64 z4 :: .int .i64 r4 :: .int .i64 (1 + r4) :: .int .u8 (1 + r4) :: .int .u8 xb :: _ :: _ :: _ :: _ :: _ :: _ :: _ :: _ :: _ :: _ :: _ :: _ :: _ :: _ :: _ :: _ :: _ :: _ :: _ :: _ :: _ :: _ :: _ :: _ :: _ :: _ :: _ :: _ :: _ :: _ :: _ :: _ :: _ :: _ :: _ :: _ :: _ :: _ :: _ :: _ :: _ :: _ :: _ :: _ :: _ :: _ :: _ :: _ :: _ :: _ :: _ :: _ :: _ :: _ :: []), defers := [] } _
      refine wpAnyH_take (i := 12) (v := .pointer (some ⟨gB, J, none⟩)) rfl (by kernel_rfl) (by kernel_rfl) (by kernel_rfl) (fun _ _ _ h => h) (Or.inl ⟨by kernel_rfl, fun w hS => by go_simp⟩) hHeld ?_
      change wpAnyH _ _ _ _ _ _ _ { tmps := List.toArray (_ :: _ :: _ :: _ :: _ :: _ :: _ :: _ :: _ :: _ :: _ :: _ :: _ :: _ :: _ :: _ :: _ :: _ :: _ :: _ :: _ :: _ :: _ :: _ :: _ :: _ :: _ :: _ :: _ :: _ :: _ :: _ :: _ :: _ :: _ :: _ :: _ :: _ :: _ :: _ :: _ :: _ :: _ :: _ :: _ :: _ :: _ :: _ :: _ :: _ :: _ :: _ :: _ :: _ :: _ :: _ :: _ :: _ :: _ :: _ :: _ :: _ :: _ :: _ :: _ :: _ :: .slice (some ⟨gB, 0, none⟩) L cB :: .int .i64 (J : Int) :: .slice (some ⟨gB, 0, none⟩) L cB :: .int .i64 (J : Int) :: .pointer (some ⟨gB, J, none⟩) :: .int .u8 zb :: .slice a bs.length cap :: .int .i64 z4 :: .int .i64 r4 :: .int .i64 (1 + r4) :: .int .u8 (1 + r4) :: .int .u8 xb :: .pointer (some ⟨gB, J, none⟩) :: _ :: _ :: _ :: _ :: _ :: _ :: _ :: _ :: _ :: _ :: _ :: _ :: _ :: _ :: _ :: _ :: _ :: _ :: _ :: _ :: _ :: _ :: _ :: _ :: _ :: _ :: _ :: _ :: _ :: _ :: _ :: _ :: _ :: _ :: _ :: _ :: _ :: _ :: _ :: _ :: _ :: _ :: _ :: _ :: _ :: _ :: _ :: _ :: _ :: _ :: _ :: _ :: _ :: []), defers := [] } _
      refine wpAnyH_ready (rs := [13]) (by kernel_rfl) (by simp) ?_
      refine (AllReadyH.cons rfl (fun KK hK => ?_) AllReadyH.nil)
      go_simp
      clear hHeld
      refine hK.out _ _ (trivial) (fun hHeld => ?_)
      clear hK KK
      change wpAnyH _ _ _ _ _ _ _ { tmps := List.toArray (_ :: _ :: _ :: _ :: _ :: _ :: _ :: _ :: _ :: _ :: _ :: _ :: _ :: _ :: _ :: _ :: _ :: _ :: _ :: _ :: _ :: _ :: _ :: _ :: _ :: _ :: _ :: _ :: _ :: _ :: _ :: _ :: _ :: _ :: _ :: _ :: _ :: _ :: _ :: _ :: _ :: _ :: _ :: _ :: _ :: _ :: _ :: _ :: _ :: _ :: _ :: _ :: _ :: _ :: _ :: _ :: _ :: _ :: _ :: _ :: _ :: _ :: _ :: _ :: _ :: _ :: .slice (some ⟨gB, 0, none⟩) L cB :: .int .i64 (J : Int) :: .slice (some ⟨gB, 0, none⟩) L cB :: .int .i64 (J : Int) :: .pointer (some ⟨gB, J, none⟩) :: .int .u8 zb :: .slice a bs.length cap :: .int .i64 z4 :: .int .i64 r4 :: .int .i64 (1 + r4) :: .int .u8 (1 + r4) :: .int .u8 xb :: .pointer (some ⟨gB, J, none⟩) :: _ :: _ :: _ :: _ :: _ :: _ :: _ :: _ :: _ :: _ :: _ :: _ :: _ :: _ :: _ :: _ :: _ :: _ :: _ :: _ :: _ :: _ :: _ :: _ :: _ :: _ :: _ :: _ :: _ :: _ :: _ :: _ :: _ :: _ :: _ :: _ :: _ :: _ :: _ :: _ :: _ :: _ :: _ :: _ :: _ :: _ :: _ :: _ :: _ :: _ :: _ :: _ :: _ :: []), defers := [] } _
      refine wpAnyH_done (by kernel_rfl) ?_ _
      go_wp2_with fail
      go_meet
      rfl
    · skip
      go_simp
      refine D4.mono ?_
      rintro e wp ⟨rfl, hwp⟩
      subst wp
      go_wp2_with fail
      clear hHeld
      refine hK.out _ _ (trivial) (fun hHeld => ?_)
      clear hK KK
      change wpAnyH _ _ _ _ _ _ _ { tmps := List.toArray (_ :: _ :: _ :: _ :: _ :: _ :: _ :: _ :: _ :: _ :: _ :: _ :: _ :: _ :: _ :: _ :: _ :: _ :: _ :: _ :: _ :: _ :: _ :: _ :: _ :: _ :: _ :: _ :: _ :: _ :: _ :: _ :: _ :: _ :: _ :: _ :: _ :: _ :: _ :: _ :: _ :: _ :: _ :: _ :: _ :: _ :: _ :: _ :: _ :: _ :: _ :: _ :: _ :: _ :: _ :: _ :: _ :: _ :: _ :: _ :: _ :: _ :: _ :: _ :: _ :: _ :: .slice (some ⟨gB, 0, none⟩) L cB :: .int .i64 (J : Int) :: .slice (some ⟨gB, 0, none⟩) L cB :: .int .i64 (J : Int) :: .pointer (some ⟨gB, J, none⟩) :: _ :: .slice a bs.length cap :: .int .i64 z4 :: _ :: _ :: _ :: _ :: _ :: _ :: _ :: _ :: _ :: _ :: _ :: _ :: _ :: _ :: _ :: _ :: _ :: _ :: _ :: _ :: _ :: _ :: _ :: _ :: _ :: _ :: _ :: _ :: _ :: _ :: _ :: _ :: _ :: _ :: _ :: _ :: _ :: _ :: _ :: _ :: _ :: _ :: _ :: _ :: _ :: _ :: _ :: _ :: _ :: _ :: _ :: _ :: _ :: _ :: _ :: _ :: _ :: _ :: []), defers := [] } _
      refine wpAnyH_take (i := 8) (v := .int .i64 r4) rfl (by kernel_rfl) (by kernel_rfl) (by kernel_rfl) (fun _ _ _ h => h) (Or.inl ⟨by kernel_rfl, fun w hS => by go_simp⟩) hHeld ?_
      change wpAnyH _ _ _ _ _ _ _ { tmps := List.toArray (_ :: _ :: _ :: _ :: _ :: _ :: _ :: _ :: _ :: _ :: _ :: _ :: _ :: _ :: _ :: _ :: _ :: _ :: _ :: _ :: _ :: _ :: _ :: _ :: _ :: _ :: _ :: _ :: _ :: _ :: _ :: _ :: _ :: _ :: _ :: _ :: _ :: _ :: _ :: _ :: _ :: _ :: _ :: _ :: _ :: _ :: _ :: _ :: _ :: _ :: _ :: _ :: _ :: _ :: _ :: _ :: _ :: _ :: _ :: _ :: _ :: _ :: _ :: _ :: _ :: _ :: .slice (some ⟨gB, 0, none⟩) L cB :: .int .i64 (J : Int) :: .slice (some ⟨gB, 0, none⟩) L cB :: .int .i64 (J : Int) :: .pointer (some ⟨gB, J, none⟩) :: _ :: .slice a bs.length cap :: .int .i64 z4 :: .int .i64 r4 :: _ :: _ :: _ :: _ :: _ :: _ :: _ :: _ :: _ :: _ :: _ :: _ :: _ :: _ :: _ :: _ :: _ :: _ :: _ :: _ :: _ :: _ :: _ :: _ :: _ :: _ :: _ :: _ :: _ :: _ :: _ :: _ :: _ :: _ :: _ :: _ :: _ :: _ :: _ :: _ :: _ :: _ :: _ :: _ :: _ :: _ :: _ :: _ :: _ :: _ :: _ :: _ :: _ :: _ :: _ :: _ :: _ :: []), defers := [] } _
      refine wpAnyH_take (i := 9) (v := .int .i64 (1 + r4)) rfl (by kernel_rfl) (by kernel_rfl) (by kernel_rfl) (fun _ _ _ h => h) (Or.inl ⟨by kernel_rfl, fun w hS => by go_simp⟩) hHeld ?_
      change wpAnyH _ _ _ _ _ _ _ { tmps := List.toArray (_ :: _ :: _ :: _ :: _ :: _ :: _ :: _ :: _ :: _ :: _ :: _ :: _ :: _ :: _ :: _ :: _ :: _ :: _ :: _ :: _ :: _ :: _ :: _ :: _ :: _ :: _ :: _ :: _ :: _ :: _ :: _ :: _ :: _ :: _ :: _ :: _ :: _ :: _ :: _ :: _ :: _ :: _ :: _ :: _ :: _ :: _ :: _ :: _ :: _ :: _ :: _ :: _ :: _ :: _ :: _ :: _ :: _ :: _ :: _ :: _ :: _ :: _ :: _ :: _ :: _ :: .slice (some ⟨gB, 0, none⟩) L cB :: .int .i64 (J : Int) :: .slice (some ⟨gB, 0, none⟩) L cB :: .int .i64 (J : Int) :: .pointer (some ⟨gB, J, none⟩) :: _ :: .slice a bs.length cap :: .int .i64 z4 :: .int .i64 r4 :: .int .i64 (1 + r4) :: _ :: _ :: _ :: _ :: _ :: _ :: _ :: _ :: _ :: _ :: _ :: _ :: _ :: _ :: _ :: _ :: _ :: _ :: _ :: _ :: _ :: _ :: _ :: _ :: _ :: _ :: _ :: _ :: _ :: _ :: _ :: _ :: _ :: _ :: _ :: _ :: _ :: _ :: _ :: _ :: _ :: _ :: _ :: _ :: _ :: _ :: _ :: _ :: _ :: _ :: _ :: _ :: _ :: _ :: _ :: _ :: []), defers := [] } _
      refine wpAnyH_take (i := 10) (v := .int .u8 (1 + r4)) rfl (by kernel_rfl) (by kernel_rfl) (by kernel_rfl) (fun _ _ _ h => h) (Or.inl ⟨by kernel_rfl, fun w hS => by go_simp⟩) hHeld ?_
      change wpAnyH _ _ _ _ _ _ _ { tmps := List.toArray (_ :: _ :: _ :: _ :: _ :: _ :: _ :: _ :: _ :: _ :: _ :: _ :: _ :: _ :: _ :: _ :: _ :: _ :: _ :: _ :: _ :: _ :: _ :: _ :: _ :: _ :: _ :: _ :: _ :: _ :: _ :: _ :: _ :: _ :: _ :: _ :: _ :: _ :: _ :: _ :: _ :: _ :: _ :: _ :: _ :: _ :: _ :: _ :: _ :: _ :: _ :: _ :: _ :: _ :: _ :: _ :: _ :: _ :: _ :: _ :: _ :: _ :: _ :: _ :: _ :: _ :: .slice (some ⟨gB, 0, none⟩) L cB :: .int .i64 (J : Int) :: .slice (some ⟨gB, 0, none⟩) L cB :: .int .i64 (J : Int) :: .pointer (some ⟨gB, J, none⟩) :: _ :: .slice a bs.length cap :: .int .i64 z4 :: .int .i64 r4 :: .int .i64 (1 + r4) :: .int .u8 (1 + r4) :: _ :: _ :: _ :: _ :: _ :: _ :: _ :: _ :: _ :: _ :: _ :: _ :: _ :: _ :: _ :: _ :: _ :: _ :: _ :: _ :: _ :: _ :: _ :: _ :: _ :: _ :: _ :: _ :: _ :: _ :: _ :: _ :: _ :: _ :: _ :: _ :: _ :: _ :: _ :: _ :: _ :: _ :: _ :: _ :: _ :: _ :: _ :: _ :: _ :: _ :: _ :: _ :: _ :: _ :: _ :: []), defers := [] } _
      refine wpAnyH_ready (rs := [5]) (by kernel_rfl) (by simp) ?_
      refine (AllReadyH.cons rfl (fun KK hK => ?_) AllReadyH.nil)
      go_simp
      clear hHeld
      refine hK.out _ _ (trivial) (fun hHeld => ?_)
      clear hK KK
      change wpAnyH _ _ _ _ _ _ _ { tmps := List.toArray (_ :: _ :: _ :: _ :: _ :: _ :: _ :: _ :: _ :: _ :: _ :: _ :: _ :: _ :: _ :: _ :: _ :: _ :: _ :: _ :: _ :: _ :: _ :: _ :: _ :: _ :: _ :: _ :: _ :: _ :: _ :: _ :: _ :: _ :: _ :: _ :: _ :: _ :: _ :: _ :: _ :: _ :: _ :: _ :: _ :: _ :: _ :: _ :: _ :: _ :: _ :: _ :: _ :: _ :: _ :: _ :: _ :: _ :: _ :: _ :: _ :: _ :: _ :: _ :: _ :: _ :: .slice (some ⟨gB, 0, none⟩) L cB :: .int .i64 (J : Int) :: .slice (some ⟨gB, 0, none⟩) L cB :: .int .i64 (J : Int) :: .pointer (some ⟨gB, J, none⟩) :: .int .u8 zb :: .slice a bs.length cap :: .int .i64 z4 :: .int .i64 r4 :: .int .i64 (1 + r4) :: .int .u8 (1 + r4) :: _ :: _ :: _ :: _ :: _ :: _ :: _ :: _ :: _ :: _ :: _ :: _ :: _ :: _ :: _ :: _ :: _ :: _ :: _ :: _ :: _ :: _ :: _ :: _ :: _ :: _ :: _ :: _ :: _ :: _ :: _ :: _ :: _ :: _ :: _ :: _ :: _ :: _ :: _ :: _ :: _ :: _ :: _ :: _ :: _ :: _ :: _ :: _ :: _ :: _ :: _ :: _ :: _ :: _ :: _ :: []), defers := [] } _
      refine wpAnyH_take (i := 11) (v := .int .u8 xb) rfl (by kernel_rfl) (by kernel_rfl) (by kernel_rfl) (fun _ _ _ h => h) (Or.inl ⟨by kernel_rfl, fun w hS => by go_simp⟩) hHeld ?_
      change wpAnyH _ _ _ _ _ _ _ { tmps := List.toArray (_ :: _ :: _ :: _ :: _ :: _ :: _ :: _ :: _ :: _ :: _ :: _ :: _ :: _ :: _ :: _ :: _ :: _ :: _ :: _ :: _ :: _ :: _ :: _ :: _ :: _ :: _ :: _ :: _ :: _ :: _ :: _ :: _ :: _ :: _ :: _ :: _ :: _ :: _ :: _ :: _ :: _ :: _ :: _ :: _ :: _ :: _ :: _ :: _ :: _ :: _ :: _ :: _ :: _ :: _ :: _ :: _ :: _ :: _ :: _ :: _ :: _ :: _ :: _ :: _ :: _ :: .slice (some ⟨gB, 0, none⟩) L cB :: .int .i64 (J : Int) :: .slice (some ⟨gB, 0, none⟩) L cB :: .int .i64 (J : Int) :: .pointer (some ⟨gB, J, none⟩) :: .int .u8 zb :: .slice a bs.length cap :: .int .i64 z4 :: .int .i64 r4 :: .int .i64 (1 + r4) :: .int .u8 (1 + r4) :: .int .u8 xb :: _ :: _ :: _ :: _ :: _ :: _ :: _ :: _ :: _ :: _ :: _ :: _ :: _ :: _ :: _ :: _ :: _ :: _ :: _ :: _ :: _ :: _ :: _ :: _ :: _ :: _ :: _ :: _ :: _ :: _ :: _ :: _ :: _ :: _ :: _ :: _ :: _ :: _ :: _ :: _ :: _ :: _ :: _ :: _ :: _ :: _ :: _ :: _ :: _ :: _ :: _ :: _ :: _ :: _ :: []), defers := [] } _
      refine wpAnyH_take (i := 12) (v := .pointer (some ⟨gB, J, none⟩)) rfl (by kernel_rfl) (by kernel_rfl) (by kernel_rfl) (fun _ _ _ h => h) (Or.inl ⟨by kernel_rfl, fun w hS => by go_simp⟩) hHeld ?_
      change wpAnyH _ _ _ _ _ _ _ { tmps := List.toArray (_ :: _ :: _ :: _ :: _ :: _ :: _ :: _ :: _ :: _ :: _ :: _ :: _ :: _ :: _ :: _ :: _ :: _ :: _ :: _ :: _ :: _ :: _ :: _ :: _ :: _ :: _ :: _ :: _ :: _ :: _ :: _ :: _ :: _ :: _ :: _ :: _ :: _ :: _ :: _ :: _ :: _ :: _ :: _ :: _ :: _ :: _ :: _ :: _ :: _ :: _ :: _ :: _ :: _ :: _ :: _ :: _ :: _ :: _ :: _ :: _ :: _ :: _ :: _ :: _ :: _ :: .slice (some ⟨gB, 0, none⟩) L cB :: .int .i64 (J : Int) :: .slice (some ⟨gB, 0, none⟩) L cB :: .int .i64 (J : Int) :: .pointer (some ⟨gB, J, none⟩) :: .int .u8 zb :: .slice a bs.length cap :: .int .i64 z4 :: .int .i64 r4 :: .int .i64 (1 + r4) :: .int .u8 (1 + r4) :: .int .u8 xb :: .pointer (some ⟨gB, J, none⟩) :: _ :: _ :: _ :: _ :: _ :: _ :: _ :: _ :: _ :: _ :: _ :: _ :: _ :: _ :: _ :: _ :: _ :: _ :: _ :: _ :: _ :: _ :: _ :: _ :: _ :: _ :: _ :: _ :: _ :: _ :: _ :: _ :: _ :: _ :: _ :: _ :: _ :: _ :: _ :: _ :: _ :: _ :: _ :: _ :: _ :: _ :: _ :: _ :: _ :: _ :: _ :: _ :: _ :: []), defers := [] } _
      refine wpAnyH_ready (rs := [13]) (by kernel_rfl) (by simp) ?_
      refine (AllReadyH.cons rfl (fun KK hK => ?_) AllReadyH.nil)
      go_simp
      clear hHeld
      refine hK.out _ _ (trivial) (fun hHeld => ?_)
      clear hK KK
      change wpAnyH _ _ _ _ _ _ _ { tmps := List.toArray (_ :: _ :: _ :: _ :: _ :: _ :: _ :: _ :: _ :: _ :: _ :: _ :: _ :: _ :: _ :: _ :: _ :: _ :: _ :: _ :: _ :: _ :: _ :: _ :: _ :: _ :: _ :: _ :: _ :: _ :: _ :: _ :: _ :: _ :: _ :: _ :: _ :: _ :: _ :: _ :: _ :: _ :: _ :: _ :: _ :: _ :: _ :: _ :: _ :: _ :: _ :: _ :: _ :: _ :: _ :: _ :: _ :: _ :: _ :: _ :: _ :: _ :: _ :: _ :: _ :: _ :: .slice (some ⟨gB, 0, none⟩) L cB :: .int .i64 (J : Int) :: .slice (some ⟨gB, 0, none⟩) L cB :: .int .i64 (J : Int) :: .pointer (some ⟨gB, J, none⟩) :: .int .u8 zb :: .slice a bs.length cap :: .int .i64 z4 :: .int .i64 r4 :: .int .i64 (1 + r4) :: .int .u8 (1 + r4) :: .int .u8 xb :: .pointer (some ⟨gB, J, none⟩) :: _ :: _ :: _ :: _ :: _ :: _ :: _ :: _ :: _ :: _ :: _ :: _ :: _ :: _ :: _ :: _ :: _ :: _ :: _ :: _ :: _ :: _ :: _ :: _ :: _ :: _ :: _ :: _ :: _ :: _ :: _ :: _ :: _ :: _ :: _ :: _ :: _ :: _ :: _ :: _ :: _ :: _ :: _ :: _ :: _ :: _ :: _ :: _ :: _ :: _ :: _ :: _ :: _ :: []), defers := [] } _
      refine wpAnyH_done (by kernel_rfl) ?_ _
      go_wp2_with fail
      go_meet
      rfl
  case rest =>
    subst hcut
    have Bd : Below w7.heap.size w7 w7.drew := (Below.refl _ _).drew
    have RBd := own_keep RB Bd
    have hbT := own_apartB RBd (blk_keep Bd KT) (by decide) gB rfl
    have hbG := own_apartB RBd (blk_keep Bd KG) (by decide) gB rfl
    have RB2 := (RBd.stored J (.int .u8 xb)).1
    rw [show (enc8 DL).set J (.int .u8 xb) = enc8 (DL.set J xb) from (List.map_set).symm] at RB2
    replace HB := below_set (o := J) (v := .int .u8 xb) (show w.heap.size ≤ gB by omega) (HB.drew)
    replace KT := blk_other (i := J) (v := .int .u8 xb) (blk_keep Bd KT) (fun e => hbT e.symm)
    replace KG := blk_other (i := J) (v := .int .u8 xb) (blk_keep Bd KG) (fun e => hbG e.symm)
    replace RT := own_set (i := J) (u := .int .u8 xb) (own_keep RT Bd) hneT
    replace RG := own_set (i := J) (u := .int .u8 xb) (own_keep RG Bd) hneG
    replace RD := own_set (i := J) (u := .int .u8 xb) (own_keep RD Bd) (fun y hy e => hneD ((Option.some.inj hy).trans e))
    obtain ⟨BL, hBLd⟩ : ∃ BL, BL = DL.set J xb := ⟨_, rfl⟩
    have hBL : BL.length = L := by rw [hBLd, List.length_set]; exact hL.out
    have hyB : By BL := by rw [hBLd]; exact by_set hyD hxb0.1 hxb0.2
    have hBne : BL ≠ DL := by rw [hBLd]; exact set_ne hJD (by rw [← hzb.out]; exact hxbn)
    rw [← hBLd] at RB2
    replace hBL := hide hBL
    clear Bd RBd hbT hbG RB C4 cJ fJ hxb hzb hneT hneG hneD hBLd
    generalize w7.drew.setCell ⟨gB, J, none⟩ (.int .u8 xb) = wc at *
    have CD := decC _ L BL wc RB2 hBL.out hyB (by omega)
    go_wp2_with fail
    refine CD.mono ?_
    rintro e w9 ⟨hans, hb⟩
    replace HB := btrans HB hb
    replace KT := blk_keep hb KT
    replace KG := blk_keep hb KG
    replace RT := own_keep RT hb
    replace RG := own_keep RG hb
    replace RD := own_keep RD hb
    replace RB2 := own_keep RB2 hb
    clear CD
    rcases hans with ⟨⟨uq, uk, ub⟩, vO, hdu, rfl, RO⟩ | ⟨hdu, rfl⟩
    · obtain ⟨huok, hub, hEu⟩ := decV_some hyB hdu
      have hsne : sameB ⟨uq, uk, ub⟩ ⟨q, k, bd⟩ = false := by
        cases hs : sameB ⟨uq, uk, ub⟩ ⟨q, k, bd⟩
        · rfl
        · have e := sameB_eq hs
          rw [e, hDL.out] at hEu
          exact absurd hEu.symm hBne
      dsimp only at RO hub
      obtain ⟨um, hum⟩ : ∃ um, ub.length = um := ⟨_, rfl⟩
      rw [hum] at RO
      replace RO := own_base RO (Nat.zero_le _)
      obtain ⟨ua, uc, rfl⟩ := own_form RO
      have KO := one_block w9 (.cells #[.int .i64 uq, .int .i64 uk, .slice ua um uc] 25)
      have hb2 := balloc w9 (.cells #[.int .i64 uq, .int .i64 uk, .slice ua um uc] 25)
      replace HB := btrans HB hb2
      replace KT := blk_keep hb2 KT
      replace KG := blk_keep hb2 KG
      replace RT := own_keep RT hb2
      replace RG := own_keep RG hb2
      replace RD := own_keep RD hb2
      replace RB2 := own_keep RB2 hb2
      replace RO := own_keep RO hb2
      replace hum := hide hum
      replace huok := hide huok
      replace hEu := hide hEu
      replace hsne := hide hsne
      replace hdu := hide hdu
      clear hb hb2
      dsimp only
      go_wp2_with fail
      generalize w9.alloc (.cells #[.int .i64 uq, .int .i64 uk, .slice ua um uc] 25) = wo at *
      generalize w9.heap.size = ob at *
      obtain ⟨⟨o0, o1, o2⟩, -⟩ := blk3 KO
      obtain ⟨⟨t0, t1, t2⟩, -⟩ := blk3 KT
      have cvB := conv_own (own_keep RB2 (show Below wo.heap.size wo wo.drew from (Below.refl _ _).drew)) hBL.out
      clear KO
      refine wp_region_held_drew (S := (fun w' => w'.cell? ⟨ob, 0, none⟩ = some (.int .i64 uq) ∧ w'.cell? ⟨ob, 1, none⟩ = some (.int .i64 uk) ∧ w'.cell? ⟨ob, 2, none⟩ = some (.slice ua um uc) ∧ w'.cell? ⟨w1.heap.size, 0, none⟩ = some (.int .i64 q) ∧ w'.cell? ⟨w1.heap.size, 1, none⟩ = some (.int .i64 k) ∧ w'.cell? ⟨w1.heap.size, 2, none⟩ = some (.slice va m vc) ∧ (convert 22 9 (.slice (some ⟨gB, 0, none⟩) L cB)).run Try.prog w' = .ok (.string (strOfNums BL)) w')) (by kernel_rfl) ?_ (fun hHeld => ?_)
      · exact ⟨o0, o1, o2, t0, t1, t2, cvB⟩
      have Bd : Below wo.heap.size wo wo.drew := (Below.refl _ _).drew
      have Rd1 := own_keep RO Bd
      have Rd2 := own_keep RT Bd
      generalize wo.drew = wd at *
      refine wpAnyH_take (i := 0) (v := .bool true) rfl (by kernel_rfl) (by kernel_rfl) (by kernel_rfl) (fun _ _ _ h => h) (Or.inl ⟨by kernel_rfl, fun w hS => by go_simp⟩) hHeld ?_
      change wpAnyH _ _ _ _ _ _ _ { tmps := List.toArray (_ :: _ :: _ :: _ :: _ :: _ :: _ :: _ :: _ :: _ :: _ :: _ :: _ :: _ :: _ :: _ :: _ :: _ :: _ :: _ :: _ :: _ :: _ :: _ :: _ :: _ :: _ :: _ :: _ :: _ :: _ :: _ :: _ :: _ :: _ :: _ :: _ :: _ :: _ :: _ :: _ :: _ :: _ :: _ :: _ :: _ :: _ :: _ :: _ :: _ :: _ :: _ :: _ :: _ :: _ :: _ :: _ :: _ :: _ :: _ :: _ :: _ :: _ :: _ :: _ :: _ :: _ :: _ :: _ :: _ :: _ :: _ :: _ :: _ :: _ :: _ :: _ :: _ :: _ :: _ :: _ :: _ :: _ :: _ :: .bool true :: _ :: _ :: _ :: _ :: _ :: _ :: _ :: _ :: _ :: _ :: _ :: _ :: _ :: _ :: _ :: _ :: _ :: _ :: _ :: _ :: _ :: _ :: _ :: _ :: _ :: _ :: _ :: _ :: _ :: _ :: _ :: _ :: _ :: _ :: _ :: _ :: _ :: _ :: _ :: _ :: _ :: _ :: _ :: _ :: _ :: _ :: _ :: []), defers := [] } _
      refine wpAnyH_take (i := 1) (v := .bool true) rfl (by kernel_rfl) (by kernel_rfl) (by kernel_rfl) (fun _ _ _ h => h) (Or.inl ⟨by kernel_rfl, fun w hS => by go_simp⟩) hHeld ?_
      change wpAnyH _ _ _ _ _ _ _ { tmps := List.toArray (_ :: _ :: _ :: _ :: _ :: _ :: _ :: _ :: _ :: _ :: _ :: _ :: _ :: _ :: _ :: _ :: _ :: _ :: _ :: _ :: _ :: _ :: _ :: _ :: _ :: _ :: _ :: _ :: _ :: _ :: _ :: _ :: _ :: _ :: _ :: _ :: _ :: _ :: _ :: _ :: _ :: _ :: _ :: _ :: _ :: _ :: _ :: _ :: _ :: _ :: _ :: _ :: _ :: _ :: _ :: _ :: _ :: _ :: _ :: _ :: _ :: _ :: _ :: _ :: _ :: _ :: _ :: _ :: _ :: _ :: _ :: _ :: _ :: _ :: _ :: _ :: _ :: _ :: _ :: _ :: _ :: _ :: _ :: _ :: .bool true :: .bool true :: _ :: _ :: _ :: _ :: _ :: _ :: _ :: _ :: _ :: _ :: _ :: _ :: _ :: _ :: _ :: _ :: _ :: _ :: _ :: _ :: _ :: _ :: _ :: _ :: _ :: _ :: _ :: _ :: _ :: _ :: _ :: _ :: _ :: _ :: _ :: _ :: _ :: _ :: _ :: _ :: _ :: _ :: _ :: _ :: _ :: _ :: []), defers := [] } _
      refine wpAnyH_take (i := 2) (v := .agg #[.int .i64 uq, .int .i64 uk, .slice ua um uc]) rfl (by kernel_rfl) (by kernel_rfl) (by kernel_rfl) (fun _ _ _ h => h) (Or.inl ⟨by kernel_rfl, fun w hS => by (obtain ⟨hS0, hS1, hS2, hS3, hS4, hS5, hS6⟩ := hS; go_simp)⟩) hHeld ?_
      change wpAnyH _ _ _ _ _ _ _ { tmps := List.toArray (_ :: _ :: _ :: _ :: _ :: _ :: _ :: _ :: _ :: _ :: _ :: _ :: _ :: _ :: _ :: _ :: _ :: _ :: _ :: _ :: _ :: _ :: _ :: _ :: _ :: _ :: _ :: _ :: _ :: _ :: _ :: _ :: _ :: _ :: _ :: _ :: _ :: _ :: _ :: _ :: _ :: _ :: _ :: _ :: _ :: _ :: _ :: _ :: _ :: _ :: _ :: _ :: _ :: _ :: _ :: _ :: _ :: _ :: _ :: _ :: _ :: _ :: _ :: _ :: _ :: _ :: _ :: _ :: _ :: _ :: _ :: _ :: _ :: _ :: _ :: _ :: _ :: _ :: _ :: _ :: _ :: _ :: _ :: _ :: .bool true :: .bool true :: .agg #[.int .i64 uq, .int .i64 uk, .slice ua um uc] :: _ :: _ :: _ :: _ :: _ :: _ :: _ :: _ :: _ :: _ :: _ :: _ :: _ :: _ :: _ :: _ :: _ :: _ :: _ :: _ :: _ :: _ :: _ :: _ :: _ :: _ :: _ :: _ :: _ :: _ :: _ :: _ :: _ :: _ :: _ :: _ :: _ :: _ :: _ :: _ :: _ :: _ :: _ :: _ :: _ :: []), defers := [] } _
      refine wpAnyH_take (i := 3) (v := .agg #[.int .i64 q, .int .i64 k, .slice va m vc]) rfl (by kernel_rfl) (by kernel_rfl) (by kernel_rfl) (fun _ _ _ h => h) (Or.inl ⟨by kernel_rfl, fun w hS => by (obtain ⟨hS0, hS1, hS2, hS3, hS4, hS5, hS6⟩ := hS; go_simp)⟩) hHeld ?_
      change wpAnyH _ _ _ _ _ _ _ { tmps := List.toArray (_ :: _ :: _ :: _ :: _ :: _ :: _ :: _ :: _ :: _ :: _ :: _ :: _ :: _ :: _ :: _ :: _ :: _ :: _ :: _ :: _ :: _ :: _ :: _ :: _ :: _ :: _ :: _ :: _ :: _ :: _ :: _ :: _ :: _ :: _ :: _ :: _ :: _ :: _ :: _ :: _ :: _ :: _ :: _ :: _ :: _ :: _ :: _ :: _ :: _ :: _ :: _ :: _ :: _ :: _ :: _ :: _ :: _ :: _ :: _ :: _ :: _ :: _ :: _ :: _ :: _ :: _ :: _ :: _ :: _ :: _ :: _ :: _ :: _ :: _ :: _ :: _ :: _ :: _ :: _ :: _ :: _ :: _ :: _ :: .bool true :: .bool true :: .agg #[.int .i64 uq, .int .i64 uk, .slice ua um uc] :: .agg #[.int .i64 q, .int .i64 k, .slice va m vc] :: _ :: _ :: _ :: _ :: _ :: _ :: _ :: _ :: _ :: _ :: _ :: _ :: _ :: _ :: _ :: _ :: _ :: _ :: _ :: _ :: _ :: _ :: _ :: _ :: _ :: _ :: _ :: _ :: _ :: _ :: _ :: _ :: _ :: _ :: _ :: _ :: _ :: _ :: _ :: _ :: _ :: _ :: _ :: _ :: []), defers := [] } _
      refine wpAnyH_ready (rs := [4]) (by kernel_rfl) (by simp) ?_
      refine (AllReadyH.cons rfl (fun KK hK => ?_) AllReadyH.nil)
      go_simp
      refine (cSameT _ _ um m uq uk q k _ _ ub bd _ hum.out hm.out Rd1 Rd2 hub hyb).mono ?_
      rintro e wp ⟨rfl, hbp⟩
      rw [hsne.out]
      have Bp := btrans Bd hbp
      go_wp2_with fail
      clear hHeld
      refine hK.out _ _ (⟨ble Bp o0, ble Bp o1, ble Bp o2, ble Bp t0, ble Bp t1, ble Bp t2, conv_own (own_keep RB2 Bp) hBL.out⟩) (fun hHeld => ?_)
      clear hK KK
      change wpAnyH _ _ _ _ _ _ _ { tmps := List.toArray (_ :: _ :: _ :: _ :: _ :: _ :: _ :: _ :: _ :: _ :: _ :: _ :: _ :: _ :: _ :: _ :: _ :: _ :: _ :: _ :: _ :: _ :: _ :: _ :: _ :: _ :: _ :: _ :: _ :: _ :: _ :: _ :: _ :: _ :: _ :: _ :: _ :: _ :: _ :: _ :: _ :: _ :: _ :: _ :: _ :: _ :: _ :: _ :: _ :: _ :: _ :: _ :: _ :: _ :: _ :: _ :: _ :: _ :: _ :: _ :: _ :: _ :: _ :: _ :: _ :: _ :: _ :: _ :: _ :: _ :: _ :: _ :: _ :: _ :: _ :: _ :: _ :: _ :: _ :: _ :: _ :: _ :: _ :: _ :: .bool true :: .bool true :: .agg #[.int .i64 uq, .int .i64 uk, .slice ua um uc] :: .agg #[.int .i64 q, .int .i64 k, .slice va m vc] :: .bool false :: _ :: _ :: _ :: _ :: _ :: _ :: _ :: _ :: _ :: _ :: _ :: _ :: _ :: _ :: _ :: _ :: _ :: _ :: _ :: _ :: _ :: _ :: _ :: _ :: _ :: _ :: _ :: _ :: _ :: _ :: _ :: _ :: _ :: _ :: _ :: _ :: _ :: _ :: _ :: _ :: _ :: _ :: _ :: []), defers := [] } _
      refine wpAnyH_take (i := 5) (v := .bool false) rfl (by kernel_rfl) (by kernel_rfl) (by kernel_rfl) (fun _ _ _ h => h) (Or.inl ⟨by kernel_rfl, fun w hS => by go_simp⟩) hHeld ?_
      change wpAnyH _ _ _ _ _ _ _ { tmps := List.toArray (_ :: _ :: _ :: _ :: _ :: _ :: _ :: _ :: _ :: _ :: _ :: _ :: _ :: _ :: _ :: _ :: _ :: _ :: _ :: _ :: _ :: _ :: _ :: _ :: _ :: _ :: _ :: _ :: _ :: _ :: _ :: _ :: _ :: _ :: _ :: _ :: _ :: _ :: _ :: _ :: _ :: _ :: _ :: _ :: _ :: _ :: _ :: _ :: _ :: _ :: _ :: _ :: _ :: _ :: _ :: _ :: _ :: _ :: _ :: _ :: _ :: _ :: _ :: _ :: _ :: _ :: _ :: _ :: _ :: _ :: _ :: _ :: _ :: _ :: _ :: _ :: _ :: _ :: _ :: _ :: _ :: _ :: _ :: _ :: .bool true :: .bool true :: .agg #[.int .i64 uq, .int .i64 uk, .slice ua um uc] :: .agg #[.int .i64 q, .int .i64 k, .slice va m vc] :: .bool false :: .bool false :: _ :: _ :: _ :: _ :: _ :: _ :: _ :: _ :: _ :: _ :: _ :: _ :: _ :: _ :: _ :: _ :: _ :: _ :: _ :: _ :: _ :: _ :: _ :: _ :: _ :: _ :: _ :: _ :: _ :: _ :: _ :: _ :: _ :: _ :: _ :: _ :: _ :: _ :: _ :: _ :: _ :: _ :: []), defers := [] } _
      refine wpAnyH_take (i := 6) (v := .agg #[.int .i64 uq, .int .i64 uk, .slice ua um uc]) rfl (by kernel_rfl) (by kernel_rfl) (by kernel_rfl) (fun _ _ _ h => h) (Or.inl ⟨by kernel_rfl, fun w hS => by (obtain ⟨hS0, hS1, hS2, hS3, hS4, hS5, hS6⟩ := hS; go_simp)⟩) hHeld ?_
      change wpAnyH _ _ _ _ _ _ _ { tmps := List.toArray (_ :: _ :: _ :: _ :: _ :: _ :: _ :: _ :: _ :: _ :: _ :: _ :: _ :: _ :: _ :: _ :: _ :: _ :: _ :: _ :: _ :: _ :: _ :: _ :: _ :: _ :: _ :: _ :: _ :: _ :: _ :: _ :: _ :: _ :: _ :: _ :: _ :: _ :: _ :: _ :: _ :: _ :: _ :: _ :: _ :: _ :: _ :: _ :: _ :: _ :: _ :: _ :: _ :: _ :: _ :: _ :: _ :: _ :: _ :: _ :: _ :: _ :: _ :: _ :: _ :: _ :: _ :: _ :: _ :: _ :: _ :: _ :: _ :: _ :: _ :: _ :: _ :: _ :: _ :: _ :: _ :: _ :: _ :: _ :: .bool true :: .bool true :: .agg #[.int .i64 uq, .int .i64 uk, .slice ua um uc] :: .agg #[.int .i64 q, .int .i64 k, .slice va m vc] :: .bool false :: .bool false :: .agg #[.int .i64 uq, .int .i64 uk, .slice ua um uc] :: _ :: _ :: _ :: _ :: _ :: _ :: _ :: _ :: _ :: _ :: _ :: _ :: _ :: _ :: _ :: _ :: _ :: _ :: _ :: _ :: _ :: _ :: _ :: _ :: _ :: _ :: _ :: _ :: _ :: _ :: _ :: _ :: _ :: _ :: _ :: _ :: _ :: _ :: _ :: _ :: _ :: []), defers := [] } _
      refine wpAnyH_take (i := 9) (v := .slice (some ⟨gB, 0, none⟩) L cB) rfl (by kernel_rfl) (by kernel_rfl) (by kernel_rfl) (fun _ _ _ h => h) (Or.inl ⟨by kernel_rfl, fun w hS => by go_simp⟩) hHeld ?_
      change wpAnyH _ _ _ _ _ _ _ { tmps := List.toArray (_ :: _ :: _ :: _ :: _ :: _ :: _ :: _ :: _ :: _ :: _ :: _ :: _ :: _ :: _ :: _ :: _ :: _ :: _ :: _ :: _ :: _ :: _ :: _ :: _ :: _ :: _ :: _ :: _ :: _ :: _ :: _ :: _ :: _ :: _ :: _ :: _ :: _ :: _ :: _ :: _ :: _ :: _ :: _ :: _ :: _ :: _ :: _ :: _ :: _ :: _ :: _ :: _ :: _ :: _ :: _ :: _ :: _ :: _ :: _ :: _ :: _ :: _ :: _ :: _ :: _ :: _ :: _ :: _ :: _ :: _ :: _ :: _ :: _ :: _ :: _ :: _ :: _ :: _ :: _ :: _ :: _ :: _ :: _ :: .bool true :: .bool true :: .agg #[.int .i64 uq, .int .i64 uk, .slice ua um uc] :: .agg #[.int .i64 q, .int .i64 k, .slice va m vc] :: .bool false :: .bool false :: .agg #[.int .i64 uq, .int .i64 uk, .slice ua um uc] :: _ :: _ :: .slice (some ⟨gB, 0, none⟩) L cB :: _ :: _ :: _ :: _ :: _ :: _ :: _ :: _ :: _ :: _ :: _ :: _ :: _ :: _ :: _ :: _ :: _ :: _ :: _ :: _ :: _ :: _ :: _ :: _ :: _ :: _ :: _ :: _ :: _ :: _ :: _ :: _ :: _ :: _ :: _ :: _ :: _ :: _ :: []), defers := [] } _
      refine wpAnyH_take (i := 10) (v := .string (strOfNums BL)) rfl (by kernel_rfl) (by kernel_rfl) (by kernel_rfl) (fun _ _ _ h => h) (Or.inl ⟨by kernel_rfl, fun w hS => by (obtain ⟨hS0, hS1, hS2, hS3, hS4, hS5, hS6⟩ := hS; go_simp)⟩) hHeld ?_
      change wpAnyH _ _ _ _ _ _ _ { tmps := List.toArray (_ :: _ :: _ :: _ :: _ :: _ :: _ :: _ :: _ :: _ :: _ :: _ :: _ :: _ :: _ :: _ :: _ :: _ :: _ :: _ :: _ :: _ :: _ :: _ :: _ :: _ :: _ :: _ :: _ :: _ :: _ :: _ :: _ :: _ :: _ :: _ :: _ :: _ :: _ :: _ :: _ :: _ :: _ :: _ :: _ :: _ :: _ :: _ :: _ :: _ :: _ :: _ :: _ :: _ :: _ :: _ :: _ :: _ :: _ :: _ :: _ :: _ :: _ :: _ :: _ :: _ :: _ :: _ :: _ :: _ :: _ :: _ :: _ :: _ :: _ :: _ :: _ :: _ :: _ :: _ :: _ :: _ :: _ :: _ :: .bool true :: .bool true :: .agg #[.int .i64 uq, .int .i64 uk, .slice ua um uc] :: .agg #[.int .i64 q, .int .i64 k, .slice va m vc] :: .bool false :: .bool false :: .agg #[.int .i64 uq, .int .i64 uk, .slice ua um uc] :: _ :: _ :: .slice (some ⟨gB, 0, none⟩) L cB :: .string (strOfNums BL) :: _ :: _ :: _ :: _ :: _ :: _ :: _ :: _ :: _ :: _ :: _ :: _ :: _ :: _ :: _ :: _ :: _ :: _ :: _ :: _ :: _ :: _ :: _ :: _ :: _ :: _ :: _ :: _ :: _ :: _ :: _ :: _ :: _ :: _ :: _ :: _ :: _ :: []), defers := [] } _
      refine wpAnyH_ready (rs := [7]) (by kernel_rfl) (by simp) ?_
      refine (AllReadyH.cons rfl (fun KK hK => ?_) AllReadyH.nil)
      go_simp
      refine (encC uq uk _ um ub _ (own_keep RO Bp) hum.out hub huok.out hEu.out hBL.out).mono ?_
      rintro e wq ⟨vE, rfl, RE, hbq⟩
      have Bq := btrans Bp hbq
      have cvE := conv_own RE hBL.out
      obtain ⟨aE, cE, rfl⟩ := own_form RE
      go_wp2_with fail
      clear hHeld
      refine hK.out _ _ (⟨ble Bq o0, ble Bq o1, ble Bq o2, ble Bq t0, ble Bq t1, ble Bq t2, conv_own (own_keep RB2 Bq) hBL.out⟩) (fun hHeld => ?_)
      clear hK KK
      change wpAnyH _ _ _ _ _ _ _ { tmps := List.toArray (_ :: _ :: _ :: _ :: _ :: _ :: _ :: _ :: _ :: _ :: _ :: _ :: _ :: _ :: _ :: _ :: _ :: _ :: _ :: _ :: _ :: _ :: _ :: _ :: _ :: _ :: _ :: _ :: _ :: _ :: _ :: _ :: _ :: _ :: _ :: _ :: _ :: _ :: _ :: _ :: _ :: _ :: _ :: _ :: _ :: _ :: _ :: _ :: _ :: _ :: _ :: _ :: _ :: _ :: _ :: _ :: _ :: _ :: _ :: _ :: _ :: _ :: _ :: _ :: _ :: _ :: _ :: _ :: _ :: _ :: _ :: _ :: _ :: _ :: _ :: _ :: _ :: _ :: _ :: _ :: _ :: _ :: _ :: _ :: .bool true :: .bool true :: .agg #[.int .i64 uq, .int .i64 uk, .slice ua um uc] :: .agg #[.int .i64 q, .int .i64 k, .slice va m vc] :: .bool false :: .bool false :: .agg #[.int .i64 uq, .int .i64 uk, .slice ua um uc] :: .slice aE L cE :: _ :: .slice (some ⟨gB, 0, none⟩) L cB :: .string (strOfNums BL) :: _ :: _ :: _ :: _ :: _ :: _ :: _ :: _ :: _ :: _ :: _ :: _ :: _ :: _ :: _ :: _ :: _ :: _ :: _ :: _ :: _ :: _ :: _ :: _ :: _ :: _ :: _ :: _ :: _ :: _ :: _ :: _ :: _ :: _ :: _ :: _ :: _ :: []), defers := [] } _
      refine wpAnyH_ready (rs := [8]) (by kernel_rfl) (by simp) ?_
      refine (AllReadyH.cons rfl (fun KK hK => ?_) AllReadyH.nil)
      go_simp
      clear hHeld
      refine hK.out _ _ (⟨ble Bq o0, ble Bq o1, ble Bq o2, ble Bq t0, ble Bq t1, ble Bq t2, conv_own (own_keep RB2 Bq) hBL.out⟩) (fun hHeld => ?_)
      clear hK KK
      change wpAnyH _ _ _ _ _ _ _ { tmps := List.toArray (_ :: _ :: _ :: _ :: _ :: _ :: _ :: _ :: _ :: _ :: _ :: _ :: _ :: _ :: _ :: _ :: _ :: _ :: _ :: _ :: _ :: _ :: _ :: _ :: _ :: _ :: _ :: _ :: _ :: _ :: _ :: _ :: _ :: _ :: _ :: _ :: _ :: _ :: _ :: _ :: _ :: _ :: _ :: _ :: _ :: _ :: _ :: _ :: _ :: _ :: _ :: _ :: _ :: _ :: _ :: _ :: _ :: _ :: _ :: _ :: _ :: _ :: _ :: _ :: _ :: _ :: _ :: _ :: _ :: _ :: _ :: _ :: _ :: _ :: _ :: _ :: _ :: _ :: _ :: _ :: _ :: _ :: _ :: _ :: .bool true :: .bool true :: .agg #[.int .i64 uq, .int .i64 uk, .slice ua um uc] :: .agg #[.int .i64 q, .int .i64 k, .slice va m vc] :: .bool false :: .bool false :: .agg #[.int .i64 uq, .int .i64 uk, .slice ua um uc] :: .slice aE L cE :: .string (strOfNums BL) :: .slice (some ⟨gB, 0, none⟩) L cB :: .string (strOfNums BL) :: _ :: _ :: _ :: _ :: _ :: _ :: _ :: _ :: _ :: _ :: _ :: _ :: _ :: _ :: _ :: _ :: _ :: _ :: _ :: _ :: _ :: _ :: _ :: _ :: _ :: _ :: _ :: _ :: _ :: _ :: _ :: _ :: _ :: _ :: _ :: _ :: _ :: []), defers := [] } _
      refine wpAnyH_take (i := 11) (v := .bool false) rfl (by kernel_rfl) (by kernel_rfl) (by kernel_rfl) (fun _ _ _ h => h) (Or.inl ⟨by kernel_rfl, fun w hS => by go_simp⟩) hHeld ?_
      change wpAnyH _ _ _ _ _ _ _ { tmps := List.toArray (_ :: _ :: _ :: _ :: _ :: _ :: _ :: _ :: _ :: _ :: _ :: _ :: _ :: _ :: _ :: _ :: _ :: _ :: _ :: _ :: _ :: _ :: _ :: _ :: _ :: _ :: _ :: _ :: _ :: _ :: _ :: _ :: _ :: _ :: _ :: _ :: _ :: _ :: _ :: _ :: _ :: _ :: _ :: _ :: _ :: _ :: _ :: _ :: _ :: _ :: _ :: _ :: _ :: _ :: _ :: _ :: _ :: _ :: _ :: _ :: _ :: _ :: _ :: _ :: _ :: _ :: _ :: _ :: _ :: _ :: _ :: _ :: _ :: _ :: _ :: _ :: _ :: _ :: _ :: _ :: _ :: _ :: _ :: _ :: .bool true :: .bool true :: .agg #[.int .i64 uq, .int .i64 uk, .slice ua um uc] :: .agg #[.int .i64 q, .int .i64 k, .slice va m vc] :: .bool false :: .bool false :: .agg #[.int .i64 uq, .int .i64 uk, .slice ua um uc] :: .slice aE L cE :: .string (strOfNums BL) :: .slice (some ⟨gB, 0, none⟩) L cB :: .string (strOfNums BL) :: .bool false :: _ :: _ :: _ :: _ :: _ :: _ :: _ :: _ :: _ :: _ :: _ :: _ :: _ :: _ :: _ :: _ :: _ :: _ :: _ :: _ :: _ :: _ :: _ :: _ :: _ :: _ :: _ :: _ :: _ :: _ :: _ :: _ :: _ :: _ :: _ :: _ :: []), defers := [] } _
      refine wpAnyH_take (i := 12) (v := .bool false) rfl (by kernel_rfl) (by kernel_rfl) (by kernel_rfl) (fun _ _ _ h => h) (Or.inl ⟨by kernel_rfl, fun w hS => by go_simp⟩) hHeld ?_
      change wpAnyH _ _ _ _ _ _ _ { tmps := List.toArray (_ :: _ :: _ :: _ :: _ :: _ :: _ :: _ :: _ :: _ :: _ :: _ :: _ :: _ :: _ :: _ :: _ :: _ :: _ :: _ :: _ :: _ :: _ :: _ :: _ :: _ :: _ :: _ :: _ :: _ :: _ :: _ :: _ :: _ :: _ :: _ :: _ :: _ :: _ :: _ :: _ :: _ :: _ :: _ :: _ :: _ :: _ :: _ :: _ :: _ :: _ :: _ :: _ :: _ :: _ :: _ :: _ :: _ :: _ :: _ :: _ :: _ :: _ :: _ :: _ :: _ :: _ :: _ :: _ :: _ :: _ :: _ :: _ :: _ :: _ :: _ :: _ :: _ :: _ :: _ :: _ :: _ :: _ :: _ :: .bool true :: .bool true :: .agg #[.int .i64 uq, .int .i64 uk, .slice ua um uc] :: .agg #[.int .i64 q, .int .i64 k, .slice va m vc] :: .bool false :: .bool false :: .agg #[.int .i64 uq, .int .i64 uk, .slice ua um uc] :: .slice aE L cE :: .string (strOfNums BL) :: .slice (some ⟨gB, 0, none⟩) L cB :: .string (strOfNums BL) :: .bool false :: .bool false :: _ :: _ :: _ :: _ :: _ :: _ :: _ :: _ :: _ :: _ :: _ :: _ :: _ :: _ :: _ :: _ :: _ :: _ :: _ :: _ :: _ :: _ :: _ :: _ :: _ :: _ :: _ :: _ :: _ :: _ :: _ :: _ :: _ :: _ :: _ :: []), defers := [] } _
      refine wpAnyH_take (i := 13) (v := .bool false) rfl (by kernel_rfl) (by kernel_rfl) (by kernel_rfl) (fun _ _ _ h => h) (Or.inl ⟨by kernel_rfl, fun w hS => by go_simp⟩) hHeld ?_
      change wpAnyH _ _ _ _ _ _ _ { tmps := List.toArray (_ :: _ :: _ :: _ :: _ :: _ :: _ :: _ :: _ :: _ :: _ :: _ :: _ :: _ :: _ :: _ :: _ :: _ :: _ :: _ :: _ :: _ :: _ :: _ :: _ :: _ :: _ :: _ :: _ :: _ :: _ :: _ :: _ :: _ :: _ :: _ :: _ :: _ :: _ :: _ :: _ :: _ :: _ :: _ :: _ :: _ :: _ :: _ :: _ :: _ :: _ :: _ :: _ :: _ :: _ :: _ :: _ :: _ :: _ :: _ :: _ :: _ :: _ :: _ :: _ :: _ :: _ :: _ :: _ :: _ :: _ :: _ :: _ :: _ :: _ :: _ :: _ :: _ :: _ :: _ :: _ :: _ :: _ :: _ :: .bool true :: .bool true :: .agg #[.int .i64 uq, .int .i64 uk, .slice ua um uc] :: .agg #[.int .i64 q, .int .i64 k, .slice va m vc] :: .bool false :: .bool false :: .agg #[.int .i64 uq, .int .i64 uk, .slice ua um uc] :: .slice aE L cE :: .string (strOfNums BL) :: .slice (some ⟨gB, 0, none⟩) L cB :: .string (strOfNums BL) :: .bool false :: .bool false :: .bool false :: _ :: _ :: _ :: _ :: _ :: _ :: _ :: _ :: _ :: _ :: _ :: _ :: _ :: _ :: _ :: _ :: _ :: _ :: _ :: _ :: _ :: _ :: _ :: _ :: _ :: _ :: _ :: _ :: _ :: _ :: _ :: _ :: _ :: _ :: []), defers := [] } _
      refine wpAnyH_done (by kernel_rfl) ?_ _
      replace HB := btrans HB Bq
      replace KT := blk_keep Bq KT
      replace RT := own_keep RT Bq
      replace RD := own_keep RD Bq
      clear KG RG RB2 RE cvE Bp Bd hbp hbq Rd1 Rd2
      have A1 := balloc wq (.cells #[.int .u8 126, .int .u8 126] 5)
      have E1 : (wq.alloc (.cells #[.int .u8 126, .int .u8 126] 5)).ownsRow wq.heap.size 5 1 (.slice (some ⟨wq.heap.size, 0, none⟩) 2 2) 2 (enc8 [126, 126]) := by
        have := World.ownsRow_lit (base := wq.heap.size) (e := 5) (size := 1) wq #[.int .u8 126, .int .u8 126] 2 (Nat.le_refl _) (by unfold maxLen; omega) rfl
        simpa [enc8] using this
      obtain ⟨vS, wS, hrunA, RS, hgS, -⟩ := app_by (xs := [126, 126]) (n := 2) rfl E1 (some ⟨gD, 0, none⟩) cD (Bys.own (own_keep RD A1) hL.out) (by rw [hL.out]; omega) A1.size
      rw [hL.out] at RS hrunA
      have hbS : Below wq.heap.size wq wS := A1.grown hgS A1.size (fun y hy => own_from E1 (Nat.le_refl _) y hy)
      obtain ⟨vU, wU, hrunB, RU, hgU, -⟩ := app_one 126 (by rw [List.length_append, hL.out]; rfl) RS (by omega) hbS.size
      have hbU := below_app hbS hbS.size RS hgU
      obtain ⟨gS, cS, rfl⟩ := row_some RS (by omega)
      obtain ⟨gU, cU, rfl⟩ := row_some RU (by omega)
      have hlU : (([126, 126] ++ DL) ++ [126]).length = 2 + L + 1 := by rw [List.length_append, List.length_append, hL.out]; rfl
      have hyU : By (([126, 126] ++ DL) ++ [126]) := ((By.cons (by omega) (by omega) (By.one (by omega) (by omega))).app hyD).app (By.one (by omega) (by omega))
      have hSV : scanV (([126, 126] ++ DL) ++ [126]) = ([⟨q, k, bd⟩], 0) := by
        unfold scanV
        rw [if_neg (by rw [hlU]; omega), ← hDL.out, List.append_assoc]
        show scV (126 :: 126 :: (encL ⟨q, k, bd⟩ ++ [126])) [] ([], 0) = _
        rw [scV, if_pos rfl, takeP_nil, scV, if_pos rfl, takeP_nil, scV_enc hok.out hyb, scV, if_pos rfl, takeP_nil, scV, takeP_nil]
        rfl
      have CS := (cScanI gU 0 cU _ wU (Bys.own RU hlU) hyU (by rw [hlU]; omega) (by have := own_cap RU; rw [hlU]; exact this)).mono fun e w' h => h.open hSV
      rw [hlU] at CS
      have hb := hbU
      replace HB := btrans HB hb
      replace KT := blk_keep hb KT
      replace RT := own_keep RT hb
      clear hb A1 E1 RS hgS hbS RU hgU hbU hlU hyU hSV RD
      go_wp2_with (first | (at_builtin; have h0 := hrunA; refine Go.Lib.wpList_append_run _ rfl _ _ _ _ rfl _ _ rfl rfl _ _ hrunA ?_; clear hrunA h0) | (at_builtin; refine Go.Lib.wpList_append_run _ rfl _ _ _ _ rfl _ _ rfl rfl _ _ hrunB ?_))
      refine CS.mono ?_
      rintro e wV ⟨vL, csL, rfl, TL, hb⟩
      replace HB := btrans HB hb
      replace KT := blk_keep hb KT
      replace RT := own_keep RT hb
      clear hb CS hrunB
      have hLo : wV.ownsRow wU.heap.size 25 3 vL 1 (flatC csL) := TL.own
      have hc1 : csL.length = 1 := TL.len
      obtain ⟨la, lc, rfl⟩ := own_form hLo
      obtain ⟨lb, rfl⟩ := tab_some hLo (by omega)
      obtain ⟨u1, u2, u3⟩ := TL.each 0 (by omega)
      obtain ⟨y0, y1, y2⟩ := flatC_get csL 0 (by omega)
      have hl3 := flatC_len csL
      have z0 := (hLo.cellAt (0 * 3) (by omega)).trans y0
      have z1 := (hLo.cellAt (0 * 3 + 1) (by omega)).trans y1
      have z2 := (hLo.cellAt (0 * 3 + 2) (by omega)).trans y2
      rw [u1] at z0
      rw [u2] at z1
      simp only [Nat.zero_mul, Nat.zero_add, List.getD_cons_zero] at z0 z1 z2 u3
      rw [hm.out] at u3
      obtain ⟨aL, pL, eL⟩ := own_form u3
      rw [eL] at z2 u3
      have RL := own_base u3 (Nat.zero_le _)
      clear u1 u2 u3 y0 y1 y2 hl3 hc1 eL TL hLo
      obtain ⟨⟨x0, x1, x2⟩, -⟩ := blk3 KT
      obtain ⟨tb, htb⟩ : ∃ tb, tb = w1.heap.size := ⟨_, rfl⟩
      rw [← htb] at x0 x1 x2
      have hCrc : Hid (crcV bd = crcV bd) := hide rfl
      have CI := fun W (h : Below wV.heap.size wV W) => crcI1 va vc m bd W (own_keep RT h) hm.out hyb (by omega)
      have CQ := fun W (h : Below wV.heap.size wV W) => crcS1 va vc m bd W (own_keep RT h) hm.out hyb (by omega)
      have CT := fun W (h : Below wV.heap.size wV W) => cSameT _ _ m m q k q k _ _ bd bd W hm.out hm.out (own_keep RL h) (own_keep RT h) hyb hyb
      generalize crcV bd = cr at *
      subst htb
      go_wp2_with fail
      refine wp_region_held_drew (S := (fun w' => w'.cell? ⟨lb, 0, none⟩ = some (.int .i64 q) ∧ w'.cell? ⟨lb, 1, none⟩ = some (.int .i64 k) ∧ w'.cell? ⟨lb, 2, none⟩ = some (.slice aL m pL) ∧ w'.cell? ⟨w1.heap.size, 0, none⟩ = some (.int .i64 q) ∧ w'.cell? ⟨w1.heap.size, 1, none⟩ = some (.int .i64 k) ∧ w'.cell? ⟨w1.heap.size, 2, none⟩ = some (.slice va m vc))) (by kernel_rfl) ?_ (fun hHeld => ?_)
      · exact ⟨z0, z1, z2, x0, x1, x2⟩
      have Bd : Below wV.heap.size wV wV.drew := (Below.refl _ _).drew
      have HB2 := HB.drew
      generalize wV.drew = wd at *
      refine wpAnyH_take (i := 0) (v := .slice (some ⟨lb, 0, none⟩) 1 lc) rfl (by kernel_rfl) (by kernel_rfl) (by kernel_rfl) (fun _ _ _ h => h) (Or.inl ⟨by kernel_rfl, fun w hS => by go_simp⟩) hHeld ?_
      change wpAnyH _ _ _ _ _ _ _ { tmps := List.toArray (_ :: _ :: _ :: _ :: _ :: _ :: _ :: _ :: _ :: _ :: _ :: _ :: _ :: _ :: _ :: _ :: _ :: _ :: _ :: _ :: _ :: _ :: _ :: _ :: _ :: _ :: _ :: _ :: _ :: _ :: _ :: _ :: _ :: _ :: _ :: _ :: _ :: _ :: _ :: _ :: _ :: _ :: _ :: _ :: _ :: _ :: _ :: _ :: _ :: _ :: _ :: _ :: _ :: _ :: _ :: _ :: _ :: _ :: _ :: _ :: _ :: _ :: _ :: _ :: _ :: _ :: _ :: _ :: _ :: _ :: _ :: _ :: _ :: _ :: _ :: _ :: _ :: _ :: _ :: _ :: _ :: _ :: _ :: _ :: _ :: _ :: _ :: _ :: _ :: _ :: _ :: _ :: _ :: _ :: _ :: _ :: _ :: _ :: _ :: _ :: _ :: _ :: _ :: _ :: _ :: _ :: _ :: _ :: _ :: .slice (some ⟨lb, 0, none⟩) 1 lc :: _ :: _ :: _ :: _ :: _ :: _ :: _ :: _ :: _ :: _ :: _ :: _ :: _ :: _ :: _ :: _ :: _ :: _ :: _ :: _ :: _ :: _ :: []), defers := [] } _
      refine wpAnyH_take (i := 1) (v := .int .i64 1) rfl (by kernel_rfl) (by kernel_rfl) (by kernel_rfl) (fun _ _ _ h => h) (Or.inl ⟨by kernel_rfl, fun w hS => by go_simp⟩) hHeld ?_
      change wpAnyH _ _ _ _ _ _ _ { tmps := List.toArray (_ :: _ :: _ :: _ :: _ :: _ :: _ :: _ :: _ :: _ :: _ :: _ :: _ :: _ :: _ :: _ :: _ :: _ :: _ :: _ :: _ :: _ :: _ :: _ :: _ :: _ :: _ :: _ :: _ :: _ :: _ :: _ :: _ :: _ :: _ :: _ :: _ :: _ :: _ :: _ :: _ :: _ :: _ :: _ :: _ :: _ :: _ :: _ :: _ :: _ :: _ :: _ :: _ :: _ :: _ :: _ :: _ :: _ :: _ :: _ :: _ :: _ :: _ :: _ :: _ :: _ :: _ :: _ :: _ :: _ :: _ :: _ :: _ :: _ :: _ :: _ :: _ :: _ :: _ :: _ :: _ :: _ :: _ :: _ :: _ :: _ :: _ :: _ :: _ :: _ :: _ :: _ :: _ :: _ :: _ :: _ :: _ :: _ :: _ :: _ :: _ :: _ :: _ :: _ :: _ :: _ :: _ :: _ :: _ :: .slice (some ⟨lb, 0, none⟩) 1 lc :: .int .i64 1 :: _ :: _ :: _ :: _ :: _ :: _ :: _ :: _ :: _ :: _ :: _ :: _ :: _ :: _ :: _ :: _ :: _ :: _ :: _ :: _ :: _ :: []), defers := [] } _
      refine wpAnyH_take (i := 2) (v := .bool true) rfl (by kernel_rfl) (by kernel_rfl) (by kernel_rfl) (fun _ _ _ h => h) (Or.inl ⟨by kernel_rfl, fun w hS => by go_simp⟩) hHeld ?_
      change wpAnyH _ _ _ _ _ _ _ { tmps := List.toArray (_ :: _ :: _ :: _ :: _ :: _ :: _ :: _ :: _ :: _ :: _ :: _ :: _ :: _ :: _ :: _ :: _ :: _ :: _ :: _ :: _ :: _ :: _ :: _ :: _ :: _ :: _ :: _ :: _ :: _ :: _ :: _ :: _ :: _ :: _ :: _ :: _ :: _ :: _ :: _ :: _ :: _ :: _ :: _ :: _ :: _ :: _ :: _ :: _ :: _ :: _ :: _ :: _ :: _ :: _ :: _ :: _ :: _ :: _ :: _ :: _ :: _ :: _ :: _ :: _ :: _ :: _ :: _ :: _ :: _ :: _ :: _ :: _ :: _ :: _ :: _ :: _ :: _ :: _ :: _ :: _ :: _ :: _ :: _ :: _ :: _ :: _ :: _ :: _ :: _ :: _ :: _ :: _ :: _ :: _ :: _ :: _ :: _ :: _ :: _ :: _ :: _ :: _ :: _ :: _ :: _ :: _ :: _ :: _ :: .slice (some ⟨lb, 0, none⟩) 1 lc :: .int .i64 1 :: .bool true :: _ :: _ :: _ :: _ :: _ :: _ :: _ :: _ :: _ :: _ :: _ :: _ :: _ :: _ :: _ :: _ :: _ :: _ :: _ :: _ :: []), defers := [] } _
      refine wpAnyH_take (i := 3) (v := .bool true) rfl (by kernel_rfl) (by kernel_rfl) (by kernel_rfl) (fun _ _ _ h => h) (Or.inl ⟨by kernel_rfl, fun w hS => by go_simp⟩) hHeld ?_
      change wpAnyH _ _ _ _ _ _ _ { tmps := List.toArray (_ :: _ :: _ :: _ :: _ :: _ :: _ :: _ :: _ :: _ :: _ :: _ :: _ :: _ :: _ :: _ :: _ :: _ :: _ :: _ :: _ :: _ :: _ :: _ :: _ :: _ :: _ :: _ :: _ :: _ :: _ :: _ :: _ :: _ :: _ :: _ :: _ :: _ :: _ :: _ :: _ :: _ :: _ :: _ :: _ :: _ :: _ :: _ :: _ :: _ :: _ :: _ :: _ :: _ :: _ :: _ :: _ :: _ :: _ :: _ :: _ :: _ :: _ :: _ :: _ :: _ :: _ :: _ :: _ :: _ :: _ :: _ :: _ :: _ :: _ :: _ :: _ :: _ :: _ :: _ :: _ :: _ :: _ :: _ :: _ :: _ :: _ :: _ :: _ :: _ :: _ :: _ :: _ :: _ :: _ :: _ :: _ :: _ :: _ :: _ :: _ :: _ :: _ :: _ :: _ :: _ :: _ :: _ :: _ :: .slice (some ⟨lb, 0, none⟩) 1 lc :: .int .i64 1 :: .bool true :: .bool true :: _ :: _ :: _ :: _ :: _ :: _ :: _ :: _ :: _ :: _ :: _ :: _ :: _ :: _ :: _ :: _ :: _ :: _ :: _ :: []), defers := [] } _
      refine wpAnyH_take (i := 4) (v := .int .i64 0) rfl (by kernel_rfl) (by kernel_rfl) (by kernel_rfl) (fun _ _ _ h => h) (Or.inl ⟨by kernel_rfl, fun w hS => by go_simp⟩) hHeld ?_
      change wpAnyH _ _ _ _ _ _ _ { tmps := List.toArray (_ :: _ :: _ :: _ :: _ :: _ :: _ :: _ :: _ :: _ :: _ :: _ :: _ :: _ :: _ :: _ :: _ :: _ :: _ :: _ :: _ :: _ :: _ :: _ :: _ :: _ :: _ :: _ :: _ :: _ :: _ :: _ :: _ :: _ :: _ :: _ :: _ :: _ :: _ :: _ :: _ :: _ :: _ :: _ :: _ :: _ :: _ :: _ :: _ :: _ :: _ :: _ :: _ :: _ :: _ :: _ :: _ :: _ :: _ :: _ :: _ :: _ :: _ :: _ :: _ :: _ :: _ :: _ :: _ :: _ :: _ :: _ :: _ :: _ :: _ :: _ :: _ :: _ :: _ :: _ :: _ :: _ :: _ :: _ :: _ :: _ :: _ :: _ :: _ :: _ :: _ :: _ :: _ :: _ :: _ :: _ :: _ :: _ :: _ :: _ :: _ :: _ :: _ :: _ :: _ :: _ :: _ :: _ :: _ :: .slice (some ⟨lb, 0, none⟩) 1 lc :: .int .i64 1 :: .bool true :: .bool true :: .int .i64 0 :: _ :: _ :: _ :: _ :: _ :: _ :: _ :: _ :: _ :: _ :: _ :: _ :: _ :: _ :: _ :: _ :: _ :: _ :: []), defers := [] } _
      refine wpAnyH_take (i := 5) (v := .bool true) rfl (by kernel_rfl) (by kernel_rfl) (by kernel_rfl) (fun _ _ _ h => h) (Or.inl ⟨by kernel_rfl, fun w hS => by go_simp⟩) hHeld ?_
      change wpAnyH _ _ _ _ _ _ _ { tmps := List.toArray (_ :: _ :: _ :: _ :: _ :: _ :: _ :: _ :: _ :: _ :: _ :: _ :: _ :: _ :: _ :: _ :: _ :: _ :: _ :: _ :: _ :: _ :: _ :: _ :: _ :: _ :: _ :: _ :: _ :: _ :: _ :: _ :: _ :: _ :: _ :: _ :: _ :: _ :: _ :: _ :: _ :: _ :: _ :: _ :: _ :: _ :: _ :: _ :: _ :: _ :: _ :: _ :: _ :: _ :: _ :: _ :: _ :: _ :: _ :: _ :: _ :: _ :: _ :: _ :: _ :: _ :: _ :: _ :: _ :: _ :: _ :: _ :: _ :: _ :: _ :: _ :: _ :: _ :: _ :: _ :: _ :: _ :: _ :: _ :: _ :: _ :: _ :: _ :: _ :: _ :: _ :: _ :: _ :: _ :: _ :: _ :: _ :: _ :: _ :: _ :: _ :: _ :: _ :: _ :: _ :: _ :: _ :: _ :: _ :: .slice (some ⟨lb, 0, none⟩) 1 lc :: .int .i64 1 :: .bool true :: .bool true :: .int .i64 0 :: .bool true :: _ :: _ :: _ :: _ :: _ :: _ :: _ :: _ :: _ :: _ :: _ :: _ :: _ :: _ :: _ :: _ :: _ :: []), defers := [] } _
      refine wpAnyH_take (i := 6) (v := .bool true) rfl (by kernel_rfl) (by kernel_rfl) (by kernel_rfl) (fun _ _ _ h => h) (Or.inl ⟨by kernel_rfl, fun w hS => by go_simp⟩) hHeld ?_
      change wpAnyH _ _ _ _ _ _ _ { tmps := List.toArray (_ :: _ :: _ :: _ :: _ :: _ :: _ :: _ :: _ :: _ :: _ :: _ :: _ :: _ :: _ :: _ :: _ :: _ :: _ :: _ :: _ :: _ :: _ :: _ :: _ :: _ :: _ :: _ :: _ :: _ :: _ :: _ :: _ :: _ :: _ :: _ :: _ :: _ :: _ :: _ :: _ :: _ :: _ :: _ :: _ :: _ :: _ :: _ :: _ :: _ :: _ :: _ :: _ :: _ :: _ :: _ :: _ :: _ :: _ :: _ :: _ :: _ :: _ :: _ :: _ :: _ :: _ :: _ :: _ :: _ :: _ :: _ :: _ :: _ :: _ :: _ :: _ :: _ :: _ :: _ :: _ :: _ :: _ :: _ :: _ :: _ :: _ :: _ :: _ :: _ :: _ :: _ :: _ :: _ :: _ :: _ :: _ :: _ :: _ :: _ :: _ :: _ :: _ :: _ :: _ :: _ :: _ :: _ :: _ :: .slice (some ⟨lb, 0, none⟩) 1 lc :: .int .i64 1 :: .bool true :: .bool true :: .int .i64 0 :: .bool true :: .bool true :: _ :: _ :: _ :: _ :: _ :: _ :: _ :: _ :: _ :: _ :: _ :: _ :: _ :: _ :: _ :: _ :: []), defers := [] } _
      refine wpAnyH_take (i := 7) (v := .bool true) rfl (by kernel_rfl) (by kernel_rfl) (by kernel_rfl) (fun _ _ _ h => h) (Or.inl ⟨by kernel_rfl, fun w hS => by go_simp⟩) hHeld ?_
      change wpAnyH _ _ _ _ _ _ _ { tmps := List.toArray (_ :: _ :: _ :: _ :: _ :: _ :: _ :: _ :: _ :: _ :: _ :: _ :: _ :: _ :: _ :: _ :: _ :: _ :: _ :: _ :: _ :: _ :: _ :: _ :: _ :: _ :: _ :: _ :: _ :: _ :: _ :: _ :: _ :: _ :: _ :: _ :: _ :: _ :: _ :: _ :: _ :: _ :: _ :: _ :: _ :: _ :: _ :: _ :: _ :: _ :: _ :: _ :: _ :: _ :: _ :: _ :: _ :: _ :: _ :: _ :: _ :: _ :: _ :: _ :: _ :: _ :: _ :: _ :: _ :: _ :: _ :: _ :: _ :: _ :: _ :: _ :: _ :: _ :: _ :: _ :: _ :: _ :: _ :: _ :: _ :: _ :: _ :: _ :: _ :: _ :: _ :: _ :: _ :: _ :: _ :: _ :: _ :: _ :: _ :: _ :: _ :: _ :: _ :: _ :: _ :: _ :: _ :: _ :: _ :: .slice (some ⟨lb, 0, none⟩) 1 lc :: .int .i64 1 :: .bool true :: .bool true :: .int .i64 0 :: .bool true :: .bool true :: .bool true :: _ :: _ :: _ :: _ :: _ :: _ :: _ :: _ :: _ :: _ :: _ :: _ :: _ :: _ :: _ :: []), defers := [] } _
      refine wpAnyH_take (i := 8) (v := .slice (some ⟨lb, 0, none⟩) 1 lc) rfl (by kernel_rfl) (by kernel_rfl) (by kernel_rfl) (fun _ _ _ h => h) (Or.inl ⟨by kernel_rfl, fun w hS => by go_simp⟩) hHeld ?_
      change wpAnyH _ _ _ _ _ _ _ { tmps := List.toArray (_ :: _ :: _ :: _ :: _ :: _ :: _ :: _ :: _ :: _ :: _ :: _ :: _ :: _ :: _ :: _ :: _ :: _ :: _ :: _ :: _ :: _ :: _ :: _ :: _ :: _ :: _ :: _ :: _ :: _ :: _ :: _ :: _ :: _ :: _ :: _ :: _ :: _ :: _ :: _ :: _ :: _ :: _ :: _ :: _ :: _ :: _ :: _ :: _ :: _ :: _ :: _ :: _ :: _ :: _ :: _ :: _ :: _ :: _ :: _ :: _ :: _ :: _ :: _ :: _ :: _ :: _ :: _ :: _ :: _ :: _ :: _ :: _ :: _ :: _ :: _ :: _ :: _ :: _ :: _ :: _ :: _ :: _ :: _ :: _ :: _ :: _ :: _ :: _ :: _ :: _ :: _ :: _ :: _ :: _ :: _ :: _ :: _ :: _ :: _ :: _ :: _ :: _ :: _ :: _ :: _ :: _ :: _ :: _ :: .slice (some ⟨lb, 0, none⟩) 1 lc :: .int .i64 1 :: .bool true :: .bool true :: .int .i64 0 :: .bool true :: .bool true :: .bool true :: .slice (some ⟨lb, 0, none⟩) 1 lc :: _ :: _ :: _ :: _ :: _ :: _ :: _ :: _ :: _ :: _ :: _ :: _ :: _ :: _ :: []), defers := [] } _
      refine wpAnyH_take (i := 9) (v := .pointer (some ⟨lb, 0, none⟩)) rfl (by kernel_rfl) (by kernel_rfl) (by kernel_rfl) (fun _ _ _ h => h) (Or.inl ⟨by kernel_rfl, fun w hS => by go_simp⟩) hHeld ?_
      change wpAnyH _ _ _ _ _ _ _ { tmps := List.toArray (_ :: _ :: _ :: _ :: _ :: _ :: _ :: _ :: _ :: _ :: _ :: _ :: _ :: _ :: _ :: _ :: _ :: _ :: _ :: _ :: _ :: _ :: _ :: _ :: _ :: _ :: _ :: _ :: _ :: _ :: _ :: _ :: _ :: _ :: _ :: _ :: _ :: _ :: _ :: _ :: _ :: _ :: _ :: _ :: _ :: _ :: _ :: _ :: _ :: _ :: _ :: _ :: _ :: _ :: _ :: _ :: _ :: _ :: _ :: _ :: _ :: _ :: _ :: _ :: _ :: _ :: _ :: _ :: _ :: _ :: _ :: _ :: _ :: _ :: _ :: _ :: _ :: _ :: _ :: _ :: _ :: _ :: _ :: _ :: _ :: _ :: _ :: _ :: _ :: _ :: _ :: _ :: _ :: _ :: _ :: _ :: _ :: _ :: _ :: _ :: _ :: _ :: _ :: _ :: _ :: _ :: _ :: _ :: _ :: .slice (some ⟨lb, 0, none⟩) 1 lc :: .int .i64 1 :: .bool true :: .bool true :: .int .i64 0 :: .bool true :: .bool true :: .bool true :: .slice (some ⟨lb, 0, none⟩) 1 lc :: .pointer (some ⟨lb, 0, none⟩) :: _ :: _ :: _ :: _ :: _ :: _ :: _ :: _ :: _ :: _ :: _ :: _ :: _ :: []), defers := [] } _
      refine wpAnyH_take (i := 10) (v := .agg #[.int .i64 q, .int .i64 k, .slice aL m pL]) rfl (by kernel_rfl) (by kernel_rfl) (by kernel_rfl) (fun _ _ _ h => h) (Or.inl ⟨by kernel_rfl, fun w hS => by (obtain ⟨hS0, hS1, hS2, hS3, hS4, hS5⟩ := hS; go_simp)⟩) hHeld ?_
      change wpAnyH _ _ _ _ _ _ _ { tmps := List.toArray (_ :: _ :: _ :: _ :: _ :: _ :: _ :: _ :: _ :: _ :: _ :: _ :: _ :: _ :: _ :: _ :: _ :: _ :: _ :: _ :: _ :: _ :: _ :: _ :: _ :: _ :: _ :: _ :: _ :: _ :: _ :: _ :: _ :: _ :: _ :: _ :: _ :: _ :: _ :: _ :: _ :: _ :: _ :: _ :: _ :: _ :: _ :: _ :: _ :: _ :: _ :: _ :: _ :: _ :: _ :: _ :: _ :: _ :: _ :: _ :: _ :: _ :: _ :: _ :: _ :: _ :: _ :: _ :: _ :: _ :: _ :: _ :: _ :: _ :: _ :: _ :: _ :: _ :: _ :: _ :: _ :: _ :: _ :: _ :: _ :: _ :: _ :: _ :: _ :: _ :: _ :: _ :: _ :: _ :: _ :: _ :: _ :: _ :: _ :: _ :: _ :: _ :: _ :: _ :: _ :: _ :: _ :: _ :: _ :: .slice (some ⟨lb, 0, none⟩) 1 lc :: .int .i64 1 :: .bool true :: .bool true :: .int .i64 0 :: .bool true :: .bool true :: .bool true :: .slice (some ⟨lb, 0, none⟩) 1 lc :: .pointer (some ⟨lb, 0, none⟩) :: .agg #[.int .i64 q, .int .i64 k, .slice aL m pL] :: _ :: _ :: _ :: _ :: _ :: _ :: _ :: _ :: _ :: _ :: _ :: _ :: []), defers := [] } _
      refine wpAnyH_take (i := 11) (v := .agg #[.int .i64 q, .int .i64 k, .slice va m vc]) rfl (by kernel_rfl) (by kernel_rfl) (by kernel_rfl) (fun _ _ _ h => h) (Or.inl ⟨by kernel_rfl, fun w hS => by (obtain ⟨hS0, hS1, hS2, hS3, hS4, hS5⟩ := hS; go_simp)⟩) hHeld ?_
      change wpAnyH _ _ _ _ _ _ _ { tmps := List.toArray (_ :: _ :: _ :: _ :: _ :: _ :: _ :: _ :: _ :: _ :: _ :: _ :: _ :: _ :: _ :: _ :: _ :: _ :: _ :: _ :: _ :: _ :: _ :: _ :: _ :: _ :: _ :: _ :: _ :: _ :: _ :: _ :: _ :: _ :: _ :: _ :: _ :: _ :: _ :: _ :: _ :: _ :: _ :: _ :: _ :: _ :: _ :: _ :: _ :: _ :: _ :: _ :: _ :: _ :: _ :: _ :: _ :: _ :: _ :: _ :: _ :: _ :: _ :: _ :: _ :: _ :: _ :: _ :: _ :: _ :: _ :: _ :: _ :: _ :: _ :: _ :: _ :: _ :: _ :: _ :: _ :: _ :: _ :: _ :: _ :: _ :: _ :: _ :: _ :: _ :: _ :: _ :: _ :: _ :: _ :: _ :: _ :: _ :: _ :: _ :: _ :: _ :: _ :: _ :: _ :: _ :: _ :: _ :: _ :: .slice (some ⟨lb, 0, none⟩) 1 lc :: .int .i64 1 :: .bool true :: .bool true :: .int .i64 0 :: .bool true :: .bool true :: .bool true :: .slice (some ⟨lb, 0, none⟩) 1 lc :: .pointer (some ⟨lb, 0, none⟩) :: .agg #[.int .i64 q, .int .i64 k, .slice aL m pL] :: .agg #[.int .i64 q, .int .i64 k, .slice va m vc] :: _ :: _ :: _ :: _ :: _ :: _ :: _ :: _ :: _ :: _ :: _ :: []), defers := [] } _
      refine wpAnyH_ready (rs := [12]) (by kernel_rfl) (by simp) ?_
      refine (AllReadyH.cons rfl (fun KK hK => ?_) AllReadyH.nil)
      go_simp
      refine (CT wd Bd).mono ?_
      rintro e wp ⟨rfl, hbp⟩
      rw [sameB_self]
      have Bp := btrans Bd hbp
      have HB3 := btrans HB2 hbp
      go_wp2_with fail
      clear hHeld
      refine hK.out _ _ (⟨ble Bp z0, ble Bp z1, ble Bp z2, ble Bp x0, ble Bp x1, ble Bp x2⟩) (fun hHeld => ?_)
      clear hK KK
      change wpAnyH _ _ _ _ _ _ _ { tmps := List.toArray (_ :: _ :: _ :: _ :: _ :: _ :: _ :: _ :: _ :: _ :: _ :: _ :: _ :: _ :: _ :: _ :: _ :: _ :: _ :: _ :: _ :: _ :: _ :: _ :: _ :: _ :: _ :: _ :: _ :: _ :: _ :: _ :: _ :: _ :: _ :: _ :: _ :: _ :: _ :: _ :: _ :: _ :: _ :: _ :: _ :: _ :: _ :: _ :: _ :: _ :: _ :: _ :: _ :: _ :: _ :: _ :: _ :: _ :: _ :: _ :: _ :: _ :: _ :: _ :: _ :: _ :: _ :: _ :: _ :: _ :: _ :: _ :: _ :: _ :: _ :: _ :: _ :: _ :: _ :: _ :: _ :: _ :: _ :: _ :: _ :: _ :: _ :: _ :: _ :: _ :: _ :: _ :: _ :: _ :: _ :: _ :: _ :: _ :: _ :: _ :: _ :: _ :: _ :: _ :: _ :: _ :: _ :: _ :: _ :: .slice (some ⟨lb, 0, none⟩) 1 lc :: .int .i64 1 :: .bool true :: .bool true :: .int .i64 0 :: .bool true :: .bool true :: .bool true :: .slice (some ⟨lb, 0, none⟩) 1 lc :: .pointer (some ⟨lb, 0, none⟩) :: .agg #[.int .i64 q, .int .i64 k, .slice aL m pL] :: .agg #[.int .i64 q, .int .i64 k, .slice va m vc] :: .bool true :: _ :: _ :: _ :: _ :: _ :: _ :: _ :: _ :: _ :: _ :: []), defers := [] } _
      refine wpAnyH_take (i := 13) (v := .bool true) rfl (by kernel_rfl) (by kernel_rfl) (by kernel_rfl) (fun _ _ _ h => h) (Or.inl ⟨by kernel_rfl, fun w hS => by go_simp⟩) hHeld ?_
      change wpAnyH _ _ _ _ _ _ _ { tmps := List.toArray (_ :: _ :: _ :: _ :: _ :: _ :: _ :: _ :: _ :: _ :: _ :: _ :: _ :: _ :: _ :: _ :: _ :: _ :: _ :: _ :: _ :: _ :: _ :: _ :: _ :: _ :: _ :: _ :: _ :: _ :: _ :: _ :: _ :: _ :: _ :: _ :: _ :: _ :: _ :: _ :: _ :: _ :: _ :: _ :: _ :: _ :: _ :: _ :: _ :: _ :: _ :: _ :: _ :: _ :: _ :: _ :: _ :: _ :: _ :: _ :: _ :: _ :: _ :: _ :: _ :: _ :: _ :: _ :: _ :: _ :: _ :: _ :: _ :: _ :: _ :: _ :: _ :: _ :: _ :: _ :: _ :: _ :: _ :: _ :: _ :: _ :: _ :: _ :: _ :: _ :: _ :: _ :: _ :: _ :: _ :: _ :: _ :: _ :: _ :: _ :: _ :: _ :: _ :: _ :: _ :: _ :: _ :: _ :: _ :: .slice (some ⟨lb, 0, none⟩) 1 lc :: .int .i64 1 :: .bool true :: .bool true :: .int .i64 0 :: .bool true :: .bool true :: .bool true :: .slice (some ⟨lb, 0, none⟩) 1 lc :: .pointer (some ⟨lb, 0, none⟩) :: .agg #[.int .i64 q, .int .i64 k, .slice aL m pL] :: .agg #[.int .i64 q, .int .i64 k, .slice va m vc] :: .bool true :: .bool true :: _ :: _ :: _ :: _ :: _ :: _ :: _ :: _ :: _ :: []), defers := [] } _
      refine wpAnyH_take (i := 14) (v := .bool true) rfl (by kernel_rfl) (by kernel_rfl) (by kernel_rfl) (fun _ _ _ h => h) (Or.inl ⟨by kernel_rfl, fun w hS => by go_simp⟩) hHeld ?_
      change wpAnyH _ _ _ _ _ _ _ { tmps := List.toArray (_ :: _ :: _ :: _ :: _ :: _ :: _ :: _ :: _ :: _ :: _ :: _ :: _ :: _ :: _ :: _ :: _ :: _ :: _ :: _ :: _ :: _ :: _ :: _ :: _ :: _ :: _ :: _ :: _ :: _ :: _ :: _ :: _ :: _ :: _ :: _ :: _ :: _ :: _ :: _ :: _ :: _ :: _ :: _ :: _ :: _ :: _ :: _ :: _ :: _ :: _ :: _ :: _ :: _ :: _ :: _ :: _ :: _ :: _ :: _ :: _ :: _ :: _ :: _ :: _ :: _ :: _ :: _ :: _ :: _ :: _ :: _ :: _ :: _ :: _ :: _ :: _ :: _ :: _ :: _ :: _ :: _ :: _ :: _ :: _ :: _ :: _ :: _ :: _ :: _ :: _ :: _ :: _ :: _ :: _ :: _ :: _ :: _ :: _ :: _ :: _ :: _ :: _ :: _ :: _ :: _ :: _ :: _ :: _ :: .slice (some ⟨lb, 0, none⟩) 1 lc :: .int .i64 1 :: .bool true :: .bool true :: .int .i64 0 :: .bool true :: .bool true :: .bool true :: .slice (some ⟨lb, 0, none⟩) 1 lc :: .pointer (some ⟨lb, 0, none⟩) :: .agg #[.int .i64 q, .int .i64 k, .slice aL m pL] :: .agg #[.int .i64 q, .int .i64 k, .slice va m vc] :: .bool true :: .bool true :: .bool true :: _ :: _ :: _ :: _ :: _ :: _ :: _ :: _ :: []), defers := [] } _
      refine wpAnyH_take (i := 15) (v := .pointer (some ⟨w1.heap.size, 2, none⟩)) rfl (by kernel_rfl) (by kernel_rfl) (by kernel_rfl) (fun _ _ _ h => h) (Or.inl ⟨by kernel_rfl, fun w hS => by go_simp⟩) hHeld ?_
      change wpAnyH _ _ _ _ _ _ _ { tmps := List.toArray (_ :: _ :: _ :: _ :: _ :: _ :: _ :: _ :: _ :: _ :: _ :: _ :: _ :: _ :: _ :: _ :: _ :: _ :: _ :: _ :: _ :: _ :: _ :: _ :: _ :: _ :: _ :: _ :: _ :: _ :: _ :: _ :: _ :: _ :: _ :: _ :: _ :: _ :: _ :: _ :: _ :: _ :: _ :: _ :: _ :: _ :: _ :: _ :: _ :: _ :: _ :: _ :: _ :: _ :: _ :: _ :: _ :: _ :: _ :: _ :: _ :: _ :: _ :: _ :: _ :: _ :: _ :: _ :: _ :: _ :: _ :: _ :: _ :: _ :: _ :: _ :: _ :: _ :: _ :: _ :: _ :: _ :: _ :: _ :: _ :: _ :: _ :: _ :: _ :: _ :: _ :: _ :: _ :: _ :: _ :: _ :: _ :: _ :: _ :: _ :: _ :: _ :: _ :: _ :: _ :: _ :: _ :: _ :: _ :: .slice (some ⟨lb, 0, none⟩) 1 lc :: .int .i64 1 :: .bool true :: .bool true :: .int .i64 0 :: .bool true :: .bool true :: .bool true :: .slice (some ⟨lb, 0, none⟩) 1 lc :: .pointer (some ⟨lb, 0, none⟩) :: .agg #[.int .i64 q, .int .i64 k, .slice aL m pL] :: .agg #[.int .i64 q, .int .i64 k, .slice va m vc] :: .bool true :: .bool true :: .bool true :: .pointer (some ⟨w1.heap.size, 2, none⟩) :: _ :: _ :: _ :: _ :: _ :: _ :: _ :: []), defers := [] } _
      refine wpAnyH_take (i := 16) (v := .slice va m vc) rfl (by kernel_rfl) (by kernel_rfl) (by kernel_rfl) (fun _ _ _ h => h) (Or.inl ⟨by kernel_rfl, fun w hS => by (obtain ⟨hS0, hS1, hS2, hS3, hS4, hS5⟩ := hS; go_simp)⟩) hHeld ?_
      change wpAnyH _ _ _ _ _ _ _ { tmps := List.toArray (_ :: _ :: _ :: _ :: _ :: _ :: _ :: _ :: _ :: _ :: _ :: _ :: _ :: _ :: _ :: _ :: _ :: _ :: _ :: _ :: _ :: _ :: _ :: _ :: _ :: _ :: _ :: _ :: _ :: _ :: _ :: _ :: _ :: _ :: _ :: _ :: _ :: _ :: _ :: _ :: _ :: _ :: _ :: _ :: _ :: _ :: _ :: _ :: _ :: _ :: _ :: _ :: _ :: _ :: _ :: _ :: _ :: _ :: _ :: _ :: _ :: _ :: _ :: _ :: _ :: _ :: _ :: _ :: _ :: _ :: _ :: _ :: _ :: _ :: _ :: _ :: _ :: _ :: _ :: _ :: _ :: _ :: _ :: _ :: _ :: _ :: _ :: _ :: _ :: _ :: _ :: _ :: _ :: _ :: _ :: _ :: _ :: _ :: _ :: _ :: _ :: _ :: _ :: _ :: _ :: _ :: _ :: _ :: _ :: .slice (some ⟨lb, 0, none⟩) 1 lc :: .int .i64 1 :: .bool true :: .bool true :: .int .i64 0 :: .bool true :: .bool true :: .bool true :: .slice (some ⟨lb, 0, none⟩) 1 lc :: .pointer (some ⟨lb, 0, none⟩) :: .agg #[.int .i64 q, .int .i64 k, .slice aL m pL] :: .agg #[.int .i64 q, .int .i64 k, .slice va m vc] :: .bool true :: .bool true :: .bool true :: .pointer (some ⟨w1.heap.size, 2, none⟩) :: .slice va m vc :: _ :: _ :: _ :: _ :: _ :: _ :: []), defers := [] } _
      refine wpAnyH_take (i := 18) (v := .pointer (some ⟨w1.heap.size, 2, none⟩)) rfl (by kernel_rfl) (by kernel_rfl) (by kernel_rfl) (fun _ _ _ h => h) (Or.inl ⟨by kernel_rfl, fun w hS => by go_simp⟩) hHeld ?_
      change wpAnyH _ _ _ _ _ _ _ { tmps := List.toArray (_ :: _ :: _ :: _ :: _ :: _ :: _ :: _ :: _ :: _ :: _ :: _ :: _ :: _ :: _ :: _ :: _ :: _ :: _ :: _ :: _ :: _ :: _ :: _ :: _ :: _ :: _ :: _ :: _ :: _ :: _ :: _ :: _ :: _ :: _ :: _ :: _ :: _ :: _ :: _ :: _ :: _ :: _ :: _ :: _ :: _ :: _ :: _ :: _ :: _ :: _ :: _ :: _ :: _ :: _ :: _ :: _ :: _ :: _ :: _ :: _ :: _ :: _ :: _ :: _ :: _ :: _ :: _ :: _ :: _ :: _ :: _ :: _ :: _ :: _ :: _ :: _ :: _ :: _ :: _ :: _ :: _ :: _ :: _ :: _ :: _ :: _ :: _ :: _ :: _ :: _ :: _ :: _ :: _ :: _ :: _ :: _ :: _ :: _ :: _ :: _ :: _ :: _ :: _ :: _ :: _ :: _ :: _ :: _ :: .slice (some ⟨lb, 0, none⟩) 1 lc :: .int .i64 1 :: .bool true :: .bool true :: .int .i64 0 :: .bool true :: .bool true :: .bool true :: .slice (some ⟨lb, 0, none⟩) 1 lc :: .pointer (some ⟨lb, 0, none⟩) :: .agg #[.int .i64 q, .int .i64 k, .slice aL m pL] :: .agg #[.int .i64 q, .int .i64 k, .slice va m vc] :: .bool true :: .bool true :: .bool true :: .pointer (some ⟨w1.heap.size, 2, none⟩) :: .slice va m vc :: _ :: .pointer (some ⟨w1.heap.size, 2, none⟩) :: _ :: _ :: _ :: _ :: []), defers := [] } _
      refine wpAnyH_take (i := 19) (v := .slice va m vc) rfl (by kernel_rfl) (by kernel_rfl) (by kernel_rfl) (fun _ _ _ h => h) (Or.inl ⟨by kernel_rfl, fun w hS => by (obtain ⟨hS0, hS1, hS2, hS3, hS4, hS5⟩ := hS; go_simp)⟩) hHeld ?_
      change wpAnyH _ _ _ _ _ _ _ { tmps := List.toArray (_ :: _ :: _ :: _ :: _ :: _ :: _ :: _ :: _ :: _ :: _ :: _ :: _ :: _ :: _ :: _ :: _ :: _ :: _ :: _ :: _ :: _ :: _ :: _ :: _ :: _ :: _ :: _ :: _ :: _ :: _ :: _ :: _ :: _ :: _ :: _ :: _ :: _ :: _ :: _ :: _ :: _ :: _ :: _ :: _ :: _ :: _ :: _ :: _ :: _ :: _ :: _ :: _ :: _ :: _ :: _ :: _ :: _ :: _ :: _ :: _ :: _ :: _ :: _ :: _ :: _ :: _ :: _ :: _ :: _ :: _ :: _ :: _ :: _ :: _ :: _ :: _ :: _ :: _ :: _ :: _ :: _ :: _ :: _ :: _ :: _ :: _ :: _ :: _ :: _ :: _ :: _ :: _ :: _ :: _ :: _ :: _ :: _ :: _ :: _ :: _ :: _ :: _ :: _ :: _ :: _ :: _ :: _ :: _ :: .slice (some ⟨lb, 0, none⟩) 1 lc :: .int .i64 1 :: .bool true :: .bool true :: .int .i64 0 :: .bool true :: .bool true :: .bool true :: .slice (some ⟨lb, 0, none⟩) 1 lc :: .pointer (some ⟨lb, 0, none⟩) :: .agg #[.int .i64 q, .int .i64 k, .slice aL m pL] :: .agg #[.int .i64 q, .int .i64 k, .slice va m vc] :: .bool true :: .bool true :: .bool true :: .pointer (some ⟨w1.heap.size, 2, none⟩) :: .slice va m vc :: _ :: .pointer (some ⟨w1.heap.size, 2, none⟩) :: .slice va m vc :: _ :: _ :: _ :: []), defers := [] } _
      refine wpAnyH_ready (rs := [17]) (by kernel_rfl) (by simp) ?_
      refine (AllReadyH.cons rfl (fun KK hK => ?_) AllReadyH.nil)
      go_simp
      refine (CI wp Bp).mono ?_
      rintro e wq8 ⟨rfl, hq⟩
      subst wq8
      go_wp2_with fail
      clear hHeld
      refine hK.out _ _ (⟨ble Bp z0, ble Bp z1, ble Bp z2, ble Bp x0, ble Bp x1, ble Bp x2⟩) (fun hHeld => ?_)
      clear hK KK
      change wpAnyH _ _ _ _ _ _ _ { tmps := List.toArray (_ :: _ :: _ :: _ :: _ :: _ :: _ :: _ :: _ :: _ :: _ :: _ :: _ :: _ :: _ :: _ :: _ :: _ :: _ :: _ :: _ :: _ :: _ :: _ :: _ :: _ :: _ :: _ :: _ :: _ :: _ :: _ :: _ :: _ :: _ :: _ :: _ :: _ :: _ :: _ :: _ :: _ :: _ :: _ :: _ :: _ :: _ :: _ :: _ :: _ :: _ :: _ :: _ :: _ :: _ :: _ :: _ :: _ :: _ :: _ :: _ :: _ :: _ :: _ :: _ :: _ :: _ :: _ :: _ :: _ :: _ :: _ :: _ :: _ :: _ :: _ :: _ :: _ :: _ :: _ :: _ :: _ :: _ :: _ :: _ :: _ :: _ :: _ :: _ :: _ :: _ :: _ :: _ :: _ :: _ :: _ :: _ :: _ :: _ :: _ :: _ :: _ :: _ :: _ :: _ :: _ :: _ :: _ :: _ :: .slice (some ⟨lb, 0, none⟩) 1 lc :: .int .i64 1 :: .bool true :: .bool true :: .int .i64 0 :: .bool true :: .bool true :: .bool true :: .slice (some ⟨lb, 0, none⟩) 1 lc :: .pointer (some ⟨lb, 0, none⟩) :: .agg #[.int .i64 q, .int .i64 k, .slice aL m pL] :: .agg #[.int .i64 q, .int .i64 k, .slice va m vc] :: .bool true :: .bool true :: .bool true :: .pointer (some ⟨w1.heap.size, 2, none⟩) :: .slice va m vc :: .int .i64 cr :: .pointer (some ⟨w1.heap.size, 2, none⟩) :: .slice va m vc :: _ :: _ :: _ :: []), defers := [] } _
      refine wpAnyH_ready (rs := [20]) (by kernel_rfl) (by simp) ?_
      refine (AllReadyH.cons rfl (fun KK hK => ?_) AllReadyH.nil)
      go_simp
      refine (CQ wp Bp).mono ?_
      rintro e wq9 ⟨rfl, hq⟩
      subst wq9
      go_wp2_with fail
      clear hHeld
      refine hK.out _ _ (⟨ble Bp z0, ble Bp z1, ble Bp z2, ble Bp x0, ble Bp x1, ble Bp x2⟩) (fun hHeld => ?_)
      clear hK KK
      change wpAnyH _ _ _ _ _ _ _ { tmps := List.toArray (_ :: _ :: _ :: _ :: _ :: _ :: _ :: _ :: _ :: _ :: _ :: _ :: _ :: _ :: _ :: _ :: _ :: _ :: _ :: _ :: _ :: _ :: _ :: _ :: _ :: _ :: _ :: _ :: _ :: _ :: _ :: _ :: _ :: _ :: _ :: _ :: _ :: _ :: _ :: _ :: _ :: _ :: _ :: _ :: _ :: _ :: _ :: _ :: _ :: _ :: _ :: _ :: _ :: _ :: _ :: _ :: _ :: _ :: _ :: _ :: _ :: _ :: _ :: _ :: _ :: _ :: _ :: _ :: _ :: _ :: _ :: _ :: _ :: _ :: _ :: _ :: _ :: _ :: _ :: _ :: _ :: _ :: _ :: _ :: _ :: _ :: _ :: _ :: _ :: _ :: _ :: _ :: _ :: _ :: _ :: _ :: _ :: _ :: _ :: _ :: _ :: _ :: _ :: _ :: _ :: _ :: _ :: _ :: _ :: .slice (some ⟨lb, 0, none⟩) 1 lc :: .int .i64 1 :: .bool true :: .bool true :: .int .i64 0 :: .bool true :: .bool true :: .bool true :: .slice (some ⟨lb, 0, none⟩) 1 lc :: .pointer (some ⟨lb, 0, none⟩) :: .agg #[.int .i64 q, .int .i64 k, .slice aL m pL] :: .agg #[.int .i64 q, .int .i64 k, .slice va m vc] :: .bool true :: .bool true :: .bool true :: .pointer (some ⟨w1.heap.size, 2, none⟩) :: .slice va m vc :: .int .i64 cr :: .pointer (some ⟨w1.heap.size, 2, none⟩) :: .slice va m vc :: .int .i64 cr :: _ :: _ :: []), defers := [] } _
      refine wpAnyH_take (i := 21) (v := .bool true) rfl (by kernel_rfl) (by kernel_rfl) (by kernel_rfl) (fun _ _ _ h => h) (Or.inl ⟨by kernel_rfl, fun w hS => by go_simp⟩) hHeld ?_
      change wpAnyH _ _ _ _ _ _ _ { tmps := List.toArray (_ :: _ :: _ :: _ :: _ :: _ :: _ :: _ :: _ :: _ :: _ :: _ :: _ :: _ :: _ :: _ :: _ :: _ :: _ :: _ :: _ :: _ :: _ :: _ :: _ :: _ :: _ :: _ :: _ :: _ :: _ :: _ :: _ :: _ :: _ :: _ :: _ :: _ :: _ :: _ :: _ :: _ :: _ :: _ :: _ :: _ :: _ :: _ :: _ :: _ :: _ :: _ :: _ :: _ :: _ :: _ :: _ :: _ :: _ :: _ :: _ :: _ :: _ :: _ :: _ :: _ :: _ :: _ :: _ :: _ :: _ :: _ :: _ :: _ :: _ :: _ :: _ :: _ :: _ :: _ :: _ :: _ :: _ :: _ :: _ :: _ :: _ :: _ :: _ :: _ :: _ :: _ :: _ :: _ :: _ :: _ :: _ :: _ :: _ :: _ :: _ :: _ :: _ :: _ :: _ :: _ :: _ :: _ :: _ :: .slice (some ⟨lb, 0, none⟩) 1 lc :: .int .i64 1 :: .bool true :: .bool true :: .int .i64 0 :: .bool true :: .bool true :: .bool true :: .slice (some ⟨lb, 0, none⟩) 1 lc :: .pointer (some ⟨lb, 0, none⟩) :: .agg #[.int .i64 q, .int .i64 k, .slice aL m pL] :: .agg #[.int .i64 q, .int .i64 k, .slice va m vc] :: .bool true :: .bool true :: .bool true :: .pointer (some ⟨w1.heap.size, 2, none⟩) :: .slice va m vc :: .int .i64 cr :: .pointer (some ⟨w1.heap.size, 2, none⟩) :: .slice va m vc :: .int .i64 cr :: .bool true :: _ :: []), defers := [] } _
      refine wpAnyH_take (i := 22) (v := .bool true) rfl (by kernel_rfl) (by kernel_rfl) (by kernel_rfl) (fun _ _ _ h => h) (Or.inl ⟨by kernel_rfl, fun w hS => by go_simp⟩) hHeld ?_
      change wpAnyH _ _ _ _ _ _ _ { tmps := List.toArray (_ :: _ :: _ :: _ :: _ :: _ :: _ :: _ :: _ :: _ :: _ :: _ :: _ :: _ :: _ :: _ :: _ :: _ :: _ :: _ :: _ :: _ :: _ :: _ :: _ :: _ :: _ :: _ :: _ :: _ :: _ :: _ :: _ :: _ :: _ :: _ :: _ :: _ :: _ :: _ :: _ :: _ :: _ :: _ :: _ :: _ :: _ :: _ :: _ :: _ :: _ :: _ :: _ :: _ :: _ :: _ :: _ :: _ :: _ :: _ :: _ :: _ :: _ :: _ :: _ :: _ :: _ :: _ :: _ :: _ :: _ :: _ :: _ :: _ :: _ :: _ :: _ :: _ :: _ :: _ :: _ :: _ :: _ :: _ :: _ :: _ :: _ :: _ :: _ :: _ :: _ :: _ :: _ :: _ :: _ :: _ :: _ :: _ :: _ :: _ :: _ :: _ :: _ :: _ :: _ :: _ :: _ :: _ :: _ :: .slice (some ⟨lb, 0, none⟩) 1 lc :: .int .i64 1 :: .bool true :: .bool true :: .int .i64 0 :: .bool true :: .bool true :: .bool true :: .slice (some ⟨lb, 0, none⟩) 1 lc :: .pointer (some ⟨lb, 0, none⟩) :: .agg #[.int .i64 q, .int .i64 k, .slice aL m pL] :: .agg #[.int .i64 q, .int .i64 k, .slice va m vc] :: .bool true :: .bool true :: .bool true :: .pointer (some ⟨w1.heap.size, 2, none⟩) :: .slice va m vc :: .int .i64 cr :: .pointer (some ⟨w1.heap.size, 2, none⟩) :: .slice va m vc :: .int .i64 cr :: .bool true :: .bool true :: []), defers := [] } _
      refine wpAnyH_take (i := 23) (v := .bool true) rfl (by kernel_rfl) (by kernel_rfl) (by kernel_rfl) (fun _ _ _ h => h) (Or.inl ⟨by kernel_rfl, fun w hS => by go_simp⟩) hHeld ?_
      change wpAnyH _ _ _ _ _ _ _ { tmps := List.toArray (_ :: _ :: .bool true :: _ :: _ :: _ :: _ :: _ :: _ :: _ :: _ :: _ :: _ :: _ :: _ :: _ :: _ :: _ :: _ :: _ :: _ :: _ :: _ :: _ :: _ :: _ :: _ :: _ :: _ :: _ :: _ :: _ :: _ :: _ :: _ :: _ :: _ :: _ :: _ :: _ :: _ :: _ :: _ :: _ :: _ :: _ :: _ :: _ :: _ :: _ :: _ :: _ :: _ :: _ :: _ :: _ :: _ :: _ :: _ :: _ :: _ :: _ :: _ :: _ :: _ :: _ :: _ :: _ :: _ :: _ :: _ :: _ :: _ :: _ :: _ :: _ :: _ :: _ :: _ :: _ :: _ :: _ :: _ :: _ :: _ :: _ :: _ :: _ :: _ :: _ :: _ :: _ :: _ :: _ :: _ :: _ :: _ :: _ :: _ :: _ :: _ :: _ :: _ :: _ :: _ :: _ :: _ :: _ :: _ :: .slice (some ⟨lb, 0, none⟩) 1 lc :: .int .i64 1 :: .bool true :: .bool true :: .int .i64 0 :: .bool true :: .bool true :: .bool true :: .slice (some ⟨lb, 0, none⟩) 1 lc :: .pointer (some ⟨lb, 0, none⟩) :: .agg #[.int .i64 q, .int .i64 k, .slice aL m pL] :: .agg #[.int .i64 q, .int .i64 k, .slice va m vc] :: .bool true :: .bool true :: .bool true :: .pointer (some ⟨w1.heap.size, 2, none⟩) :: .slice va m vc :: .int .i64 cr :: .pointer (some ⟨w1.heap.size, 2, none⟩) :: .slice va m vc :: .int .i64 cr :: .bool true :: .bool true :: []), defers := [] } _
      refine wpAnyH_done (by kernel_rfl) ?_ _
      go_wp2
      go_ret
      exact ⟨rfl, HB3⟩
    · have hb2 := balloc w9 (.cells #[.int .i64 0, .int .i64 0, .slice none 0 0] 25)
      replace HB := btrans HB hb2
      replace KT := blk_keep hb2 KT
      replace KG := blk_keep hb2 KG
      replace RT := own_keep RT hb2
      replace RG := own_keep RG hb2
      replace RD := own_keep RD hb2
      replace RB2 := own_keep RB2 hb2
      replace hdu := hide hdu
      clear hb hb2
      go_wp2_with fail
      generalize w9.alloc (.cells #[.int .i64 0, .int .i64 0, .slice none 0 0] 25) = wo at *
      refine wp_region_held_drew (S := (fun _ => True)) (by kernel_rfl) ?_ (fun hHeld => ?_)
      · trivial
      have Bd : Below wo.heap.size wo wo.drew := (Below.refl _ _).drew
      replace HB := btrans HB Bd
      replace KT := blk_keep Bd KT
      replace RT := own_keep RT Bd
      replace RD := own_keep RD Bd
      clear KG RG RB2 Bd
      generalize wo.drew = wz at *
      refine wpAnyH_take (i := 0) (v := .bool false) rfl (by kernel_rfl) (by kernel_rfl) (by kernel_rfl) (fun _ _ _ h => h) (Or.inl ⟨by kernel_rfl, fun w hS => by go_simp⟩) hHeld ?_
      change wpAnyH _ _ _ _ _ _ _ { tmps := List.toArray (_ :: _ :: _ :: _ :: _ :: _ :: _ :: _ :: _ :: _ :: _ :: _ :: _ :: _ :: _ :: _ :: _ :: _ :: _ :: _ :: _ :: _ :: _ :: _ :: _ :: _ :: _ :: _ :: _ :: _ :: _ :: _ :: _ :: _ :: _ :: _ :: _ :: _ :: _ :: _ :: _ :: _ :: _ :: _ :: _ :: _ :: _ :: _ :: _ :: _ :: _ :: _ :: _ :: _ :: _ :: _ :: _ :: _ :: _ :: _ :: _ :: _ :: _ :: _ :: _ :: _ :: _ :: _ :: _ :: _ :: _ :: _ :: _ :: _ :: _ :: _ :: _ :: _ :: _ :: _ :: _ :: _ :: _ :: _ :: .bool false :: _ :: _ :: _ :: _ :: _ :: _ :: _ :: _ :: _ :: _ :: _ :: _ :: _ :: _ :: _ :: _ :: _ :: _ :: _ :: _ :: _ :: _ :: _ :: _ :: _ :: _ :: _ :: _ :: _ :: _ :: _ :: _ :: _ :: _ :: _ :: _ :: _ :: _ :: _ :: _ :: _ :: _ :: _ :: _ :: _ :: _ :: _ :: []), defers := [] } _
      refine wpAnyH_take (i := 1) (v := .bool false) rfl (by kernel_rfl) (by kernel_rfl) (by kernel_rfl) (fun _ _ _ h => h) (Or.inl ⟨by kernel_rfl, fun w hS => by go_simp⟩) hHeld ?_
      change wpAnyH _ _ _ _ _ _ _ { tmps := List.toArray (_ :: _ :: _ :: _ :: _ :: _ :: _ :: _ :: _ :: _ :: _ :: _ :: _ :: _ :: _ :: _ :: _ :: _ :: _ :: _ :: _ :: _ :: _ :: _ :: _ :: _ :: _ :: _ :: _ :: _ :: _ :: _ :: _ :: _ :: _ :: _ :: _ :: _ :: _ :: _ :: _ :: _ :: _ :: _ :: _ :: _ :: _ :: _ :: _ :: _ :: _ :: _ :: _ :: _ :: _ :: _ :: _ :: _ :: _ :: _ :: _ :: _ :: _ :: _ :: _ :: _ :: _ :: _ :: _ :: _ :: _ :: _ :: _ :: _ :: _ :: _ :: _ :: _ :: _ :: _ :: _ :: _ :: _ :: _ :: .bool false :: .bool false :: _ :: _ :: _ :: _ :: _ :: _ :: _ :: _ :: _ :: _ :: _ :: _ :: _ :: _ :: _ :: _ :: _ :: _ :: _ :: _ :: _ :: _ :: _ :: _ :: _ :: _ :: _ :: _ :: _ :: _ :: _ :: _ :: _ :: _ :: _ :: _ :: _ :: _ :: _ :: _ :: _ :: _ :: _ :: _ :: _ :: _ :: []), defers := [] } _
      refine wpAnyH_take (i := 2) (v := undef) rfl (by kernel_rfl) (by kernel_rfl) (by kernel_rfl) (fun _ _ _ h => h) (Or.inr ⟨by kernel_rfl, rfl⟩) hHeld ?_
      change wpAnyH _ _ _ _ _ _ _ { tmps := List.toArray (_ :: _ :: _ :: _ :: _ :: _ :: _ :: _ :: _ :: _ :: _ :: _ :: _ :: _ :: _ :: _ :: _ :: _ :: _ :: _ :: _ :: _ :: _ :: _ :: _ :: _ :: _ :: _ :: _ :: _ :: _ :: _ :: _ :: _ :: _ :: _ :: _ :: _ :: _ :: _ :: _ :: _ :: _ :: _ :: _ :: _ :: _ :: _ :: _ :: _ :: _ :: _ :: _ :: _ :: _ :: _ :: _ :: _ :: _ :: _ :: _ :: _ :: _ :: _ :: _ :: _ :: _ :: _ :: _ :: _ :: _ :: _ :: _ :: _ :: _ :: _ :: _ :: _ :: _ :: _ :: _ :: _ :: _ :: _ :: .bool false :: .bool false :: undef :: _ :: _ :: _ :: _ :: _ :: _ :: _ :: _ :: _ :: _ :: _ :: _ :: _ :: _ :: _ :: _ :: _ :: _ :: _ :: _ :: _ :: _ :: _ :: _ :: _ :: _ :: _ :: _ :: _ :: _ :: _ :: _ :: _ :: _ :: _ :: _ :: _ :: _ :: _ :: _ :: _ :: _ :: _ :: _ :: _ :: []), defers := [] } _
      refine wpAnyH_take (i := 3) (v := undef) rfl (by kernel_rfl) (by kernel_rfl) (by kernel_rfl) (fun _ _ _ h => h) (Or.inr ⟨by kernel_rfl, rfl⟩) hHeld ?_
      change wpAnyH _ _ _ _ _ _ _ { tmps := List.toArray (_ :: _ :: _ :: _ :: _ :: _ :: _ :: _ :: _ :: _ :: _ :: _ :: _ :: _ :: _ :: _ :: _ :: _ :: _ :: _ :: _ :: _ :: _ :: _ :: _ :: _ :: _ :: _ :: _ :: _ :: _ :: _ :: _ :: _ :: _ :: _ :: _ :: _ :: _ :: _ :: _ :: _ :: _ :: _ :: _ :: _ :: _ :: _ :: _ :: _ :: _ :: _ :: _ :: _ :: _ :: _ :: _ :: _ :: _ :: _ :: _ :: _ :: _ :: _ :: _ :: _ :: _ :: _ :: _ :: _ :: _ :: _ :: _ :: _ :: _ :: _ :: _ :: _ :: _ :: _ :: _ :: _ :: _ :: _ :: .bool false :: .bool false :: undef :: undef :: _ :: _ :: _ :: _ :: _ :: _ :: _ :: _ :: _ :: _ :: _ :: _ :: _ :: _ :: _ :: _ :: _ :: _ :: _ :: _ :: _ :: _ :: _ :: _ :: _ :: _ :: _ :: _ :: _ :: _ :: _ :: _ :: _ :: _ :: _ :: _ :: _ :: _ :: _ :: _ :: _ :: _ :: _ :: _ :: []), defers := [] } _
      refine wpAnyH_take (i := 4) (v := undef) rfl (by kernel_rfl) (by kernel_rfl) (by kernel_rfl) (fun _ _ _ h => h) (Or.inr ⟨by kernel_rfl, rfl⟩) hHeld ?_
      change wpAnyH _ _ _ _ _ _ _ { tmps := List.toArray (_ :: _ :: _ :: _ :: _ :: _ :: _ :: _ :: _ :: _ :: _ :: _ :: _ :: _ :: _ :: _ :: _ :: _ :: _ :: _ :: _ :: _ :: _ :: _ :: _ :: _ :: _ :: _ :: _ :: _ :: _ :: _ :: _ :: _ :: _ :: _ :: _ :: _ :: _ :: _ :: _ :: _ :: _ :: _ :: _ :: _ :: _ :: _ :: _ :: _ :: _ :: _ :: _ :: _ :: _ :: _ :: _ :: _ :: _ :: _ :: _ :: _ :: _ :: _ :: _ :: _ :: _ :: _ :: _ :: _ :: _ :: _ :: _ :: _ :: _ :: _ :: _ :: _ :: _ :: _ :: _ :: _ :: _ :: _ :: .bool false :: .bool false :: undef :: undef :: undef :: _ :: _ :: _ :: _ :: _ :: _ :: _ :: _ :: _ :: _ :: _ :: _ :: _ :: _ :: _ :: _ :: _ :: _ :: _ :: _ :: _ :: _ :: _ :: _ :: _ :: _ :: _ :: _ :: _ :: _ :: _ :: _ :: _ :: _ :: _ :: _ :: _ :: _ :: _ :: _ :: _ :: _ :: _ :: []), defers := [] } _
      refine wpAnyH_take (i := 5) (v := undef) rfl (by kernel_rfl) (by kernel_rfl) (by kernel_rfl) (fun _ _ _ h => h) (Or.inr ⟨by kernel_rfl, rfl⟩) hHeld ?_
      change wpAnyH _ _ _ _ _ _ _ { tmps := List.toArray (_ :: _ :: _ :: _ :: _ :: _ :: _ :: _ :: _ :: _ :: _ :: _ :: _ :: _ :: _ :: _ :: _ :: _ :: _ :: _ :: _ :: _ :: _ :: _ :: _ :: _ :: _ :: _ :: _ :: _ :: _ :: _ :: _ :: _ :: _ :: _ :: _ :: _ :: _ :: _ :: _ :: _ :: _ :: _ :: _ :: _ :: _ :: _ :: _ :: _ :: _ :: _ :: _ :: _ :: _ :: _ :: _ :: _ :: _ :: _ :: _ :: _ :: _ :: _ :: _ :: _ :: _ :: _ :: _ :: _ :: _ :: _ :: _ :: _ :: _ :: _ :: _ :: _ :: _ :: _ :: _ :: _ :: _ :: _ :: .bool false :: .bool false :: undef :: undef :: undef :: undef :: _ :: _ :: _ :: _ :: _ :: _ :: _ :: _ :: _ :: _ :: _ :: _ :: _ :: _ :: _ :: _ :: _ :: _ :: _ :: _ :: _ :: _ :: _ :: _ :: _ :: _ :: _ :: _ :: _ :: _ :: _ :: _ :: _ :: _ :: _ :: _ :: _ :: _ :: _ :: _ :: _ :: _ :: []), defers := [] } _
      refine wpAnyH_take (i := 6) (v := undef) rfl (by kernel_rfl) (by kernel_rfl) (by kernel_rfl) (fun _ _ _ h => h) (Or.inr ⟨by kernel_rfl, rfl⟩) hHeld ?_
      change wpAnyH _ _ _ _ _ _ _ { tmps := List.toArray (_ :: _ :: _ :: _ :: _ :: _ :: _ :: _ :: _ :: _ :: _ :: _ :: _ :: _ :: _ :: _ :: _ :: _ :: _ :: _ :: _ :: _ :: _ :: _ :: _ :: _ :: _ :: _ :: _ :: _ :: _ :: _ :: _ :: _ :: _ :: _ :: _ :: _ :: _ :: _ :: _ :: _ :: _ :: _ :: _ :: _ :: _ :: _ :: _ :: _ :: _ :: _ :: _ :: _ :: _ :: _ :: _ :: _ :: _ :: _ :: _ :: _ :: _ :: _ :: _ :: _ :: _ :: _ :: _ :: _ :: _ :: _ :: _ :: _ :: _ :: _ :: _ :: _ :: _ :: _ :: _ :: _ :: _ :: _ :: .bool false :: .bool false :: undef :: undef :: undef :: undef :: undef :: _ :: _ :: _ :: _ :: _ :: _ :: _ :: _ :: _ :: _ :: _ :: _ :: _ :: _ :: _ :: _ :: _ :: _ :: _ :: _ :: _ :: _ :: _ :: _ :: _ :: _ :: _ :: _ :: _ :: _ :: _ :: _ :: _ :: _ :: _ :: _ :: _ :: _ :: _ :: _ :: _ :: []), defers := [] } _
      refine wpAnyH_take (i := 7) (v := undef) rfl (by kernel_rfl) (by kernel_rfl) (by kernel_rfl) (fun _ _ _ h => h) (Or.inr ⟨by kernel_rfl, rfl⟩) hHeld ?_
      change wpAnyH _ _ _ _ _ _ _ { tmps := List.toArray (_ :: _ :: _ :: _ :: _ :: _ :: _ :: _ :: _ :: _ :: _ :: _ :: _ :: _ :: _ :: _ :: _ :: _ :: _ :: _ :: _ :: _ :: _ :: _ :: _ :: _ :: _ :: _ :: _ :: _ :: _ :: _ :: _ :: _ :: _ :: _ :: _ :: _ :: _ :: _ :: _ :: _ :: _ :: _ :: _ :: _ :: _ :: _ :: _ :: _ :: _ :: _ :: _ :: _ :: _ :: _ :: _ :: _ :: _ :: _ :: _ :: _ :: _ :: _ :: _ :: _ :: _ :: _ :: _ :: _ :: _ :: _ :: _ :: _ :: _ :: _ :: _ :: _ :: _ :: _ :: _ :: _ :: _ :: _ :: .bool false :: .bool false :: undef :: undef :: undef :: undef :: undef :: undef :: _ :: _ :: _ :: _ :: _ :: _ :: _ :: _ :: _ :: _ :: _ :: _ :: _ :: _ :: _ :: _ :: _ :: _ :: _ :: _ :: _ :: _ :: _ :: _ :: _ :: _ :: _ :: _ :: _ :: _ :: _ :: _ :: _ :: _ :: _ :: _ :: _ :: _ :: _ :: _ :: []), defers := [] } _
      refine wpAnyH_take (i := 8) (v := undef) rfl (by kernel_rfl) (by kernel_rfl) (by kernel_rfl) (fun _ _ _ h => h) (Or.inr ⟨by kernel_rfl, rfl⟩) hHeld ?_
      change wpAnyH _ _ _ _ _ _ _ { tmps := List.toArray (_ :: _ :: _ :: _ :: _ :: _ :: _ :: _ :: _ :: _ :: _ :: _ :: _ :: _ :: _ :: _ :: _ :: _ :: _ :: _ :: _ :: _ :: _ :: _ :: _ :: _ :: _ :: _ :: _ :: _ :: _ :: _ :: _ :: _ :: _ :: _ :: _ :: _ :: _ :: _ :: _ :: _ :: _ :: _ :: _ :: _ :: _ :: _ :: _ :: _ :: _ :: _ :: _ :: _ :: _ :: _ :: _ :: _ :: _ :: _ :: _ :: _ :: _ :: _ :: _ :: _ :: _ :: _ :: _ :: _ :: _ :: _ :: _ :: _ :: _ :: _ :: _ :: _ :: _ :: _ :: _ :: _ :: _ :: _ :: .bool false :: .bool false :: undef :: undef :: undef :: undef :: undef :: undef :: undef :: _ :: _ :: _ :: _ :: _ :: _ :: _ :: _ :: _ :: _ :: _ :: _ :: _ :: _ :: _ :: _ :: _ :: _ :: _ :: _ :: _ :: _ :: _ :: _ :: _ :: _ :: _ :: _ :: _ :: _ :: _ :: _ :: _ :: _ :: _ :: _ :: _ :: _ :: _ :: []), defers := [] } _
      refine wpAnyH_take (i := 9) (v := undef) rfl (by kernel_rfl) (by kernel_rfl) (by kernel_rfl) (fun _ _ _ h => h) (Or.inr ⟨by kernel_rfl, rfl⟩) hHeld ?_
      change wpAnyH _ _ _ _ _ _ _ { tmps := List.toArray (_ :: _ :: _ :: _ :: _ :: _ :: _ :: _ :: _ :: _ :: _ :: _ :: _ :: _ :: _ :: _ :: _ :: _ :: _ :: _ :: _ :: _ :: _ :: _ :: _ :: _ :: _ :: _ :: _ :: _ :: _ :: _ :: _ :: _ :: _ :: _ :: _ :: _ :: _ :: _ :: _ :: _ :: _ :: _ :: _ :: _ :: _ :: _ :: _ :: _ :: _ :: _ :: _ :: _ :: _ :: _ :: _ :: _ :: _ :: _ :: _ :: _ :: _ :: _ :: _ :: _ :: _ :: _ :: _ :: _ :: _ :: _ :: _ :: _ :: _ :: _ :: _ :: _ :: _ :: _ :: _ :: _ :: _ :: _ :: .bool false :: .bool false :: undef :: undef :: undef :: undef :: undef :: undef :: undef :: undef :: _ :: _ :: _ :: _ :: _ :: _ :: _ :: _ :: _ :: _ :: _ :: _ :: _ :: _ :: _ :: _ :: _ :: _ :: _ :: _ :: _ :: _ :: _ :: _ :: _ :: _ :: _ :: _ :: _ :: _ :: _ :: _ :: _ :: _ :: _ :: _ :: _ :: _ :: []), defers := [] } _
      refine wpAnyH_take (i := 10) (v := undef) rfl (by kernel_rfl) (by kernel_rfl) (by kernel_rfl) (fun _ _ _ h => h) (Or.inr ⟨by kernel_rfl, rfl⟩) hHeld ?_
      change wpAnyH _ _ _ _ _ _ _ { tmps := List.toArray (_ :: _ :: _ :: _ :: _ :: _ :: _ :: _ :: _ :: _ :: _ :: _ :: _ :: _ :: _ :: _ :: _ :: _ :: _ :: _ :: _ :: _ :: _ :: _ :: _ :: _ :: _ :: _ :: _ :: _ :: _ :: _ :: _ :: _ :: _ :: _ :: _ :: _ :: _ :: _ :: _ :: _ :: _ :: _ :: _ :: _ :: _ :: _ :: _ :: _ :: _ :: _ :: _ :: _ :: _ :: _ :: _ :: _ :: _ :: _ :: _ :: _ :: _ :: _ :: _ :: _ :: _ :: _ :: _ :: _ :: _ :: _ :: _ :: _ :: _ :: _ :: _ :: _ :: _ :: _ :: _ :: _ :: _ :: _ :: .bool false :: .bool false :: undef :: undef :: undef :: undef :: undef :: undef :: undef :: undef :: undef :: _ :: _ :: _ :: _ :: _ :: _ :: _ :: _ :: _ :: _ :: _ :: _ :: _ :: _ :: _ :: _ :: _ :: _ :: _ :: _ :: _ :: _ :: _ :: _ :: _ :: _ :: _ :: _ :: _ :: _ :: _ :: _ :: _ :: _ :: _ :: _ :: _ :: []), defers := [] } _
      refine wpAnyH_take (i := 11) (v := undef) rfl (by kernel_rfl) (by kernel_rfl) (by kernel_rfl) (fun _ _ _ h => h) (Or.inr ⟨by kernel_rfl, rfl⟩) hHeld ?_
      change wpAnyH _ _ _ _ _ _ _ { tmps := List.toArray (_ :: _ :: _ :: _ :: _ :: _ :: _ :: _ :: _ :: _ :: _ :: _ :: _ :: _ :: _ :: _ :: _ :: _ :: _ :: _ :: _ :: _ :: _ :: _ :: _ :: _ :: _ :: _ :: _ :: _ :: _ :: _ :: _ :: _ :: _ :: _ :: _ :: _ :: _ :: _ :: _ :: _ :: _ :: _ :: _ :: _ :: _ :: _ :: _ :: _ :: _ :: _ :: _ :: _ :: _ :: _ :: _ :: _ :: _ :: _ :: _ :: _ :: _ :: _ :: _ :: _ :: _ :: _ :: _ :: _ :: _ :: _ :: _ :: _ :: _ :: _ :: _ :: _ :: _ :: _ :: _ :: _ :: _ :: _ :: .bool false :: .bool false :: undef :: undef :: undef :: undef :: undef :: undef :: undef :: undef :: undef :: undef :: _ :: _ :: _ :: _ :: _ :: _ :: _ :: _ :: _ :: _ :: _ :: _ :: _ :: _ :: _ :: _ :: _ :: _ :: _ :: _ :: _ :: _ :: _ :: _ :: _ :: _ :: _ :: _ :: _ :: _ :: _ :: _ :: _ :: _ :: _ :: _ :: []), defers := [] } _
      refine wpAnyH_take (i := 12) (v := undef) rfl (by kernel_rfl) (by kernel_rfl) (by kernel_rfl) (fun _ _ _ h => h) (Or.inr ⟨by kernel_rfl, rfl⟩) hHeld ?_
      change wpAnyH _ _ _ _ _ _ _ { tmps := List.toArray (_ :: _ :: _ :: _ :: _ :: _ :: _ :: _ :: _ :: _ :: _ :: _ :: _ :: _ :: _ :: _ :: _ :: _ :: _ :: _ :: _ :: _ :: _ :: _ :: _ :: _ :: _ :: _ :: _ :: _ :: _ :: _ :: _ :: _ :: _ :: _ :: _ :: _ :: _ :: _ :: _ :: _ :: _ :: _ :: _ :: _ :: _ :: _ :: _ :: _ :: _ :: _ :: _ :: _ :: _ :: _ :: _ :: _ :: _ :: _ :: _ :: _ :: _ :: _ :: _ :: _ :: _ :: _ :: _ :: _ :: _ :: _ :: _ :: _ :: _ :: _ :: _ :: _ :: _ :: _ :: _ :: _ :: _ :: _ :: .bool false :: .bool false :: undef :: undef :: undef :: undef :: undef :: undef :: undef :: undef :: undef :: undef :: undef :: _ :: _ :: _ :: _ :: _ :: _ :: _ :: _ :: _ :: _ :: _ :: _ :: _ :: _ :: _ :: _ :: _ :: _ :: _ :: _ :: _ :: _ :: _ :: _ :: _ :: _ :: _ :: _ :: _ :: _ :: _ :: _ :: _ :: _ :: _ :: []), defers := [] } _
      refine wpAnyH_take (i := 13) (v := .bool false) rfl (by kernel_rfl) (by kernel_rfl) (by kernel_rfl) (fun _ _ _ h => h) (Or.inl ⟨by kernel_rfl, fun w hS => by go_simp⟩) hHeld ?_
      change wpAnyH _ _ _ _ _ _ _ { tmps := List.toArray (_ :: _ :: _ :: _ :: _ :: _ :: _ :: _ :: _ :: _ :: _ :: _ :: _ :: _ :: _ :: _ :: _ :: _ :: _ :: _ :: _ :: _ :: _ :: _ :: _ :: _ :: _ :: _ :: _ :: _ :: _ :: _ :: _ :: _ :: _ :: _ :: _ :: _ :: _ :: _ :: _ :: _ :: _ :: _ :: _ :: _ :: _ :: _ :: _ :: _ :: _ :: _ :: _ :: _ :: _ :: _ :: _ :: _ :: _ :: _ :: _ :: _ :: _ :: _ :: _ :: _ :: _ :: _ :: _ :: _ :: _ :: _ :: _ :: _ :: _ :: _ :: _ :: _ :: _ :: _ :: _ :: _ :: _ :: _ :: .bool false :: .bool false :: undef :: undef :: undef :: undef :: undef :: undef :: undef :: undef :: undef :: undef :: undef :: .bool false :: _ :: _ :: _ :: _ :: _ :: _ :: _ :: _ :: _ :: _ :: _ :: _ :: _ :: _ :: _ :: _ :: _ :: _ :: _ :: _ :: _ :: _ :: _ :: _ :: _ :: _ :: _ :: _ :: _ :: _ :: _ :: _ :: _ :: _ :: []), defers := [] } _
      refine wpAnyH_done (by kernel_rfl) ?_ _
      have A1 := balloc wz (.cells #[.int .u8 126, .int .u8 126] 5)
      have E1 : (wz.alloc (.cells #[.int .u8 126, .int .u8 126] 5)).ownsRow wz.heap.size 5 1 (.slice (some ⟨wz.heap.size, 0, none⟩) 2 2) 2 (enc8 [126, 126]) := by
        have := World.ownsRow_lit (base := wz.heap.size) (e := 5) (size := 1) wz #[.int .u8 126, .int .u8 126] 2 (Nat.le_refl _) (by unfold maxLen; omega) rfl
        simpa [enc8] using this
      obtain ⟨vS, wS, hrunA, RS, hgS, -⟩ := app_by (xs := [126, 126]) (n := 2) rfl E1 (some ⟨gD, 0, none⟩) cD (Bys.own (own_keep RD A1) hL.out) (by rw [hL.out]; omega) A1.size
      rw [hL.out] at RS hrunA
      have hbS : Below wz.heap.size wz wS := A1.grown hgS A1.size (fun y hy => own_from E1 (Nat.le_refl _) y hy)
      obtain ⟨vU, wU, hrunB, RU, hgU, -⟩ := app_one 126 (by rw [List.length_append, hL.out]; rfl) RS (by omega) hbS.size
      have hbU := below_app hbS hbS.size RS hgU
      obtain ⟨gS, cS, rfl⟩ := row_some RS (by omega)
      obtain ⟨gU, cU, rfl⟩ := row_some RU (by omega)
      have hlU : (([126, 126] ++ DL) ++ [126]).length = 2 + L + 1 := by rw [List.length_append, List.length_append, hL.out]; rfl
      have hyU : By (([126, 126] ++ DL) ++ [126]) := ((By.cons (by omega) (by omega) (By.one (by omega) (by omega))).app hyD).app (By.one (by omega) (by omega))
      have hSV : scanV (([126, 126] ++ DL) ++ [126]) = ([⟨q, k, bd⟩], 0) := by
        unfold scanV
        rw [if_neg (by rw [hlU]; omega), ← hDL.out, List.append_assoc]
        show scV (126 :: 126 :: (encL ⟨q, k, bd⟩ ++ [126])) [] ([], 0) = _
        rw [scV, if_pos rfl, takeP_nil, scV, if_pos rfl, takeP_nil, scV_enc hok.out hyb, scV, if_pos rfl, takeP_nil, scV, takeP_nil]
        rfl
      have CS := (cScanI gU 0 cU _ wU (Bys.own RU hlU) hyU (by rw [hlU]; omega) (by have := own_cap RU; rw [hlU]; exact this)).mono fun e w' h => h.open hSV
      rw [hlU] at CS
      have hb := hbU
      replace HB := btrans HB hb
      replace KT := blk_keep hb KT
      replace RT := own_keep RT hb
      clear hb A1 E1 RS hgS hbS RU hgU hbU hlU hyU hSV RD
      go_wp2_with (first | (at_builtin; have h0 := hrunA; refine Go.Lib.wpList_append_run _ rfl _ _ _ _ rfl _ _ rfl rfl _ _ hrunA ?_; clear hrunA h0) | (at_builtin; refine Go.Lib.wpList_append_run _ rfl _ _ _ _ rfl _ _ rfl rfl _ _ hrunB ?_))
      refine CS.mono ?_
      rintro e wV ⟨vL, csL, rfl, TL, hb⟩
      replace HB := btrans HB hb
      replace KT := blk_keep hb KT
      replace RT := own_keep RT hb
      clear hb CS hrunB
      have hLo : wV.ownsRow wU.heap.size 25 3 vL 1 (flatC csL) := TL.own
      have hc1 : csL.length = 1 := TL.len
      obtain ⟨la, lc, rfl⟩ := own_form hLo
      obtain ⟨lb, rfl⟩ := tab_some hLo (by omega)
      obtain ⟨u1, u2, u3⟩ := TL.each 0 (by omega)
      obtain ⟨y0, y1, y2⟩ := flatC_get csL 0 (by omega)
      have hl3 := flatC_len csL
      have z0 := (hLo.cellAt (0 * 3) (by omega)).trans y0
      have z1 := (hLo.cellAt (0 * 3 + 1) (by omega)).trans y1
      have z2 := (hLo.cellAt (0 * 3 + 2) (by omega)).trans y2
      rw [u1] at z0
      rw [u2] at z1
      simp only [Nat.zero_mul, Nat.zero_add, List.getD_cons_zero] at z0 z1 z2 u3
      rw [hm.out] at u3
      obtain ⟨aL, pL, eL⟩ := own_form u3
      rw [eL] at z2 u3
      have RL := own_base u3 (Nat.zero_le _)
      clear u1 u2 u3 y0 y1 y2 hl3 hc1 eL TL hLo
      obtain ⟨⟨x0, x1, x2⟩, -⟩ := blk3 KT
      obtain ⟨tb, htb⟩ : ∃ tb, tb = w1.heap.size := ⟨_, rfl⟩
      rw [← htb] at x0 x1 x2
      have hCrc : Hid (crcV bd = crcV bd) := hide rfl
      have CI := fun W (h : Below wV.heap.size wV W) => crcI1 va vc m bd W (own_keep RT h) hm.out hyb (by omega)
      have CQ := fun W (h : Below wV.heap.size wV W) => crcS1 va vc m bd W (own_keep RT h) hm.out hyb (by omega)
      have CT := fun W (h : Below wV.heap.size wV W) => cSameT _ _ m m q k q k _ _ bd bd W hm.out hm.out (own_keep RL h) (own_keep RT h) hyb hyb
      generalize crcV bd = cr at *
      subst htb
      go_wp2_with fail
      refine wp_region_held_drew (S := (fun w' => w'.cell? ⟨lb, 0, none⟩ = some (.int .i64 q) ∧ w'.cell? ⟨lb, 1, none⟩ = some (.int .i64 k) ∧ w'.cell? ⟨lb, 2, none⟩ = some (.slice aL m pL) ∧ w'.cell? ⟨w1.heap.size, 0, none⟩ = some (.int .i64 q) ∧ w'.cell? ⟨w1.heap.size, 1, none⟩ = some (.int .i64 k) ∧ w'.cell? ⟨w1.heap.size, 2, none⟩ = some (.slice va m vc))) (by kernel_rfl) ?_ (fun hHeld => ?_)
      · exact ⟨z0, z1, z2, x0, x1, x2⟩
      have Bd : Below wV.heap.size wV wV.drew := (Below.refl _ _).drew
      have HB2 := HB.drew
      generalize wV.drew = wd at *
      refine wpAnyH_take (i := 0) (v := .slice (some ⟨lb, 0, none⟩) 1 lc) rfl (by kernel_rfl) (by kernel_rfl) (by kernel_rfl) (fun _ _ _ h => h) (Or.inl ⟨by kernel_rfl, fun w hS => by go_simp⟩) hHeld ?_
      change wpAnyH _ _ _ _ _ _ _ { tmps := List.toArray (_ :: _ :: _ :: _ :: _ :: _ :: _ :: _ :: _ :: _ :: _ :: _ :: _ :: _ :: _ :: _ :: _ :: _ :: _ :: _ :: _ :: _ :: _ :: _ :: _ :: _ :: _ :: _ :: _ :: _ :: _ :: _ :: _ :: _ :: _ :: _ :: _ :: _ :: _ :: _ :: _ :: _ :: _ :: _ :: _ :: _ :: _ :: _ :: _ :: _ :: _ :: _ :: _ :: _ :: _ :: _ :: _ :: _ :: _ :: _ :: _ :: _ :: _ :: _ :: _ :: _ :: _ :: _ :: _ :: _ :: _ :: _ :: _ :: _ :: _ :: _ :: _ :: _ :: _ :: _ :: _ :: _ :: _ :: _ :: _ :: _ :: _ :: _ :: _ :: _ :: _ :: _ :: _ :: _ :: _ :: _ :: _ :: _ :: _ :: _ :: _ :: _ :: _ :: _ :: _ :: _ :: _ :: _ :: _ :: .slice (some ⟨lb, 0, none⟩) 1 lc :: _ :: _ :: _ :: _ :: _ :: _ :: _ :: _ :: _ :: _ :: _ :: _ :: _ :: _ :: _ :: _ :: _ :: _ :: _ :: _ :: _ :: _ :: []), defers := [] } _
      refine wpAnyH_take (i := 1) (v := .int .i64 1) rfl (by kernel_rfl) (by kernel_rfl) (by kernel_rfl) (fun _ _ _ h => h) (Or.inl ⟨by kernel_rfl, fun w hS => by go_simp⟩) hHeld ?_
      change wpAnyH _ _ _ _ _ _ _ { tmps := List.toArray (_ :: _ :: _ :: _ :: _ :: _ :: _ :: _ :: _ :: _ :: _ :: _ :: _ :: _ :: _ :: _ :: _ :: _ :: _ :: _ :: _ :: _ :: _ :: _ :: _ :: _ :: _ :: _ :: _ :: _ :: _ :: _ :: _ :: _ :: _ :: _ :: _ :: _ :: _ :: _ :: _ :: _ :: _ :: _ :: _ :: _ :: _ :: _ :: _ :: _ :: _ :: _ :: _ :: _ :: _ :: _ :: _ :: _ :: _ :: _ :: _ :: _ :: _ :: _ :: _ :: _ :: _ :: _ :: _ :: _ :: _ :: _ :: _ :: _ :: _ :: _ :: _ :: _ :: _ :: _ :: _ :: _ :: _ :: _ :: _ :: _ :: _ :: _ :: _ :: _ :: _ :: _ :: _ :: _ :: _ :: _ :: _ :: _ :: _ :: _ :: _ :: _ :: _ :: _ :: _ :: _ :: _ :: _ :: _ :: .slice (some ⟨lb, 0, none⟩) 1 lc :: .int .i64 1 :: _ :: _ :: _ :: _ :: _ :: _ :: _ :: _ :: _ :: _ :: _ :: _ :: _ :: _ :: _ :: _ :: _ :: _ :: _ :: _ :: _ :: []), defers := [] } _
      refine wpAnyH_take (i := 2) (v := .bool true) rfl (by kernel_rfl) (by kernel_rfl) (by kernel_rfl) (fun _ _ _ h => h) (Or.inl ⟨by kernel_rfl, fun w hS => by go_simp⟩) hHeld ?_
      change wpAnyH _ _ _ _ _ _ _ { tmps := List.toArray (_ :: _ :: _ :: _ :: _ :: _ :: _ :: _ :: _ :: _ :: _ :: _ :: _ :: _ :: _ :: _ :: _ :: _ :: _ :: _ :: _ :: _ :: _ :: _ :: _ :: _ :: _ :: _ :: _ :: _ :: _ :: _ :: _ :: _ :: _ :: _ :: _ :: _ :: _ :: _ :: _ :: _ :: _ :: _ :: _ :: _ :: _ :: _ :: _ :: _ :: _ :: _ :: _ :: _ :: _ :: _ :: _ :: _ :: _ :: _ :: _ :: _ :: _ :: _ :: _ :: _ :: _ :: _ :: _ :: _ :: _ :: _ :: _ :: _ :: _ :: _ :: _ :: _ :: _ :: _ :: _ :: _ :: _ :: _ :: _ :: _ :: _ :: _ :: _ :: _ :: _ :: _ :: _ :: _ :: _ :: _ :: _ :: _ :: _ :: _ :: _ :: _ :: _ :: _ :: _ :: _ :: _ :: _ :: _ :: .slice (some ⟨lb, 0, none⟩) 1 lc :: .int .i64 1 :: .bool true :: _ :: _ :: _ :: _ :: _ :: _ :: _ :: _ :: _ :: _ :: _ :: _ :: _ :: _ :: _ :: _ :: _ :: _ :: _ :: _ :: []), defers := [] } _
      refine wpAnyH_take (i := 3) (v := .bool true) rfl (by kernel_rfl) (by kernel_rfl) (by kernel_rfl) (fun _ _ _ h => h) (Or.inl ⟨by kernel_rfl, fun w hS => by go_simp⟩) hHeld ?_
      change wpAnyH _ _ _ _ _ _ _ { tmps := List.toArray (_ :: _ :: _ :: _ :: _ :: _ :: _ :: _ :: _ :: _ :: _ :: _ :: _ :: _ :: _ :: _ :: _ :: _ :: _ :: _ :: _ :: _ :: _ :: _ :: _ :: _ :: _ :: _ :: _ :: _ :: _ :: _ :: _ :: _ :: _ :: _ :: _ :: _ :: _ :: _ :: _ :: _ :: _ :: _ :: _ :: _ :: _ :: _ :: _ :: _ :: _ :: _ :: _ :: _ :: _ :: _ :: _ :: _ :: _ :: _ :: _ :: _ :: _ :: _ :: _ :: _ :: _ :: _ :: _ :: _ :: _ :: _ :: _ :: _ :: _ :: _ :: _ :: _ :: _ :: _ :: _ :: _ :: _ :: _ :: _ :: _ :: _ :: _ :: _ :: _ :: _ :: _ :: _ :: _ :: _ :: _ :: _ :: _ :: _ :: _ :: _ :: _ :: _ :: _ :: _ :: _ :: _ :: _ :: _ :: .slice (some ⟨lb, 0, none⟩) 1 lc :: .int .i64 1 :: .bool true :: .bool true :: _ :: _ :: _ :: _ :: _ :: _ :: _ :: _ :: _ :: _ :: _ :: _ :: _ :: _ :: _ :: _ :: _ :: _ :: _ :: []), defers := [] } _
      refine wpAnyH_take (i := 4) (v := .int .i64 0) rfl (by kernel_rfl) (by kernel_rfl) (by kernel_rfl) (fun _ _ _ h => h) (Or.inl ⟨by kernel_rfl, fun w hS => by go_simp⟩) hHeld ?_
      change wpAnyH _ _ _ _ _ _ _ { tmps := List.toArray (_ :: _ :: _ :: _ :: _ :: _ :: _ :: _ :: _ :: _ :: _ :: _ :: _ :: _ :: _ :: _ :: _ :: _ :: _ :: _ :: _ :: _ :: _ :: _ :: _ :: _ :: _ :: _ :: _ :: _ :: _ :: _ :: _ :: _ :: _ :: _ :: _ :: _ :: _ :: _ :: _ :: _ :: _ :: _ :: _ :: _ :: _ :: _ :: _ :: _ :: _ :: _ :: _ :: _ :: _ :: _ :: _ :: _ :: _ :: _ :: _ :: _ :: _ :: _ :: _ :: _ :: _ :: _ :: _ :: _ :: _ :: _ :: _ :: _ :: _ :: _ :: _ :: _ :: _ :: _ :: _ :: _ :: _ :: _ :: _ :: _ :: _ :: _ :: _ :: _ :: _ :: _ :: _ :: _ :: _ :: _ :: _ :: _ :: _ :: _ :: _ :: _ :: _ :: _ :: _ :: _ :: _ :: _ :: _ :: .slice (some ⟨lb, 0, none⟩) 1 lc :: .int .i64 1 :: .bool true :: .bool true :: .int .i64 0 :: _ :: _ :: _ :: _ :: _ :: _ :: _ :: _ :: _ :: _ :: _ :: _ :: _ :: _ :: _ :: _ :: _ :: _ :: []), defers := [] } _
      refine wpAnyH_take (i := 5) (v := .bool true) rfl (by kernel_rfl) (by kernel_rfl) (by kernel_rfl) (fun _ _ _ h => h) (Or.inl ⟨by kernel_rfl, fun w hS => by go_simp⟩) hHeld ?_
      change wpAnyH _ _ _ _ _ _ _ { tmps := List.toArray (_ :: _ :: _ :: _ :: _ :: _ :: _ :: _ :: _ :: _ :: _ :: _ :: _ :: _ :: _ :: _ :: _ :: _ :: _ :: _ :: _ :: _ :: _ :: _ :: _ :: _ :: _ :: _ :: _ :: _ :: _ :: _ :: _ :: _ :: _ :: _ :: _ :: _ :: _ :: _ :: _ :: _ :: _ :: _ :: _ :: _ :: _ :: _ :: _ :: _ :: _ :: _ :: _ :: _ :: _ :: _ :: _ :: _ :: _ :: _ :: _ :: _ :: _ :: _ :: _ :: _ :: _ :: _ :: _ :: _ :: _ :: _ :: _ :: _ :: _ :: _ :: _ :: _ :: _ :: _ :: _ :: _ :: _ :: _ :: _ :: _ :: _ :: _ :: _ :: _ :: _ :: _ :: _ :: _ :: _ :: _ :: _ :: _ :: _ :: _ :: _ :: _ :: _ :: _ :: _ :: _ :: _ :: _ :: _ :: .slice (some ⟨lb, 0, none⟩) 1 lc :: .int .i64 1 :: .bool true :: .bool true :: .int .i64 0 :: .bool true :: _ :: _ :: _ :: _ :: _ :: _ :: _ :: _ :: _ :: _ :: _ :: _ :: _ :: _ :: _ :: _ :: _ :: []), defers := [] } _
      refine wpAnyH_take (i := 6) (v := .bool true) rfl (by kernel_rfl) (by kernel_rfl) (by kernel_rfl) (fun _ _ _ h => h) (Or.inl ⟨by kernel_rfl, fun w hS => by go_simp⟩) hHeld ?_
      change wpAnyH _ _ _ _ _ _ _ { tmps := List.toArray (_ :: _ :: _ :: _ :: _ :: _ :: _ :: _ :: _ :: _ :: _ :: _ :: _ :: _ :: _ :: _ :: _ :: _ :: _ :: _ :: _ :: _ :: _ :: _ :: _ :: _ :: _ :: _ :: _ :: _ :: _ :: _ :: _ :: _ :: _ :: _ :: _ :: _ :: _ :: _ :: _ :: _ :: _ :: _ :: _ :: _ :: _ :: _ :: _ :: _ :: _ :: _ :: _ :: _ :: _ :: _ :: _ :: _ :: _ :: _ :: _ :: _ :: _ :: _ :: _ :: _ :: _ :: _ :: _ :: _ :: _ :: _ :: _ :: _ :: _ :: _ :: _ :: _ :: _ :: _ :: _ :: _ :: _ :: _ :: _ :: _ :: _ :: _ :: _ :: _ :: _ :: _ :: _ :: _ :: _ :: _ :: _ :: _ :: _ :: _ :: _ :: _ :: _ :: _ :: _ :: _ :: _ :: _ :: _ :: .slice (some ⟨lb, 0, none⟩) 1 lc :: .int .i64 1 :: .bool true :: .bool true :: .int .i64 0 :: .bool true :: .bool true :: _ :: _ :: _ :: _ :: _ :: _ :: _ :: _ :: _ :: _ :: _ :: _ :: _ :: _ :: _ :: _ :: []), defers := [] } _
      refine wpAnyH_take (i := 7) (v := .bool true) rfl (by kernel_rfl) (by kernel_rfl) (by kernel_rfl) (fun _ _ _ h => h) (Or.inl ⟨by kernel_rfl, fun w hS => by go_simp⟩) hHeld ?_
      change wpAnyH _ _ _ _ _ _ _ { tmps := List.toArray (_ :: _ :: _ :: _ :: _ :: _ :: _ :: _ :: _ :: _ :: _ :: _ :: _ :: _ :: _ :: _ :: _ :: _ :: _ :: _ :: _ :: _ :: _ :: _ :: _ :: _ :: _ :: _ :: _ :: _ :: _ :: _ :: _ :: _ :: _ :: _ :: _ :: _ :: _ :: _ :: _ :: _ :: _ :: _ :: _ :: _ :: _ :: _ :: _ :: _ :: _ :: _ :: _ :: _ :: _ :: _ :: _ :: _ :: _ :: _ :: _ :: _ :: _ :: _ :: _ :: _ :: _ :: _ :: _ :: _ :: _ :: _ :: _ :: _ :: _ :: _ :: _ :: _ :: _ :: _ :: _ :: _ :: _ :: _ :: _ :: _ :: _ :: _ :: _ :: _ :: _ :: _ :: _ :: _ :: _ :: _ :: _ :: _ :: _ :: _ :: _ :: _ :: _ :: _ :: _ :: _ :: _ :: _ :: _ :: .slice (some ⟨lb, 0, none⟩) 1 lc :: .int .i64 1 :: .bool true :: .bool true :: .int .i64 0 :: .bool true :: .bool true :: .bool true :: _ :: _ :: _ :: _ :: _ :: _ :: _ :: _ :: _ :: _ :: _ :: _ :: _ :: _ :: _ :: []), defers := [] } _
      refine wpAnyH_take (i := 8) (v := .slice (some ⟨lb, 0, none⟩) 1 lc) rfl (by kernel_rfl) (by kernel_rfl) (by kernel_rfl) (fun _ _ _ h => h) (Or.inl ⟨by kernel_rfl, fun w hS => by go_simp⟩) hHeld ?_
      change wpAnyH _ _ _ _ _ _ _ { tmps := List.toArray (_ :: _ :: _ :: _ :: _ :: _ :: _ :: _ :: _ :: _ :: _ :: _ :: _ :: _ :: _ :: _ :: _ :: _ :: _ :: _ :: _ :: _ :: _ :: _ :: _ :: _ :: _ :: _ :: _ :: _ :: _ :: _ :: _ :: _ :: _ :: _ :: _ :: _ :: _ :: _ :: _ :: _ :: _ :: _ :: _ :: _ :: _ :: _ :: _ :: _ :: _ :: _ :: _ :: _ :: _ :: _ :: _ :: _ :: _ :: _ :: _ :: _ :: _ :: _ :: _ :: _ :: _ :: _ :: _ :: _ :: _ :: _ :: _ :: _ :: _ :: _ :: _ :: _ :: _ :: _ :: _ :: _ :: _ :: _ :: _ :: _ :: _ :: _ :: _ :: _ :: _ :: _ :: _ :: _ :: _ :: _ :: _ :: _ :: _ :: _ :: _ :: _ :: _ :: _ :: _ :: _ :: _ :: _ :: _ :: .slice (some ⟨lb, 0, none⟩) 1 lc :: .int .i64 1 :: .bool true :: .bool true :: .int .i64 0 :: .bool true :: .bool true :: .bool true :: .slice (some ⟨lb, 0, none⟩) 1 lc :: _ :: _ :: _ :: _ :: _ :: _ :: _ :: _ :: _ :: _ :: _ :: _ :: _ :: _ :: []), defers := [] } _
      refine wpAnyH_take (i := 9) (v := .pointer (some ⟨lb, 0, none⟩)) rfl (by kernel_rfl) (by kernel_rfl) (by kernel_rfl) (fun _ _ _ h => h) (Or.inl ⟨by kernel_rfl, fun w hS => by go_simp⟩) hHeld ?_
      change wpAnyH _ _ _ _ _ _ _ { tmps := List.toArray (_ :: _ :: _ :: _ :: _ :: _ :: _ :: _ :: _ :: _ :: _ :: _ :: _ :: _ :: _ :: _ :: _ :: _ :: _ :: _ :: _ :: _ :: _ :: _ :: _ :: _ :: _ :: _ :: _ :: _ :: _ :: _ :: _ :: _ :: _ :: _ :: _ :: _ :: _ :: _ :: _ :: _ :: _ :: _ :: _ :: _ :: _ :: _ :: _ :: _ :: _ :: _ :: _ :: _ :: _ :: _ :: _ :: _ :: _ :: _ :: _ :: _ :: _ :: _ :: _ :: _ :: _ :: _ :: _ :: _ :: _ :: _ :: _ :: _ :: _ :: _ :: _ :: _ :: _ :: _ :: _ :: _ :: _ :: _ :: _ :: _ :: _ :: _ :: _ :: _ :: _ :: _ :: _ :: _ :: _ :: _ :: _ :: _ :: _ :: _ :: _ :: _ :: _ :: _ :: _ :: _ :: _ :: _ :: _ :: .slice (some ⟨lb, 0, none⟩) 1 lc :: .int .i64 1 :: .bool true :: .bool true :: .int .i64 0 :: .bool true :: .bool true :: .bool true :: .slice (some ⟨lb, 0, none⟩) 1 lc :: .pointer (some ⟨lb, 0, none⟩) :: _ :: _ :: _ :: _ :: _ :: _ :: _ :: _ :: _ :: _ :: _ :: _ :: _ :: []), defers := [] } _
      refine wpAnyH_take (i := 10) (v := .agg #[.int .i64 q, .int .i64 k, .slice aL m pL]) rfl (by kernel_rfl) (by kernel_rfl) (by kernel_rfl) (fun _ _ _ h => h) (Or.inl ⟨by kernel_rfl, fun w hS => by (obtain ⟨hS0, hS1, hS2, hS3, hS4, hS5⟩ := hS; go_simp)⟩) hHeld ?_
      change wpAnyH _ _ _ _ _ _ _ { tmps := List.toArray (_ :: _ :: _ :: _ :: _ :: _ :: _ :: _ :: _ :: _ :: _ :: _ :: _ :: _ :: _ :: _ :: _ :: _ :: _ :: _ :: _ :: _ :: _ :: _ :: _ :: _ :: _ :: _ :: _ :: _ :: _ :: _ :: _ :: _ :: _ :: _ :: _ :: _ :: _ :: _ :: _ :: _ :: _ :: _ :: _ :: _ :: _ :: _ :: _ :: _ :: _ :: _ :: _ :: _ :: _ :: _ :: _ :: _ :: _ :: _ :: _ :: _ :: _ :: _ :: _ :: _ :: _ :: _ :: _ :: _ :: _ :: _ :: _ :: _ :: _ :: _ :: _ :: _ :: _ :: _ :: _ :: _ :: _ :: _ :: _ :: _ :: _ :: _ :: _ :: _ :: _ :: _ :: _ :: _ :: _ :: _ :: _ :: _ :: _ :: _ :: _ :: _ :: _ :: _ :: _ :: _ :: _ :: _ :: _ :: .slice (some ⟨lb, 0, none⟩) 1 lc :: .int .i64 1 :: .bool true :: .bool true :: .int .i64 0 :: .bool true :: .bool true :: .bool true :: .slice (some ⟨lb, 0, none⟩) 1 lc :: .pointer (some ⟨lb, 0, none⟩) :: .agg #[.int .i64 q, .int .i64 k, .slice aL m pL] :: _ :: _ :: _ :: _ :: _ :: _ :: _ :: _ :: _ :: _ :: _ :: _ :: []), defers := [] } _
      refine wpAnyH_take (i := 11) (v := .agg #[.int .i64 q, .int .i64 k, .slice va m vc]) rfl (by kernel_rfl) (by kernel_rfl) (by kernel_rfl) (fun _ _ _ h => h) (Or.inl ⟨by kernel_rfl, fun w hS => by (obtain ⟨hS0, hS1, hS2, hS3, hS4, hS5⟩ := hS; go_simp)⟩) hHeld ?_
      change wpAnyH _ _ _ _ _ _ _ { tmps := List.toArray (_ :: _ :: _ :: _ :: _ :: _ :: _ :: _ :: _ :: _ :: _ :: _ :: _ :: _ :: _ :: _ :: _ :: _ :: _ :: _ :: _ :: _ :: _ :: _ :: _ :: _ :: _ :: _ :: _ :: _ :: _ :: _ :: _ :: _ :: _ :: _ :: _ :: _ :: _ :: _ :: _ :: _ :: _ :: _ :: _ :: _ :: _ :: _ :: _ :: _ :: _ :: _ :: _ :: _ :: _ :: _ :: _ :: _ :: _ :: _ :: _ :: _ :: _ :: _ :: _ :: _ :: _ :: _ :: _ :: _ :: _ :: _ :: _ :: _ :: _ :: _ :: _ :: _ :: _ :: _ :: _ :: _ :: _ :: _ :: _ :: _ :: _ :: _ :: _ :: _ :: _ :: _ :: _ :: _ :: _ :: _ :: _ :: _ :: _ :: _ :: _ :: _ :: _ :: _ :: _ :: _ :: _ :: _ :: _ :: .slice (some ⟨lb, 0, none⟩) 1 lc :: .int .i64 1 :: .bool true :: .bool true :: .int .i64 0 :: .bool true :: .bool true :: .bool true :: .slice (some ⟨lb, 0, none⟩) 1 lc :: .pointer (some ⟨lb, 0, none⟩) :: .agg #[.int .i64 q, .int .i64 k, .slice aL m pL] :: .agg #[.int .i64 q, .int .i64 k, .slice va m vc] :: _ :: _ :: _ :: _ :: _ :: _ :: _ :: _ :: _ :: _ :: _ :: []), defers := [] } _
      refine wpAnyH_ready (rs := [12]) (by kernel_rfl) (by simp) ?_
      refine (AllReadyH.cons rfl (fun KK hK => ?_) AllReadyH.nil)
      go_simp
      refine (CT wd Bd).mono ?_
      rintro e wp ⟨rfl, hbp⟩
      rw [sameB_self]
      have Bp := btrans Bd hbp
      have HB3 := btrans HB2 hbp
      go_wp2_with fail
      clear hHeld
      refine hK.out _ _ (⟨ble Bp z0, ble Bp z1, ble Bp z2, ble Bp x0, ble Bp x1, ble Bp x2⟩) (fun hHeld => ?_)
      clear hK KK
      change wpAnyH _ _ _ _ _ _ _ { tmps := List.toArray (_ :: _ :: _ :: _ :: _ :: _ :: _ :: _ :: _ :: _ :: _ :: _ :: _ :: _ :: _ :: _ :: _ :: _ :: _ :: _ :: _ :: _ :: _ :: _ :: _ :: _ :: _ :: _ :: _ :: _ :: _ :: _ :: _ :: _ :: _ :: _ :: _ :: _ :: _ :: _ :: _ :: _ :: _ :: _ :: _ :: _ :: _ :: _ :: _ :: _ :: _ :: _ :: _ :: _ :: _ :: _ :: _ :: _ :: _ :: _ :: _ :: _ :: _ :: _ :: _ :: _ :: _ :: _ :: _ :: _ :: _ :: _ :: _ :: _ :: _ :: _ :: _ :: _ :: _ :: _ :: _ :: _ :: _ :: _ :: _ :: _ :: _ :: _ :: _ :: _ :: _ :: _ :: _ :: _ :: _ :: _ :: _ :: _ :: _ :: _ :: _ :: _ :: _ :: _ :: _ :: _ :: _ :: _ :: _ :: .slice (some ⟨lb, 0, none⟩) 1 lc :: .int .i64 1 :: .bool true :: .bool true :: .int .i64 0 :: .bool true :: .bool true :: .bool true :: .slice (some ⟨lb, 0, none⟩) 1 lc :: .pointer (some ⟨lb, 0, none⟩) :: .agg #[.int .i64 q, .int .i64 k, .slice aL m pL] :: .agg #[.int .i64 q, .int .i64 k, .slice va m vc] :: .bool true :: _ :: _ :: _ :: _ :: _ :: _ :: _ :: _ :: _ :: _ :: []), defers := [] } _
      refine wpAnyH_take (i := 13) (v := .bool true) rfl (by kernel_rfl) (by kernel_rfl) (by kernel_rfl) (fun _ _ _ h => h) (Or.inl ⟨by kernel_rfl, fun w hS => by go_simp⟩) hHeld ?_
      change wpAnyH _ _ _ _ _ _ _ { tmps := List.toArray (_ :: _ :: _ :: _ :: _ :: _ :: _ :: _ :: _ :: _ :: _ :: _ :: _ :: _ :: _ :: _ :: _ :: _ :: _ :: _ :: _ :: _ :: _ :: _ :: _ :: _ :: _ :: _ :: _ :: _ :: _ :: _ :: _ :: _ :: _ :: _ :: _ :: _ :: _ :: _ :: _ :: _ :: _ :: _ :: _ :: _ :: _ :: _ :: _ :: _ :: _ :: _ :: _ :: _ :: _ :: _ :: _ :: _ :: _ :: _ :: _ :: _ :: _ :: _ :: _ :: _ :: _ :: _ :: _ :: _ :: _ :: _ :: _ :: _ :: _ :: _ :: _ :: _ :: _ :: _ :: _ :: _ :: _ :: _ :: _ :: _ :: _ :: _ :: _ :: _ :: _ :: _ :: _ :: _ :: _ :: _ :: _ :: _ :: _ :: _ :: _ :: _ :: _ :: _ :: _ :: _ :: _ :: _ :: _ :: .slice (some ⟨lb, 0, none⟩) 1 lc :: .int .i64 1 :: .bool true :: .bool true :: .int .i64 0 :: .bool true :: .bool true :: .bool true :: .slice (some ⟨lb, 0, none⟩) 1 lc :: .pointer (some ⟨lb, 0, none⟩) :: .agg #[.int .i64 q, .int .i64 k, .slice aL m pL] :: .agg #[.int .i64 q, .int .i64 k, .slice va m vc] :: .bool true :: .bool true :: _ :: _ :: _ :: _ :: _ :: _ :: _ :: _ :: _ :: []), defers := [] } _
      refine wpAnyH_take (i := 14) (v := .bool true) rfl (by kernel_rfl) (by kernel_rfl) (by kernel_rfl) (fun _ _ _ h => h) (Or.inl ⟨by kernel_rfl, fun w hS => by go_simp⟩) hHeld ?_
      change wpAnyH _ _ _ _ _ _ _ { tmps := List.toArray (_ :: _ :: _ :: _ :: _ :: _ :: _ :: _ :: _ :: _ :: _ :: _ :: _ :: _ :: _ :: _ :: _ :: _ :: _ :: _ :: _ :: _ :: _ :: _ :: _ :: _ :: _ :: _ :: _ :: _ :: _ :: _ :: _ :: _ :: _ :: _ :: _ :: _ :: _ :: _ :: _ :: _ :: _ :: _ :: _ :: _ :: _ :: _ :: _ :: _ :: _ :: _ :: _ :: _ :: _ :: _ :: _ :: _ :: _ :: _ :: _ :: _ :: _ :: _ :: _ :: _ :: _ :: _ :: _ :: _ :: _ :: _ :: _ :: _ :: _ :: _ :: _ :: _ :: _ :: _ :: _ :: _ :: _ :: _ :: _ :: _ :: _ :: _ :: _ :: _ :: _ :: _ :: _ :: _ :: _ :: _ :: _ :: _ :: _ :: _ :: _ :: _ :: _ :: _ :: _ :: _ :: _ :: _ :: _ :: .slice (some ⟨lb, 0, none⟩) 1 lc :: .int .i64 1 :: .bool true :: .bool true :: .int .i64 0 :: .bool true :: .bool true :: .bool true :: .slice (some ⟨lb, 0, none⟩) 1 lc :: .pointer (some ⟨lb, 0, none⟩) :: .agg #[.int .i64 q, .int .i64 k, .slice aL m pL] :: .agg #[.int .i64 q, .int .i64 k, .slice va m vc] :: .bool true :: .bool true :: .bool true :: _ :: _ :: _ :: _ :: _ :: _ :: _ :: _ :: []), defers := [] } _
      refine wpAnyH_take (i := 15) (v := .pointer (some ⟨w1.heap.size, 2, none⟩)) rfl (by kernel_rfl) (by kernel_rfl) (by kernel_rfl) (fun _ _ _ h => h) (Or.inl ⟨by kernel_rfl, fun w hS => by go_simp⟩) hHeld ?_
      change wpAnyH _ _ _ _ _ _ _ { tmps := List.toArray (_ :: _ :: _ :: _ :: _ :: _ :: _ :: _ :: _ :: _ :: _ :: _ :: _ :: _ :: _ :: _ :: _ :: _ :: _ :: _ :: _ :: _ :: _ :: _ :: _ :: _ :: _ :: _ :: _ :: _ :: _ :: _ :: _ :: _ :: _ :: _ :: _ :: _ :: _ :: _ :: _ :: _ :: _ :: _ :: _ :: _ :: _ :: _ :: _ :: _ :: _ :: _ :: _ :: _ :: _ :: _ :: _ :: _ :: _ :: _ :: _ :: _ :: _ :: _ :: _ :: _ :: _ :: _ :: _ :: _ :: _ :: _ :: _ :: _ :: _ :: _ :: _ :: _ :: _ :: _ :: _ :: _ :: _ :: _ :: _ :: _ :: _ :: _ :: _ :: _ :: _ :: _ :: _ :: _ :: _ :: _ :: _ :: _ :: _ :: _ :: _ :: _ :: _ :: _ :: _ :: _ :: _ :: _ :: _ :: .slice (some ⟨lb, 0, none⟩) 1 lc :: .int .i64 1 :: .bool true :: .bool true :: .int .i64 0 :: .bool true :: .bool true :: .bool true :: .slice (some ⟨lb, 0, none⟩) 1 lc :: .pointer (some ⟨lb, 0, none⟩) :: .agg #[.int .i64 q, .int .i64 k, .slice aL m pL] :: .agg #[.int .i64 q, .int .i64 k, .slice va m vc] :: .bool true :: .bool true :: .bool true :: .pointer (some ⟨w1.heap.size, 2, none⟩) :: _ :: _ :: _ :: _ :: _ :: _ :: _ :: []), defers := [] } _
      refine wpAnyH_take (i := 16) (v := .slice va m vc) rfl (by kernel_rfl) (by kernel_rfl) (by kernel_rfl) (fun _ _ _ h => h) (Or.inl ⟨by kernel_rfl, fun w hS => by (obtain ⟨hS0, hS1, hS2, hS3, hS4, hS5⟩ := hS; go_simp)⟩) hHeld ?_
      change wpAnyH _ _ _ _ _ _ _ { tmps := List.toArray (_ :: _ :: _ :: _ :: _ :: _ :: _ :: _ :: _ :: _ :: _ :: _ :: _ :: _ :: _ :: _ :: _ :: _ :: _ :: _ :: _ :: _ :: _ :: _ :: _ :: _ :: _ :: _ :: _ :: _ :: _ :: _ :: _ :: _ :: _ :: _ :: _ :: _ :: _ :: _ :: _ :: _ :: _ :: _ :: _ :: _ :: _ :: _ :: _ :: _ :: _ :: _ :: _ :: _ :: _ :: _ :: _ :: _ :: _ :: _ :: _ :: _ :: _ :: _ :: _ :: _ :: _ :: _ :: _ :: _ :: _ :: _ :: _ :: _ :: _ :: _ :: _ :: _ :: _ :: _ :: _ :: _ :: _ :: _ :: _ :: _ :: _ :: _ :: _ :: _ :: _ :: _ :: _ :: _ :: _ :: _ :: _ :: _ :: _ :: _ :: _ :: _ :: _ :: _ :: _ :: _ :: _ :: _ :: _ :: .slice (some ⟨lb, 0, none⟩) 1 lc :: .int .i64 1 :: .bool true :: .bool true :: .int .i64 0 :: .bool true :: .bool true :: .bool true :: .slice (some ⟨lb, 0, none⟩) 1 lc :: .pointer (some ⟨lb, 0, none⟩) :: .agg #[.int .i64 q, .int .i64 k, .slice aL m pL] :: .agg #[.int .i64 q, .int .i64 k, .slice va m vc] :: .bool true :: .bool true :: .bool true :: .pointer (some ⟨w1.heap.size, 2, none⟩) :: .slice va m vc :: _ :: _ :: _ :: _ :: _ :: _ :: []), defers := [] } _
      refine wpAnyH_take (i := 18) (v := .pointer (some ⟨w1.heap.size, 2, none⟩)) rfl (by kernel_rfl) (by kernel_rfl) (by kernel_rfl) (fun _ _ _ h => h) (Or.inl ⟨by kernel_rfl, fun w hS => by go_simp⟩) hHeld ?_
      change wpAnyH _ _ _ _ _ _ _ { tmps := List.toArray (_ :: _ :: _ :: _ :: _ :: _ :: _ :: _ :: _ :: _ :: _ :: _ :: _ :: _ :: _ :: _ :: _ :: _ :: _ :: _ :: _ :: _ :: _ :: _ :: _ :: _ :: _ :: _ :: _ :: _ :: _ :: _ :: _ :: _ :: _ :: _ :: _ :: _ :: _ :: _ :: _ :: _ :: _ :: _ :: _ :: _ :: _ :: _ :: _ :: _ :: _ :: _ :: _ :: _ :: _ :: _ :: _ :: _ :: _ :: _ :: _ :: _ :: _ :: _ :: _ :: _ :: _ :: _ :: _ :: _ :: _ :: _ :: _ :: _ :: _ :: _ :: _ :: _ :: _ :: _ :: _ :: _ :: _ :: _ :: _ :: _ :: _ :: _ :: _ :: _ :: _ :: _ :: _ :: _ :: _ :: _ :: _ :: _ :: _ :: _ :: _ :: _ :: _ :: _ :: _ :: _ :: _ :: _ :: _ :: .slice (some ⟨lb, 0, none⟩) 1 lc :: .int .i64 1 :: .bool true :: .bool true :: .int .i64 0 :: .bool true :: .bool true :: .bool true :: .slice (some ⟨lb, 0, none⟩) 1 lc :: .pointer (some ⟨lb, 0, none⟩) :: .agg #[.int .i64 q, .int .i64 k, .slice aL m pL] :: .agg #[.int .i64 q, .int .i64 k, .slice va m vc] :: .bool true :: .bool true :: .bool true :: .pointer (some ⟨w1.heap.size, 2, none⟩) :: .slice va m vc :: _ :: .pointer (some ⟨w1.heap.size, 2, none⟩) :: _ :: _ :: _ :: _ :: []), defers := [] } _
      refine wpAnyH_take (i := 19) (v := .slice va m vc) rfl (by kernel_rfl) (by kernel_rfl) (by kernel_rfl) (fun _ _ _ h => h) (Or.inl ⟨by kernel_rfl, fun w hS => by (obtain ⟨hS0, hS1, hS2, hS3, hS4, hS5⟩ := hS; go_simp)⟩) hHeld ?_
      change wpAnyH _ _ _ _ _ _ _ { tmps := List.toArray (_ :: _ :: _ :: _ :: _ :: _ :: _ :: _ :: _ :: _ :: _ :: _ :: _ :: _ :: _ :: _ :: _ :: _ :: _ :: _ :: _ :: _ :: _ :: _ :: _ :: _ :: _ :: _ :: _ :: _ :: _ :: _ :: _ :: _ :: _ :: _ :: _ :: _ :: _ :: _ :: _ :: _ :: _ :: _ :: _ :: _ :: _ :: _ :: _ :: _ :: _ :: _ :: _ :: _ :: _ :: _ :: _ :: _ :: _ :: _ :: _ :: _ :: _ :: _ :: _ :: _ :: _ :: _ :: _ :: _ :: _ :: _ :: _ :: _ :: _ :: _ :: _ :: _ :: _ :: _ :: _ :: _ :: _ :: _ :: _ :: _ :: _ :: _ :: _ :: _ :: _ :: _ :: _ :: _ :: _ :: _ :: _ :: _ :: _ :: _ :: _ :: _ :: _ :: _ :: _ :: _ :: _ :: _ :: _ :: .slice (some ⟨lb, 0, none⟩) 1 lc :: .int .i64 1 :: .bool true :: .bool true :: .int .i64 0 :: .bool true :: .bool true :: .bool true :: .slice (some ⟨lb, 0, none⟩) 1 lc :: .pointer (some ⟨lb, 0, none⟩) :: .agg #[.int .i64 q, .int .i64 k, .slice aL m pL] :: .agg #[.int .i64 q, .int .i64 k, .slice va m vc] :: .bool true :: .bool true :: .bool true :: .pointer (some ⟨w1.heap.size, 2, none⟩) :: .slice va m vc :: _ :: .pointer (some ⟨w1.heap.size, 2, none⟩) :: .slice va m vc :: _ :: _ :: _ :: []), defers := [] } _
      refine wpAnyH_ready (rs := [17]) (by kernel_rfl) (by simp) ?_
      refine (AllReadyH.cons rfl (fun KK hK => ?_) AllReadyH.nil)
      go_simp
      refine (CI wp Bp).mono ?_
      rintro e wq8 ⟨rfl, hq⟩
      subst wq8
      go_wp2_with fail
      clear hHeld
      refine hK.out _ _ (⟨ble Bp z0, ble Bp z1, ble Bp z2, ble Bp x0, ble Bp x1, ble Bp x2⟩) (fun hHeld => ?_)
      clear hK KK
      change wpAnyH _ _ _ _ _ _ _ { tmps := List.toArray (_ :: _ :: _ :: _ :: _ :: _ :: _ :: _ :: _ :: _ :: _ :: _ :: _ :: _ :: _ :: _ :: _ :: _ :: _ :: _ :: _ :: _ :: _ :: _ :: _ :: _ :: _ :: _ :: _ :: _ :: _ :: _ :: _ :: _ :: _ :: _ :: _ :: _ :: _ :: _ :: _ :: _ :: _ :: _ :: _ :: _ :: _ :: _ :: _ :: _ :: _ :: _ :: _ :: _ :: _ :: _ :: _ :: _ :: _ :: _ :: _ :: _ :: _ :: _ :: _ :: _ :: _ :: _ :: _ :: _ :: _ :: _ :: _ :: _ :: _ :: _ :: _ :: _ :: _ :: _ :: _ :: _ :: _ :: _ :: _ :: _ :: _ :: _ :: _ :: _ :: _ :: _ :: _ :: _ :: _ :: _ :: _ :: _ :: _ :: _ :: _ :: _ :: _ :: _ :: _ :: _ :: _ :: _ :: _ :: .slice (some ⟨lb, 0, none⟩) 1 lc :: .int .i64 1 :: .bool true :: .bool true :: .int .i64 0 :: .bool true :: .bool true :: .bool true :: .slice (some ⟨lb, 0, none⟩) 1 lc :: .pointer (some ⟨lb, 0, none⟩) :: .agg #[.int .i64 q, .int .i64 k, .slice aL m pL] :: .agg #[.int .i64 q, .int .i64 k, .slice va m vc] :: .bool true :: .bool true :: .bool true :: .pointer (some ⟨w1.heap.size, 2, none⟩) :: .slice va m vc :: .int .i64 cr :: .pointer (some ⟨w1.heap.size, 2, none⟩) :: .slice va m vc :: _ :: _ :: _ :: []), defers := [] } _
      refine wpAnyH_ready (rs := [20]) (by kernel_rfl) (by simp) ?_
      refine (AllReadyH.cons rfl (fun KK hK => ?_) AllReadyH.nil)
      go_simp
      refine (CQ wp Bp).mono ?_
      rintro e wq9 ⟨rfl, hq⟩
      subst wq9
      go_wp2_with fail
      clear hHeld
      refine hK.out _ _ (⟨ble Bp z0, ble Bp z1, ble Bp z2, ble Bp x0, ble Bp x1, ble Bp x2⟩) (fun hHeld => ?_)
      clear hK KK
      change wpAnyH _ _ _ _ _ _ _ { tmps := List.toArray (_ :: _ :: _ :: _ :: _ :: _ :: _ :: _ :: _ :: _ :: _ :: _ :: _ :: _ :: _ :: _ :: _ :: _ :: _ :: _ :: _ :: _ :: _ :: _ :: _ :: _ :: _ :: _ :: _ :: _ :: _ :: _ :: _ :: _ :: _ :: _ :: _ :: _ :: _ :: _ :: _ :: _ :: _ :: _ :: _ :: _ :: _ :: _ :: _ :: _ :: _ :: _ :: _ :: _ :: _ :: _ :: _ :: _ :: _ :: _ :: _ :: _ :: _ :: _ :: _ :: _ :: _ :: _ :: _ :: _ :: _ :: _ :: _ :: _ :: _ :: _ :: _ :: _ :: _ :: _ :: _ :: _ :: _ :: _ :: _ :: _ :: _ :: _ :: _ :: _ :: _ :: _ :: _ :: _ :: _ :: _ :: _ :: _ :: _ :: _ :: _ :: _ :: _ :: _ :: _ :: _ :: _ :: _ :: _ :: .slice (some ⟨lb, 0, none⟩) 1 lc :: .int .i64 1 :: .bool true :: .bool true :: .int .i64 0 :: .bool true :: .bool true :: .bool true :: .slice (some ⟨lb, 0, none⟩) 1 lc :: .pointer (some ⟨lb, 0, none⟩) :: .agg #[.int .i64 q, .int .i64 k, .slice aL m pL] :: .agg #[.int .i64 q, .int .i64 k, .slice va m vc] :: .bool true :: .bool true :: .bool true :: .pointer (some ⟨w1.heap.size, 2, none⟩) :: .slice va m vc :: .int .i64 cr :: .pointer (some ⟨w1.heap.size, 2, none⟩) :: .slice va m vc :: .int .i64 cr :: _ :: _ :: []), defers := [] } _
      refine wpAnyH_take (i := 21) (v := .bool true) rfl (by kernel_rfl) (by kernel_rfl) (by kernel_rfl) (fun _ _ _ h => h) (Or.inl ⟨by kernel_rfl, fun w hS => by go_simp⟩) hHeld ?_
      change wpAnyH _ _ _ _ _ _ _ { tmps := List.toArray (_ :: _ :: _ :: _ :: _ :: _ :: _ :: _ :: _ :: _ :: _ :: _ :: _ :: _ :: _ :: _ :: _ :: _ :: _ :: _ :: _ :: _ :: _ :: _ :: _ :: _ :: _ :: _ :: _ :: _ :: _ :: _ :: _ :: _ :: _ :: _ :: _ :: _ :: _ :: _ :: _ :: _ :: _ :: _ :: _ :: _ :: _ :: _ :: _ :: _ :: _ :: _ :: _ :: _ :: _ :: _ :: _ :: _ :: _ :: _ :: _ :: _ :: _ :: _ :: _ :: _ :: _ :: _ :: _ :: _ :: _ :: _ :: _ :: _ :: _ :: _ :: _ :: _ :: _ :: _ :: _ :: _ :: _ :: _ :: _ :: _ :: _ :: _ :: _ :: _ :: _ :: _ :: _ :: _ :: _ :: _ :: _ :: _ :: _ :: _ :: _ :: _ :: _ :: _ :: _ :: _ :: _ :: _ :: _ :: .slice (some ⟨lb, 0, none⟩) 1 lc :: .int .i64 1 :: .bool true :: .bool true :: .int .i64 0 :: .bool true :: .bool true :: .bool true :: .slice (some ⟨lb, 0, none⟩) 1 lc :: .pointer (some ⟨lb, 0, none⟩) :: .agg #[.int .i64 q, .int .i64 k, .slice aL m pL] :: .agg #[.int .i64 q, .int .i64 k, .slice va m vc] :: .bool true :: .bool true :: .bool true :: .pointer (some ⟨w1.heap.size, 2, none⟩) :: .slice va m vc :: .int .i64 cr :: .pointer (some ⟨w1.heap.size, 2, none⟩) :: .slice va m vc :: .int .i64 cr :: .bool true :: _ :: []), defers := [] } _
      refine wpAnyH_take (i := 22) (v := .bool true) rfl (by kernel_rfl) (by kernel_rfl) (by kernel_rfl) (fun _ _ _ h => h) (Or.inl ⟨by kernel_rfl, fun w hS => by go_simp⟩) hHeld ?_
      change wpAnyH _ _ _ _ _ _ _ { tmps := List.toArray (_ :: _ :: _ :: _ :: _ :: _ :: _ :: _ :: _ :: _ :: _ :: _ :: _ :: _ :: _ :: _ :: _ :: _ :: _ :: _ :: _ :: _ :: _ :: _ :: _ :: _ :: _ :: _ :: _ :: _ :: _ :: _ :: _ :: _ :: _ :: _ :: _ :: _ :: _ :: _ :: _ :: _ :: _ :: _ :: _ :: _ :: _ :: _ :: _ :: _ :: _ :: _ :: _ :: _ :: _ :: _ :: _ :: _ :: _ :: _ :: _ :: _ :: _ :: _ :: _ :: _ :: _ :: _ :: _ :: _ :: _ :: _ :: _ :: _ :: _ :: _ :: _ :: _ :: _ :: _ :: _ :: _ :: _ :: _ :: _ :: _ :: _ :: _ :: _ :: _ :: _ :: _ :: _ :: _ :: _ :: _ :: _ :: _ :: _ :: _ :: _ :: _ :: _ :: _ :: _ :: _ :: _ :: _ :: _ :: .slice (some ⟨lb, 0, none⟩) 1 lc :: .int .i64 1 :: .bool true :: .bool true :: .int .i64 0 :: .bool true :: .bool true :: .bool true :: .slice (some ⟨lb, 0, none⟩) 1 lc :: .pointer (some ⟨lb, 0, none⟩) :: .agg #[.int .i64 q, .int .i64 k, .slice aL m pL] :: .agg #[.int .i64 q, .int .i64 k, .slice va m vc] :: .bool true :: .bool true :: .bool true :: .pointer (some ⟨w1.heap.size, 2, none⟩) :: .slice va m vc :: .int .i64 cr :: .pointer (some ⟨w1.heap.size, 2, none⟩) :: .slice va m vc :: .int .i64 cr :: .bool true :: .bool true :: []), defers := [] } _
      refine wpAnyH_take (i := 23) (v := .bool true) rfl (by kernel_rfl) (by kernel_rfl) (by kernel_rfl) (fun _ _ _ h => h) (Or.inl ⟨by kernel_rfl, fun w hS => by go_simp⟩) hHeld ?_
      change wpAnyH _ _ _ _ _ _ _ { tmps := List.toArray (_ :: _ :: .bool true :: _ :: _ :: _ :: _ :: _ :: _ :: _ :: _ :: _ :: _ :: _ :: _ :: _ :: _ :: _ :: _ :: _ :: _ :: _ :: _ :: _ :: _ :: _ :: _ :: _ :: _ :: _ :: _ :: _ :: _ :: _ :: _ :: _ :: _ :: _ :: _ :: _ :: _ :: _ :: _ :: _ :: _ :: _ :: _ :: _ :: _ :: _ :: _ :: _ :: _ :: _ :: _ :: _ :: _ :: _ :: _ :: _ :: _ :: _ :: _ :: _ :: _ :: _ :: _ :: _ :: _ :: _ :: _ :: _ :: _ :: _ :: _ :: _ :: _ :: _ :: _ :: _ :: _ :: _ :: _ :: _ :: _ :: _ :: _ :: _ :: _ :: _ :: _ :: _ :: _ :: _ :: _ :: _ :: _ :: _ :: _ :: _ :: _ :: _ :: _ :: _ :: _ :: _ :: _ :: _ :: _ :: .slice (some ⟨lb, 0, none⟩) 1 lc :: .int .i64 1 :: .bool true :: .bool true :: .int .i64 0 :: .bool true :: .bool true :: .bool true :: .slice (some ⟨lb, 0, none⟩) 1 lc :: .pointer (some ⟨lb, 0, none⟩) :: .agg #[.int .i64 q, .int .i64 k, .slice aL m pL] :: .agg #[.int .i64 q, .int .i64 k, .slice va m vc] :: .bool true :: .bool true :: .bool true :: .pointer (some ⟨w1.heap.size, 2, none⟩) :: .slice va m vc :: .int .i64 cr :: .pointer (some ⟨w1.heap.size, 2, none⟩) :: .slice va m vc :: .int .i64 cr :: .bool true :: .bool true :: []), defers := [] } _
      refine wpAnyH_done (by kernel_rfl) ?_ _
      go_wp2
      go_ret
      exact ⟨rfl, HB3⟩
end Go.Proofs.Ytgnohomplehacaa
