/- The train over the hump: tracks, and how they are coupled. -/
import Derived.Test.YtipechbhhpagiaaTR
import Derived.Test.YtipechbhhpagiaaLK
import Derived.Test.YtipechbhhpagiaaCA
namespace Go.Proofs.Ytipechbhhpagiaa
open Go.RowKit
def tks (b : Nat) (wt : Int) (xs : List Int) : List (List Int) := (List.range b).map (fun t => trk b wt t xs)
theorem tks_len (b : Nat) (wt : Int) (xs : List Int) : (tks b wt xs).length = b := by simp [tks]
theorem tks_at {b : Nat} {wt : Int} {xs : List Int} {t : Nat} (ht : t < b) : rwA (tks b wt xs) t = trk b wt t xs := by simp [rwA, tks, List.getD, ht]
theorem tks_nil (b : Nat) (wt : Int) : tks b wt [] = List.replicate b [] := by
  unfold tks trk
  apply List.ext_getElem
  · simp
  · intro i h1 h2; simp
theorem trk_snoc {b wt : Int} {t : Nat} {xs : List Int} {x : Int} : trk b wt t (xs ++ [x]) = if dg b wt x = (t : Int) then trk b wt t xs ++ [x] else trk b wt t xs := by
  unfold trk
  rw [List.filter_append]
  by_cases h : dg b wt x = (t : Int)
  · simp [h]
  · simp [h]
theorem tks_step {b : Nat} {wt : Int} {xs : List Int} {x : Int} {d : Nat} (hd : d < b) (he : dg b wt x = (d : Int)) : setR (tks b wt xs) d (trk b wt d xs ++ [x]) = tks b wt (xs ++ [x]) := by
  refine rows_ext (by rw [setR_len, tks_len, tks_len]) fun i hi => ?_
  rw [setR_len, tks_len] at hi
  rw [rwA_set (by rw [tks_len]; exact hd), tks_at hi, tks_at hi, trk_snoc]
  by_cases h : i = d
  · subst h; rw [if_pos rfl, if_pos he]
  · rw [if_neg h, if_neg (by omega)]
theorem trk_len {b wt : Int} {t : Nat} {xs : List Int} : (trk b wt t xs).length ≤ xs.length := List.length_filter_le ..
theorem infoSt : (Try.prog.info? 94).map (fun i => (i.zero, i.size, i.bytes)) = some (some (.agg #[.slice none 0 0]), 1, 24) := by kernel_rfl
set_option maxRecDepth 20000 in
set_option maxHeartbeats 6400000 in
theorem cOver (a : Option Addr) (cap b : Nat) (wt : Int) (zs : List Int) (w : World) (hz : Ints w a zs) (hT : trainB zs = true) (hb2 : 2 ≤ b) (hb10 : b ≤ 10) (hw1 : 1 ≤ wt) (hw9 : wt ≤ 100000000000000) :
    Calls Try.prog 64 #[.slice a zs.length cap, .int .i64 b, .int .i64 wt] w fun e w' => ∃ v, e = .returned v ∧ w'.ownsRow w.heap.size 3 1 v (humpL b wt zs).length (enc (humpL b wt zs)) ∧ Below w.heap.size w w' := by
  obtain ⟨i0, hi, hz0, hz1, hz2⟩ := info_parts infoSt
  have h40 := trainB_len hT
  go_enter Try.func64, Try.ntmps64
  go_wp2_with (at_make; refine wpList_make_full _ rfl _ _ 90 rfl w.heap.size 94 i0 (.agg #[.slice none 0 0]) 1 Try.underlying90 hi hz0 hz1 _ _ _ _ b rfl rfl rfl rfl (by rw [hz2]; omega) (by unfold maxLen; omega) (Nat.le_refl _) ?_; intro w1 hown hgrow)
  have hown' : w1.ownsRow w.heap.size 94 1 (.slice (some ⟨w.heap.size, 0, none⟩) b b) b (List.replicate b (.slice none 0 0)) := by
    simpa [toList_madeCells_one, Value.cells] using hown
  have hbel : Below w.heap.size w w1 := (Below.refl _ _).grown hgrow (Nat.le_refl _) (fun k hk => by cases hk)
  have T0 := TabR.made hown'
  rw [← tks_nil b wt] at T0
  have hs1 : w.heap.size < w1.heap.size := owns_lt hown'
  clear hown hgrow hown'
  generalize hTb : w.heap.size = T at *
  go_loopw [9, 17] (fun _ i wr => ∃ (k : Nat) (vs : List Value), k ≤ zs.length ∧ i = .int .i64 k ∧ TabR 94 T wr (.slice (some ⟨T, 0, none⟩) b b) vs (tks b wt (zs.take k)) ∧ Below T w wr) (fun _ i _ => zs.length - (intOf i).toNat)
  case atStart => exact ⟨0, _, Nat.zero_le _, rfl, T0, hbel⟩
  case round =>
    obtain ⟨k, vs, hk, rfl, hTab, hb⟩ := hrel
    by_cases hlt : k < zs.length
    · rcases hz with h | ⟨bb, off, rfl, hc⟩
      · simp [h] at hlt
      have q0 : wr.cell? ⟨bb, off + k, none⟩ = some (.int .i64 (zs.getD k 0)) := (hb.cell (p := ⟨bb, off + k, none⟩) (show bb < T by have := cell_lt (hc k hlt); omega)).trans (hc k hlt)
      have e0 : zs.getD k 0 = zs[k] := by simp [List.getD, hlt]
      rw [e0] at q0
      have hx := trainB_wag hT zs[k] (List.getElem_mem hlt)
      have hst := hide (List.take_succ_eq_append_getElem hlt)
      generalize zs[k] = x at *
      obtain ⟨d, hd⟩ : ∃ d : Nat, dg b wt x = (d : Int) := ⟨(dg b wt x).toNat, (Int.toNat_of_nonneg (show 0 ≤ dg b wt x from Int.emod_nonneg _ (by omega))).symm⟩
      have hdb : d < b := by have := Int.emod_lt_of_pos (x / wt) (show 0 < (b : Int) by omega); unfold dg at hd; omega
      have hvl := hTab.len
      rw [tks_len] at hvl
      have hvd : d < vs.length := by omega
      have hcd := hTab.cell hvd
      have hrd := hTab.each d hvd
      rw [tks_at hdb] at hrd
      have hTsz : T < wr.heap.size := by have := hb.size; have := owns_lt (show wr.ownsRow T 94 1 (.slice (some ⟨T, 0, none⟩) b b) b vs by have := hTab.own; rw [tks_len] at this; exact this); omega
      have hal := balloc wr (.cells #[.int .i64 x] 3)
      have hrd2 := hrd.below hal
      have hN : Ints (wr.alloc (.cells #[.int .i64 x] 3)) (some ⟨wr.heap.size, 0, none⟩) [x] := .inr ⟨wr.heap.size, 0, rfl, fun i hi => by
        obtain rfl : i = 0 := by simpa using hi
        simp⟩
      have hlen := trk_len (b := b) (wt := wt) (t := d) (xs := zs.take k)
      rw [List.length_take] at hlen
      obtain ⟨v2, w2, hrun, hrow, hgrow, hwhere⟩ := app_row hrd2 (some ⟨wr.heap.size, 0, none⟩) 1 hN (by simp; omega) (by rw [sz1]; omega)
      obtain ⟨a2, c2, rfl, -⟩ := hrow.form
      have hTab2 := hTab.below hal
      have hP := hTab2.put (by decide) hvd hgrow hrow (hwhere.imp id (fun e k hk => Nat.le_of_eq (by rw [e] at hk; exact Option.some.inj hk)))
      rw [tks_step hdb hd] at hP
      rw [← hst.out] at hP
      have hc2 : w2.cell? ⟨T, d, none⟩ = some vs[d] := by
        rw [World.cell?_of_block (w := wr.alloc (.cells #[.int .i64 x] 3)) (hgrow.block T (by rw [sz1]; omega) (fun e => hTab2.apart (by decide) d hvd T e.symm (by simp [Value.ownBlock])))]
        exact hTab2.cell hvd
      have hf2 : w2.frozen? ⟨T, d, none⟩ = false := by
        rw [World.frozen?_of_block (w := wr.alloc (.cells #[.int .i64 x] 3)) (hgrow.block T (by rw [sz1]; omega) (fun e => hTab2.apart (by decide) d hvd T e.symm (by simp [Value.ownBlock])))]
        exact (show (wr.alloc (.cells #[.int .i64 x] 3)).ownsRow T 94 1 (.slice (some ⟨T, 0, none⟩) b b) b vs by have := hTab2.own; rw [tks_len] at this; exact this).frozenAt d
      have hB2 := below_put (g := T) (j := d) (v2 := .slice a2 (trk b wt d (zs.take k) ++ [x]).length c2) (hb.trans (hal.mono (by omega))) (by rw [sz1]; omega) hgrow (fun k hk => (hrd2.blk k hk).1) (Nat.le_refl _)
      have CP := cPush T d vs[d] a2 _ c2 (some ⟨wr.heap.size, 0, none⟩) 1 1 _ w2 (hTab2.cell hvd) hrun hc2 hf2
      clear hTab2 hrow hgrow hwhere hrun hc2 hf2 hN hrd hrd2 hst hlen hal hTab hcd
      generalize (trk b wt d (zs.take k) ++ [x]).length = n2 at *
      generalize vs.set d (Value.slice a2 n2 c2) = vs2 at *
      have hdg : x / wt % b = (d : Int) := hd
      have hq0 : 0 ≤ x / wt := Int.ediv_nonneg (by omega) (by omega)
      have hq1 : x / wt ≤ 9999 := Int.le_trans (Int.ediv_le_self _ (by omega)) hx.2
      have e1 : x.tdiv wt = x / wt := Int.tdiv_eq_ediv_of_nonneg (by omega)
      have e2 : (x / wt).tmod b = (d : Int) := (Int.tmod_eq_emod_of_nonneg hq0).trans hdg
      have n1 : wt ≠ 0 := by omega
      have n2 : wt ≠ -1 := by omega
      have n3 : (b : Int) ≠ 0 := by omega
      have n4 : (b : Int) ≠ -1 := by omega
      clear hdg hd
      generalize x / wt = Q at *
      have v1 : IntKind.i64.wrap Q = Q := wrap_in _ (by omega) (by omega)
      have v2 : IntKind.i64.wrap (d : Int) = d := wrap_in _ (by omega) (by omega)
      go_wp2_with fail
      refine CP.mono ?_
      rintro e w5 ⟨rfl, rfl⟩
      go_wp2
      go_roundw
      case rel => exact ⟨k + 1, vs2, by omega, by go_num, hP, hB2⟩
      case measure => simp [intOf]; omega
    · obtain rfl : k = zs.length := by omega
      rw [List.take_length] at hTab
      have hCT : T < wr.heap.size := by have := hb.size; have := owns_lt (show wr.ownsRow T 94 1 (.slice (some ⟨T, 0, none⟩) b b) b vs by have := hTab.own; rw [tks_len] at this; exact this); omega
      have hvl := hTab.len
      rw [tks_len] at hvl
      replace hvl := hide hvl
      have hblk := heap_alloc_new wr (.cells #[.slice none 0 0] 94)
      have hal := balloc wr (.cells #[.slice none 0 0] 94)
      clear hz T0 hbel
      generalize wr = W at *
      generalize hC : W.heap.size = C at *
      have hTab2 : Hid (TabR 94 T W (.slice (some ⟨T, 0, none⟩) b b) vs (tks b wt zs)) := hide hTab
      clear hTab
      go_wp2
      go_loopw [12, 34] (fun _ i wr => ∃ (n : Nat) (vc : Value), n ≤ b ∧ i = .int .i64 n ∧ wr.heap[C]? = some (.cells #[vc] 94 (0, 0)) ∧ wr.ownsRow (C + 1) 3 1 vc (coup b wt zs n).length (enc (coup b wt zs n)) ∧ Below C W wr) (fun _ i _ => b - (intOf i).toNat)
      case atStart => exact ⟨0, .slice none 0 0, Nat.zero_le _, rfl, hblk, World.ownsRow_nil _ _ _ _, hal⟩
      case round =>
        obtain ⟨n, vc, hn, rfl, hCb, hO, hb5⟩ := hrel
        have hCs : C < wr.heap.size := lt_of_block hCb
        by_cases hnb : n < b
        · have hvn : n < vs.length := by have := hvl.out; omega
          have q0 : wr.cell? ⟨T, n, none⟩ = some vs[n] := (hb5.cell (p := ⟨T, n, none⟩) hCT).trans (hTab2.out.cell hvn)
          have hrn := hTab2.out.each n hvn
          rw [tks_at hnb] at hrn
          obtain ⟨ta, tc, htv, htI, -⟩ := hrn.form
          rw [htv] at q0
          have hI2 : Ints wr ta (trk b wt n zs) := htI.below (by rw [hC]; exact hb5)
          have hlen := trk_len (b := b) (wt := wt) (t := n) (xs := zs)
          clear htI hrn htv
          have hal5 := balloc wr (.cells #[.slice ta (trk b wt n zs).length tc] 94)
          have hOX := own_keep hO hal5
          have hIX := hI2.below hal5
          have hCX := (hal5.block C hCs).trans hCb
          have hcl := coup_len_le (b := b) (w := wt) (xs := zs) (by omega) n hn
          obtain ⟨v2, w2, hrun, hrow, hgrow, hwhere⟩ := app_own hOX ta tc hIX (by omega) (by rw [sz1]; omega)
          have hst : coup b wt zs n ++ trk b wt n zs = coup b wt zs (n + 1) := rfl
          rw [hst] at hrow
          obtain ⟨a2, c2, rfl⟩ := own_form hrow
          have hneC : ∀ k, vc.ownBlock = some k → C + 1 ≤ k := own_from hO (Nat.le_refl _)
          have hC2 : w2.heap[C]? = some (.cells #[vc] 94 (0, 0)) := (hgrow.block C (by rw [sz1]; omega) (fun e => by have := hneC C e.symm; omega)).trans hCX
          have hB3 := below_put (g := C) (j := 0) (v2 := .slice a2 (coup b wt zs (n + 1)).length c2) (hb5.trans (hal5.mono (by omega))) (by rw [sz1]; omega) hgrow (fun k hk => by have := hneC k hk; omega) (Nat.le_refl _)
          have hO3 := own_set (i := 0) (b := C) (u := .slice a2 (coup b wt zs (n + 1)).length c2) hrow (fun k hk e => by have := own_from hrow (Nat.le_refl _) k hk; omega)
          have hC3 : (w2.setCell ⟨C, 0, none⟩ (.slice a2 (coup b wt zs (n + 1)).length c2)).heap[C]? = some (.cells #[.slice a2 (coup b wt zs (n + 1)).length c2] 94 (0, 0)) := by
            rw [heap_setCell_same w2 C 0 _ _ _ hC2]; rfl
          have CP := cPush C 0 vc a2 _ c2 ta _ tc _ w2 (by rw [cell_blk hCX]; rfl) hrun (by rw [cell_blk hC2]; rfl) (frozen_of_row w2 C 0 _ _ hC2)
          clear hrun hrow hgrow hwhere hOX hIX hCX hneC hC2 hal5 hO hCb hI2 hst hcl
          generalize hN2 : (coup b wt zs (n + 1)).length = N2 at *
          replace hN2 := hide hN2
          go_wp2_with fail
          refine CP.mono ?_
          rintro e w5 ⟨rfl, rfl⟩
          go_wp2
          go_roundw
          case rel => exact ⟨n + 1, _, by omega, by go_num, hC3, by rw [hN2.out]; exact hO3, hB3⟩
          case measure => simp [intOf]; omega
        · obtain rfl : n = b := by omega
          have q0 : wr.cell? ⟨C, 0, none⟩ = some vc := by rw [cell_blk hCb]; rfl
          have hO9 := RowI.own_below (B' := T) hO (by omega)
          have hB9 : Below T w wr := hb.trans (hb5.mono (by omega))
          obtain ⟨va, vcc, rfl⟩ := own_form hO9
          clear hO hCb hb hb5 hal hblk
          go_wp2
          go_ret
          exact ⟨_, rfl, by rw [hTb]; exact hO9, by rw [hTb]; exact hB9⟩
end Go.Proofs.Ytipechbhhpagiaa
