/- ReadStock of the model. -/
import Derived.Test.YtnddhpdhbmbikaaDoorSPU
import Derived.Deep.RegionHeld3
import Derived.Deep.Cut
import Derived.Deep.CutRange
import Derived.Deep.AppendLies
import Derived.Maps.AppendAt
namespace Go.Proofs.YtnddhpdhbmbikaaDoor
open Go.RowKit
theorem farCR {w w' : World} {r : Option Nat} (hg : w.grownBy w' r) {g o : Nat} {v : Value} (h : w.cell? ⟨g, o, none⟩ = some v) (hne : ∀ j, r = some j → g ≠ j) : w'.cell? ⟨g, o, none⟩ = some v := by
  have hb := hg.block g (cell_lt h) (fun e => hne g e.symm rfl)
  simp only [World.cell?] at h ⊢
  rw [hb]
  exact h
theorem own_apart15 {w : World} {B B' e e' sz sz' n n' : Nat} {v v' : Value} {xs xs' : List Value} (h : w.ownsRow B e sz v n xs) (h' : w.ownsRow B' e' sz' v' n' xs') (hne : e ≠ e') : ∀ k, v.ownBlock = some k → some k ≠ v'.ownBlock := by
  intro k hk e1
  rcases h.2 with ⟨rfl, _⟩ | ⟨g, cap, cur, rfl, _, hh, _⟩
  · simp [Value.ownBlock] at hk
  · rcases h'.2 with ⟨rfl, _⟩ | ⟨g', cap', cur', rfl, _, hh', _⟩
    · simp [Value.ownBlock] at e1
    · simp [Value.ownBlock] at hk e1
      subst hk
      subst e1
      rw [hh] at hh'
      simp at hh'
      exact hne hh'.2
theorem byte_at (l : List UInt8) (t : ByteArray) (ht : t = ⟨l.toArray⟩) (k : Nat) (hk : k < l.length) : ∀ h, ((t[k]'h).toNat : Int) = ((l.getD k 0).toNat : Int) := by
  subst ht
  intro h
  rw [indexR l k hk h]
set_option maxRecDepth 100000 in
set_option maxHeartbeats 6400000 in
theorem cReadS (l : List UInt8) (w : World) (hm : l.length ≤ 1048576) :
    Calls Tryd.prog 17 #[.string ⟨l.toArray⟩] w (RAns w l) := by
  obtain ⟨i0, hi, hz0, hz1, hz2⟩ := info_parts infoUs
  by_cases h45 : l = [45]
  · have hr : Hid (RdS l (some [])) := hide (.inl ⟨[], rfl, by decide, by rw [stock_nil, h45], by rw [h45]; simp⟩)
    have ht : (⟨l.toArray⟩ : ByteArray) = ⟨#[45]⟩ := by rw [h45]
    rw [ht]
    clear h45 ht
    go_enter Tryd.func17, Tryd.ntmps17
    go_wp2
    go_ret2
    exact ⟨Below.refl _ _, .inl ⟨[], _, hr.out, rfl, World.ownsRow_nil _ _ _ _⟩⟩
  obtain ⟨T, hT⟩ : ∃ T : ByteArray, T = ⟨l.toArray⟩ := ⟨_, rfl⟩
  have CSp := cSplit 43 43 (by decide) l
  rw [← hT] at CSp ⊢
  have hn45 : (T.toList == [45]) = false := by rw [hT, ByteArray.toList_eq, beq_eq_false_iff_ne]; exact h45
  have hsz : Hid (T.size = l.length) := hide (by rw [hT]; rfl)
  by_cases h120 : 120 < l.length
  · have hr : Hid (RdS l none) := hide (rdf_rdS (Rdf.long h120))
    have h1 : (120 : Int) < (T.size : Int) := by have := hsz.out; omega
    clear hT CSp
    go_enter Tryd.func17, Tryd.ntmps17
    go_wp2
    go_ret2
    exact ⟨Below.refl _ _, .inr ⟨hr.out, rfl⟩⟩
  have h1 : ¬ ((120 : Int) < (T.size : Int)) := by have := hsz.out; omega
  by_cases h0 : l = []
  · have hr : Hid (RdS l none) := hide (.inr ⟨rfl, fun _ _ _ => h0⟩)
    have he : T = ⟨#[]⟩ := by rw [hT, h0]
    subst he
    clear hT CSp h0 hn45 hsz h1
    go_enter Tryd.func17, Tryd.ntmps17
    go_wp2
    go_ret2
    exact ⟨Below.refl _ _, .inr ⟨hr.out, rfl⟩⟩
  have hne : T.toList.isEmpty = false := by
    rw [hT, ByteArray.toList_eq]
    cases hl : l with
    | nil => exact absurd hl h0
    | cons a b => rfl
  have hbad : Hid (∀ j, j < (splitL 43 l).length → (∀ x, uOk x = true → unitL x ≠ (splitL 43 l).getD j []) → RdS l none) := hide (fun j hj hb => rds_bad h0 h45 hj hb)
  have hend : Hid (∀ us, PcI (splitL 43 l) (splitL 43 l).length us → (formB us = true ∧ stockL us = l → RdS l (some us)) ∧ (¬ (formB us = true ∧ stockL us = l) → RdS l none)) := hide (fun us h => rds_end h h0 h45)
  have hpl : Hid ((splitL 43 l).length ≤ 121) := hide (by have := splitL_len 43 l; omega)
  have hpe : Hid (∀ p ∈ splitL 43 l, p.length ≤ 120) := hide (fun p hp => by have := splitL_each 43 l p hp; omega)
  generalize splitL 43 l = ps at *
  have hO := World.ownsRow_made (base := w.heap.size) (e := 34) (size := 4) w #[] 0 (by simp) (by unfold maxLen; omega) rfl
  have hb0 := balloc w (.cells #[] 34)
  replace hT := hide hT
  clear h45 h120 h0
  go_enter Tryd.func17, Tryd.ntmps17
  go_wp2_with fail
  generalize w.alloc (.cells #[] 34) = W0 at *
  refine (CSp _ hm).mono ?_
  rintro e w1 ⟨pa, pc, rfl, oP, hb⟩
  have oU := own_keep hO hb
  have HB := btrans hb0 hb
  have hpl' := hpl.out
  have hw0 := hb0.size
  have hb0s := hb.size
  replace oP := own_baseR oP hw0
  clear hO hb0 hb CSp
  go_wp2
  go_loopw [4, 6, 7, 8] (fun v ii _ _ wr => ∃ (i : Nat) (us : List UV), i ≤ ps.length ∧ ii = .int .i64 i ∧ Hid (PcI ps i us) ∧ wr.ownsRow w.heap.size 34 4 v i (flatUs us) ∧ Below w.heap.size w wr ∧ wr.ownsRow w.heap.size 9 1 (.slice pa ps.length pc) ps.length (strsL ps)) (fun _ ii _ _ _ => ps.length - (intOf ii).toNat)
  case atStart => exact ⟨0, [], Nat.zero_le _, rfl, hide ⟨rfl, fun j hj => by omega⟩, by simpa [flatUs] using oU, HB, oP⟩
  case round =>
    clear oP oU HB
    obtain ⟨i, us, hil, rfl, hI, ho, hb, oP⟩ := hrel
    obtain ⟨va, vc, rfl⟩ := own_form ho
    by_cases hlt : i < ps.length
    · have hi0 : (0 : Int) ≤ (i : Int) := by omega
      have hi1 : (i : Int) < (ps.length : Int) := by omega
      obtain ⟨pg, rfl, p0⟩ := strs_cell oP hlt
      have hpe1 := hpe.out (ps.getD i []) (by rw [show ps.getD i [] = ps[i] by simp [List.getD, hlt]]; exact List.getElem_mem hlt)
      have hbadi := hide (hbad.out i hlt)
      have hpush := hide (fun y => hI.out.push (y := y))
      obtain ⟨p, hp⟩ : ∃ p, ps.getD i [] = p := ⟨_, rfl⟩
      rw [hp] at p0 hpe1 hbadi hpush
      replace hp := hide hp
      obtain ⟨t, ht⟩ : ∃ t : ByteArray, t = ⟨p.toArray⟩ := ⟨_, rfl⟩
      rw [← ht] at p0
      have htz : t.size = p.length := by rw [ht]; rfl
      by_cases h5 : p.length < 5
      · have hr : Hid (RdS l none) := hide (hbadi.out (fun x hx e => by obtain ⟨_, _, _, _, _, _, _, h, _⟩ := piece_parts hx e; omega))
        have h5' : (t.size : Int) < 5 := by omega
        clear ht htz hI hbadi hpush
        go_wp2
        go_ret2
        exact ⟨hb, .inr ⟨hr.out, rfl⟩⟩
      have h5' : ¬ ((t.size : Int) < 5) := by omega
      obtain ⟨q, hq⟩ : ∃ q, p.length - 1 = q := ⟨_, rfl⟩
      have hwq : IntKind.i64.wrap ((t.size : Int) - 1) = (q : Int) := by rw [wrap_in _ (by omega) (by omega)]; omega
      have hq0 : (1 : Int) ≤ (q : Int) := by omega
      have hq1 : (q : Int) ≤ (t.size : Int) := by omega
      have hx := ext_piece p 1 q
      rw [← ht] at hx
      have CS2 := cSplit 47 47 (by decide) ((p.drop 1).take (q - 1))
      rw [← hx] at CS2
      have hm2 : ((p.drop 1).take (q - 1)).length ≤ 1048576 := by simp; omega
      have hPP := hide (fun x (hx : uOk x = true) (e : unitL x = p) => piece_parts hx e)
      rw [hq] at hPP
      have hC0 := byte_at p t ht 0 (by omega)
      have hC1 := byte_at p t ht q (by omega)
      obtain ⟨C0, hC0e⟩ : ∃ C0, (p.getD 0 0).toNat = C0 := ⟨_, rfl⟩
      obtain ⟨C1, hC1e⟩ : ∃ C1, (p.getD q 0).toNat = C1 := ⟨_, rfl⟩
      have hC0b : C0 < 256 := by rw [← hC0e]; exact UInt8.toNat_lt _
      rw [hC0e] at hC0
      rw [hC1e] at hC1
      rw [hC0e, hC1e] at hPP
      have hhl : Hid (∀ x ∈ splitL 47 ((p.drop 1).take (q - 1)), x.length ≤ 1048576) := hide (fun x hx => Nat.le_trans (splitL_each 47 _ x hx) hm2)
      generalize splitL 47 ((p.drop 1).take (q - 1)) = hs at *
      generalize ((p.drop 1).take (q - 1)) = mid at *
      have htz' := hide htz
      have hhx := hide hx
      have hq' := hide hq
      clear ht htz hx hq hC0e hC1e
      go_wp2_with fail
      refine (CS2 _ hm2).mono ?_
      rintro e w2 ⟨ha, hc, rfl, oH, hb2⟩
      have hbU := own_blk_lt ho
      replace p0 := ble hb2 p0
      replace ho := own_keep ho hb2
      replace oP := own_keep oP hb2
      have hsH := hb.size
      replace hb := btrans hb hb2
      have hbU0 := own_blk_lt ho
      clear hb2 CS2
      by_cases h2 : hs.length = 2
      · obtain ⟨hg, rfl, z0⟩ := strs_cell oH (j := 0) (by omega)
        obtain ⟨hg2, hge, z1⟩ := strs_cell oH (j := 1) (by omega)
        simp only [Option.some.injEq, Addr.mk.injEq, and_true] at hge
        subst hge
        have hbH := own_from oH (Nat.le_refl _) hg rfl
        have hbF := own_from ho (Nat.le_refl _)
        have hne43 := own_apart15 oP ho (by decide)
        obtain ⟨x0, x1, rfl⟩ : ∃ x0 x1, hs = [x0, x1] := by
          match hs, h2 with
          | [a, b], _ => exact ⟨a, b, rfl⟩
        change w2.cell? ⟨hg, 0, none⟩ = some (.string ⟨x0.toArray⟩) at z0
        change w2.cell? ⟨hg, 1, none⟩ = some (.string ⟨x1.toArray⟩) at z1
        have hx0l := hhl.out x0 (by simp)
        have hx1l := hhl.out x1 (by simp)
        have CN0 := fun W => cNumb x0 W hx0l
        have CN1 := fun W => cNumb x1 W hx1l
        obtain ⟨h0, hh0⟩ : ∃ h0 : ByteArray, h0 = ⟨x0.toArray⟩ := ⟨_, rfl⟩
        obtain ⟨h1', hh1⟩ : ∃ h1 : ByteArray, h1 = ⟨x1.toArray⟩ := ⟨_, rfl⟩
        rw [← hh0] at z0 CN0
        rw [← hh1] at z1 CN1
        obtain ⟨bb, hbb⟩ : ∃ bb, ((C1 : Int) == 60) = bb := ⟨_, rfl⟩
        have e0 : IntKind.i64.wrap (C0 : Int) = (C0 : Int) := wrap_in _ (by omega) (by omega)
        have e1 : IntKind.i64.wrap ((C0 : Int) - 64) = (C0 : Int) - 64 := wrap_in _ (by omega) (by omega)
        have i1 : (0 : Int) < (t.size : Int) := by omega
        have i2 : (q : Int) < (t.size : Int) := by have := htz'.out; have := hq'.out; omega
        have i3 : (0 : Int) ≤ (q : Int) := by omega
        have hte : ¬ (t = ByteArray.empty) := by intro e; rw [e] at i1; exact absurd i1 (by decide)
        have h0b : Below w2.heap.size w2 w2.drew := (Below.refl _ _).drew
        have hi31 : i ≤ 1000 := by omega
        clear hh0 hh1 hbadi oH
        go_upto_region 16 with fail
        refine wp_region_held_drew (S := (fun w' => w'.cell? ⟨hg, 0, none⟩ = some (.string h0) ∧ w'.cell? ⟨hg, 1, none⟩ = some (.string h1'))) (by kernel_rfl) ?_ (fun hHeld => ?_)
        · go_keep
        refine wpAnyH_take (i := 0) (v := .slice va i vc) rfl (by kernel_rfl) (by kernel_rfl) (by kernel_rfl) (fun _ _ _ h => h) (Or.inl ⟨by kernel_rfl, fun w hS => by go_simp⟩) hHeld ?_
        change wpAnyH _ _ _ _ _ _ _ { tmps := List.toArray (_ :: _ :: _ :: _ :: .slice va i vc :: _ :: _ :: .string t :: .slice (some ⟨hg, 0, none⟩) 2 hc :: _ :: _ :: _ :: _ :: _ :: _ :: _ :: _ :: _ :: _ :: _ :: _ :: _ :: _ :: _ :: _ :: _ :: _ :: _ :: _ :: _ :: _ :: _ :: _ :: _ :: _ :: _ :: _ :: _ :: _ :: _ :: _ :: _ :: _ :: .slice va i vc :: _ :: _ :: _ :: _ :: _ :: _ :: _ :: _ :: _ :: _ :: _ :: _ :: _ :: _ :: _ :: _ :: _ :: _ :: _ :: _ :: _ :: _ :: _ :: _ :: _ :: _ :: _ :: _ :: _ :: _ :: _ :: []), defers := [] } _
        refine wpAnyH_take (i := 1) (v := .slice (some ⟨hg, 0, none⟩) 2 hc) rfl (by kernel_rfl) (by kernel_rfl) (by kernel_rfl) (fun _ _ _ h => h) (Or.inl ⟨by kernel_rfl, fun w hS => by go_simp⟩) hHeld ?_
        change wpAnyH _ _ _ _ _ _ _ { tmps := List.toArray (_ :: _ :: _ :: _ :: .slice va i vc :: _ :: _ :: .string t :: .slice (some ⟨hg, 0, none⟩) 2 hc :: _ :: _ :: _ :: _ :: _ :: _ :: _ :: _ :: _ :: _ :: _ :: _ :: _ :: _ :: _ :: _ :: _ :: _ :: _ :: _ :: _ :: _ :: _ :: _ :: _ :: _ :: _ :: _ :: _ :: _ :: _ :: _ :: _ :: _ :: .slice va i vc :: .slice (some ⟨hg, 0, none⟩) 2 hc :: _ :: _ :: _ :: _ :: _ :: _ :: _ :: _ :: _ :: _ :: _ :: _ :: _ :: _ :: _ :: _ :: _ :: _ :: _ :: _ :: _ :: _ :: _ :: _ :: _ :: _ :: _ :: _ :: _ :: _ :: []), defers := [] } _
        refine wpAnyH_take (i := 2) (v := .pointer (some ⟨hg, 0, none⟩)) rfl (by kernel_rfl) (by kernel_rfl) (by kernel_rfl) (fun _ _ _ h => h) (Or.inl ⟨by kernel_rfl, fun w hS => by go_simp⟩) hHeld ?_
        change wpAnyH _ _ _ _ _ _ _ { tmps := List.toArray (_ :: _ :: _ :: _ :: .slice va i vc :: _ :: _ :: .string t :: .slice (some ⟨hg, 0, none⟩) 2 hc :: _ :: _ :: _ :: _ :: _ :: _ :: _ :: _ :: _ :: _ :: _ :: _ :: _ :: _ :: _ :: _ :: _ :: _ :: _ :: _ :: _ :: _ :: _ :: _ :: _ :: _ :: _ :: _ :: _ :: _ :: _ :: _ :: _ :: _ :: .slice va i vc :: .slice (some ⟨hg, 0, none⟩) 2 hc :: .pointer (some ⟨hg, 0, none⟩) :: _ :: _ :: _ :: _ :: _ :: _ :: _ :: _ :: _ :: _ :: _ :: _ :: _ :: _ :: _ :: _ :: _ :: _ :: _ :: _ :: _ :: _ :: _ :: _ :: _ :: _ :: _ :: _ :: _ :: []), defers := [] } _
        refine wpAnyH_take (i := 3) (v := .string h0) rfl (by kernel_rfl) (by kernel_rfl) (by kernel_rfl) (fun _ _ _ h => h) (Or.inl ⟨by kernel_rfl, fun w hS => by (obtain ⟨hS0, hS1⟩ := hS; go_simp)⟩) hHeld ?_
        change wpAnyH _ _ _ _ _ _ _ { tmps := List.toArray (_ :: _ :: _ :: _ :: .slice va i vc :: _ :: _ :: .string t :: .slice (some ⟨hg, 0, none⟩) 2 hc :: _ :: _ :: _ :: _ :: _ :: _ :: _ :: _ :: _ :: _ :: _ :: _ :: _ :: _ :: _ :: _ :: _ :: _ :: _ :: _ :: _ :: _ :: _ :: _ :: _ :: _ :: _ :: _ :: _ :: _ :: _ :: _ :: _ :: _ :: .slice va i vc :: .slice (some ⟨hg, 0, none⟩) 2 hc :: .pointer (some ⟨hg, 0, none⟩) :: .string h0 :: _ :: _ :: _ :: _ :: _ :: _ :: _ :: _ :: _ :: _ :: _ :: _ :: _ :: _ :: _ :: _ :: _ :: _ :: _ :: _ :: _ :: _ :: _ :: _ :: _ :: _ :: _ :: _ :: []), defers := [] } _
        refine wpAnyH_take (i := 5) (v := .string t) rfl (by kernel_rfl) (by kernel_rfl) (by kernel_rfl) (fun _ _ _ h => h) (Or.inl ⟨by kernel_rfl, fun w hS => by go_simp⟩) hHeld ?_
        change wpAnyH _ _ _ _ _ _ _ { tmps := List.toArray (_ :: _ :: _ :: _ :: .slice va i vc :: _ :: _ :: .string t :: .slice (some ⟨hg, 0, none⟩) 2 hc :: _ :: _ :: _ :: _ :: _ :: _ :: _ :: _ :: _ :: _ :: _ :: _ :: _ :: _ :: _ :: _ :: _ :: _ :: _ :: _ :: _ :: _ :: _ :: _ :: _ :: _ :: _ :: _ :: _ :: _ :: _ :: _ :: _ :: _ :: .slice va i vc :: .slice (some ⟨hg, 0, none⟩) 2 hc :: .pointer (some ⟨hg, 0, none⟩) :: .string h0 :: _ :: .string t :: _ :: _ :: _ :: _ :: _ :: _ :: _ :: _ :: _ :: _ :: _ :: _ :: _ :: _ :: _ :: _ :: _ :: _ :: _ :: _ :: _ :: _ :: _ :: _ :: _ :: _ :: []), defers := [] } _
        refine wpAnyH_take (i := 6) (v := .int .u8 (C0 : Int)) rfl (by kernel_rfl) (by kernel_rfl) (by kernel_rfl) (fun _ _ _ h => h) (Or.inl ⟨by kernel_rfl, fun w hS => by go_simp⟩) hHeld ?_
        change wpAnyH _ _ _ _ _ _ _ { tmps := List.toArray (_ :: _ :: _ :: _ :: .slice va i vc :: _ :: _ :: .string t :: .slice (some ⟨hg, 0, none⟩) 2 hc :: _ :: _ :: _ :: _ :: _ :: _ :: _ :: _ :: _ :: _ :: _ :: _ :: _ :: _ :: _ :: _ :: _ :: _ :: _ :: _ :: _ :: _ :: _ :: _ :: _ :: _ :: _ :: _ :: _ :: _ :: _ :: _ :: _ :: _ :: .slice va i vc :: .slice (some ⟨hg, 0, none⟩) 2 hc :: .pointer (some ⟨hg, 0, none⟩) :: .string h0 :: _ :: .string t :: .int .u8 (C0 : Int) :: _ :: _ :: _ :: _ :: _ :: _ :: _ :: _ :: _ :: _ :: _ :: _ :: _ :: _ :: _ :: _ :: _ :: _ :: _ :: _ :: _ :: _ :: _ :: _ :: _ :: []), defers := [] } _
        refine wpAnyH_take (i := 7) (v := .int .i64 (C0 : Int)) rfl (by kernel_rfl) (by kernel_rfl) (by kernel_rfl) (fun _ _ _ h => h) (Or.inl ⟨by kernel_rfl, fun w hS => by go_simp⟩) hHeld ?_
        change wpAnyH _ _ _ _ _ _ _ { tmps := List.toArray (_ :: _ :: _ :: _ :: .slice va i vc :: _ :: _ :: .string t :: .slice (some ⟨hg, 0, none⟩) 2 hc :: _ :: _ :: _ :: _ :: _ :: _ :: _ :: _ :: _ :: _ :: _ :: _ :: _ :: _ :: _ :: _ :: _ :: _ :: _ :: _ :: _ :: _ :: _ :: _ :: _ :: _ :: _ :: _ :: _ :: _ :: _ :: _ :: _ :: _ :: .slice va i vc :: .slice (some ⟨hg, 0, none⟩) 2 hc :: .pointer (some ⟨hg, 0, none⟩) :: .string h0 :: _ :: .string t :: .int .u8 (C0 : Int) :: .int .i64 (C0 : Int) :: _ :: _ :: _ :: _ :: _ :: _ :: _ :: _ :: _ :: _ :: _ :: _ :: _ :: _ :: _ :: _ :: _ :: _ :: _ :: _ :: _ :: _ :: _ :: _ :: []), defers := [] } _
        refine wpAnyH_take (i := 8) (v := .int .i64 ((C0 : Int) - 64)) rfl (by kernel_rfl) (by kernel_rfl) (by kernel_rfl) (fun _ _ _ h => h) (Or.inl ⟨by kernel_rfl, fun w hS => by go_simp⟩) hHeld ?_
        change wpAnyH _ _ _ _ _ _ _ { tmps := List.toArray (_ :: _ :: _ :: _ :: .slice va i vc :: _ :: _ :: .string t :: .slice (some ⟨hg, 0, none⟩) 2 hc :: _ :: _ :: _ :: _ :: _ :: _ :: _ :: _ :: _ :: _ :: _ :: _ :: _ :: _ :: _ :: _ :: _ :: _ :: _ :: _ :: _ :: _ :: _ :: _ :: _ :: _ :: _ :: _ :: _ :: _ :: _ :: _ :: _ :: _ :: .slice va i vc :: .slice (some ⟨hg, 0, none⟩) 2 hc :: .pointer (some ⟨hg, 0, none⟩) :: .string h0 :: _ :: .string t :: .int .u8 (C0 : Int) :: .int .i64 (C0 : Int) :: .int .i64 ((C0 : Int) - 64) :: _ :: _ :: _ :: _ :: _ :: _ :: _ :: _ :: _ :: _ :: _ :: _ :: _ :: _ :: _ :: _ :: _ :: _ :: _ :: _ :: _ :: _ :: _ :: []), defers := [] } _
        refine wpAnyH_take (i := 9) (v := .slice (some ⟨hg, 0, none⟩) 2 hc) rfl (by kernel_rfl) (by kernel_rfl) (by kernel_rfl) (fun _ _ _ h => h) (Or.inl ⟨by kernel_rfl, fun w hS => by go_simp⟩) hHeld ?_
        change wpAnyH _ _ _ _ _ _ _ { tmps := List.toArray (_ :: _ :: _ :: _ :: .slice va i vc :: _ :: _ :: .string t :: .slice (some ⟨hg, 0, none⟩) 2 hc :: _ :: _ :: _ :: _ :: _ :: _ :: _ :: _ :: _ :: _ :: _ :: _ :: _ :: _ :: _ :: _ :: _ :: _ :: _ :: _ :: _ :: _ :: _ :: _ :: _ :: _ :: _ :: _ :: _ :: _ :: _ :: _ :: _ :: _ :: .slice va i vc :: .slice (some ⟨hg, 0, none⟩) 2 hc :: .pointer (some ⟨hg, 0, none⟩) :: .string h0 :: _ :: .string t :: .int .u8 (C0 : Int) :: .int .i64 (C0 : Int) :: .int .i64 ((C0 : Int) - 64) :: .slice (some ⟨hg, 0, none⟩) 2 hc :: _ :: _ :: _ :: _ :: _ :: _ :: _ :: _ :: _ :: _ :: _ :: _ :: _ :: _ :: _ :: _ :: _ :: _ :: _ :: _ :: _ :: _ :: []), defers := [] } _
        refine wpAnyH_take (i := 10) (v := .pointer (some ⟨hg, 1, none⟩)) rfl (by kernel_rfl) (by kernel_rfl) (by kernel_rfl) (fun _ _ _ h => h) (Or.inl ⟨by kernel_rfl, fun w hS => by go_simp⟩) hHeld ?_
        change wpAnyH _ _ _ _ _ _ _ { tmps := List.toArray (_ :: _ :: _ :: _ :: .slice va i vc :: _ :: _ :: .string t :: .slice (some ⟨hg, 0, none⟩) 2 hc :: _ :: _ :: _ :: _ :: _ :: _ :: _ :: _ :: _ :: _ :: _ :: _ :: _ :: _ :: _ :: _ :: _ :: _ :: _ :: _ :: _ :: _ :: _ :: _ :: _ :: _ :: _ :: _ :: _ :: _ :: _ :: _ :: _ :: _ :: .slice va i vc :: .slice (some ⟨hg, 0, none⟩) 2 hc :: .pointer (some ⟨hg, 0, none⟩) :: .string h0 :: _ :: .string t :: .int .u8 (C0 : Int) :: .int .i64 (C0 : Int) :: .int .i64 ((C0 : Int) - 64) :: .slice (some ⟨hg, 0, none⟩) 2 hc :: .pointer (some ⟨hg, 1, none⟩) :: _ :: _ :: _ :: _ :: _ :: _ :: _ :: _ :: _ :: _ :: _ :: _ :: _ :: _ :: _ :: _ :: _ :: _ :: _ :: _ :: _ :: []), defers := [] } _
        refine wpAnyH_take (i := 11) (v := .string h1') rfl (by kernel_rfl) (by kernel_rfl) (by kernel_rfl) (fun _ _ _ h => h) (Or.inl ⟨by kernel_rfl, fun w hS => by (obtain ⟨hS0, hS1⟩ := hS; go_simp)⟩) hHeld ?_
        change wpAnyH _ _ _ _ _ _ _ { tmps := List.toArray (_ :: _ :: _ :: _ :: .slice va i vc :: _ :: _ :: .string t :: .slice (some ⟨hg, 0, none⟩) 2 hc :: _ :: _ :: _ :: _ :: _ :: _ :: _ :: _ :: _ :: _ :: _ :: _ :: _ :: _ :: _ :: _ :: _ :: _ :: _ :: _ :: _ :: _ :: _ :: _ :: _ :: _ :: _ :: _ :: _ :: _ :: _ :: _ :: _ :: _ :: .slice va i vc :: .slice (some ⟨hg, 0, none⟩) 2 hc :: .pointer (some ⟨hg, 0, none⟩) :: .string h0 :: _ :: .string t :: .int .u8 (C0 : Int) :: .int .i64 (C0 : Int) :: .int .i64 ((C0 : Int) - 64) :: .slice (some ⟨hg, 0, none⟩) 2 hc :: .pointer (some ⟨hg, 1, none⟩) :: .string h1' :: _ :: _ :: _ :: _ :: _ :: _ :: _ :: _ :: _ :: _ :: _ :: _ :: _ :: _ :: _ :: _ :: _ :: _ :: _ :: _ :: []), defers := [] } _
        refine wpAnyH_take (i := 13) (v := .string t) rfl (by kernel_rfl) (by kernel_rfl) (by kernel_rfl) (fun _ _ _ h => h) (Or.inl ⟨by kernel_rfl, fun w hS => by go_simp⟩) hHeld ?_
        change wpAnyH _ _ _ _ _ _ _ { tmps := List.toArray (_ :: _ :: _ :: _ :: .slice va i vc :: _ :: _ :: .string t :: .slice (some ⟨hg, 0, none⟩) 2 hc :: _ :: _ :: _ :: _ :: _ :: _ :: _ :: _ :: _ :: _ :: _ :: _ :: _ :: _ :: _ :: _ :: _ :: _ :: _ :: _ :: _ :: _ :: _ :: _ :: _ :: _ :: _ :: _ :: _ :: _ :: _ :: _ :: _ :: _ :: .slice va i vc :: .slice (some ⟨hg, 0, none⟩) 2 hc :: .pointer (some ⟨hg, 0, none⟩) :: .string h0 :: _ :: .string t :: .int .u8 (C0 : Int) :: .int .i64 (C0 : Int) :: .int .i64 ((C0 : Int) - 64) :: .slice (some ⟨hg, 0, none⟩) 2 hc :: .pointer (some ⟨hg, 1, none⟩) :: .string h1' :: _ :: .string t :: _ :: _ :: _ :: _ :: _ :: _ :: _ :: _ :: _ :: _ :: _ :: _ :: _ :: _ :: _ :: _ :: _ :: _ :: []), defers := [] } _
        refine wpAnyH_take (i := 14) (v := .string t) rfl (by kernel_rfl) (by kernel_rfl) (by kernel_rfl) (fun _ _ _ h => h) (Or.inl ⟨by kernel_rfl, fun w hS => by go_simp⟩) hHeld ?_
        change wpAnyH _ _ _ _ _ _ _ { tmps := List.toArray (_ :: _ :: _ :: _ :: .slice va i vc :: _ :: _ :: .string t :: .slice (some ⟨hg, 0, none⟩) 2 hc :: _ :: _ :: _ :: _ :: _ :: _ :: _ :: _ :: _ :: _ :: _ :: _ :: _ :: _ :: _ :: _ :: _ :: _ :: _ :: _ :: _ :: _ :: _ :: _ :: _ :: _ :: _ :: _ :: _ :: _ :: _ :: _ :: _ :: _ :: .slice va i vc :: .slice (some ⟨hg, 0, none⟩) 2 hc :: .pointer (some ⟨hg, 0, none⟩) :: .string h0 :: _ :: .string t :: .int .u8 (C0 : Int) :: .int .i64 (C0 : Int) :: .int .i64 ((C0 : Int) - 64) :: .slice (some ⟨hg, 0, none⟩) 2 hc :: .pointer (some ⟨hg, 1, none⟩) :: .string h1' :: _ :: .string t :: .string t :: _ :: _ :: _ :: _ :: _ :: _ :: _ :: _ :: _ :: _ :: _ :: _ :: _ :: _ :: _ :: _ :: _ :: []), defers := [] } _
        refine wpAnyH_take (i := 15) (v := .int .i64 (t.size : Int)) rfl (by kernel_rfl) (by kernel_rfl) (by kernel_rfl) (fun _ _ _ h => h) (Or.inl ⟨by kernel_rfl, fun w hS => by go_simp⟩) hHeld ?_
        change wpAnyH _ _ _ _ _ _ _ { tmps := List.toArray (_ :: _ :: _ :: _ :: .slice va i vc :: _ :: _ :: .string t :: .slice (some ⟨hg, 0, none⟩) 2 hc :: _ :: _ :: _ :: _ :: _ :: _ :: _ :: _ :: _ :: _ :: _ :: _ :: _ :: _ :: _ :: _ :: _ :: _ :: _ :: _ :: _ :: _ :: _ :: _ :: _ :: _ :: _ :: _ :: _ :: _ :: _ :: _ :: _ :: _ :: .slice va i vc :: .slice (some ⟨hg, 0, none⟩) 2 hc :: .pointer (some ⟨hg, 0, none⟩) :: .string h0 :: _ :: .string t :: .int .u8 (C0 : Int) :: .int .i64 (C0 : Int) :: .int .i64 ((C0 : Int) - 64) :: .slice (some ⟨hg, 0, none⟩) 2 hc :: .pointer (some ⟨hg, 1, none⟩) :: .string h1' :: _ :: .string t :: .string t :: .int .i64 (t.size : Int) :: _ :: _ :: _ :: _ :: _ :: _ :: _ :: _ :: _ :: _ :: _ :: _ :: _ :: _ :: _ :: _ :: []), defers := [] } _
        refine wpAnyH_take (i := 16) (v := .int .i64 (q : Int)) rfl (by kernel_rfl) (by kernel_rfl) (by kernel_rfl) (fun _ _ _ h => h) (Or.inl ⟨by kernel_rfl, fun w hS => by go_simp⟩) hHeld ?_
        change wpAnyH _ _ _ _ _ _ _ { tmps := List.toArray (_ :: _ :: _ :: _ :: .slice va i vc :: _ :: _ :: .string t :: .slice (some ⟨hg, 0, none⟩) 2 hc :: _ :: _ :: _ :: _ :: _ :: _ :: _ :: _ :: _ :: _ :: _ :: _ :: _ :: _ :: _ :: _ :: _ :: _ :: _ :: _ :: _ :: _ :: _ :: _ :: _ :: _ :: _ :: _ :: _ :: _ :: _ :: _ :: _ :: _ :: .slice va i vc :: .slice (some ⟨hg, 0, none⟩) 2 hc :: .pointer (some ⟨hg, 0, none⟩) :: .string h0 :: _ :: .string t :: .int .u8 (C0 : Int) :: .int .i64 (C0 : Int) :: .int .i64 ((C0 : Int) - 64) :: .slice (some ⟨hg, 0, none⟩) 2 hc :: .pointer (some ⟨hg, 1, none⟩) :: .string h1' :: _ :: .string t :: .string t :: .int .i64 (t.size : Int) :: .int .i64 (q : Int) :: _ :: _ :: _ :: _ :: _ :: _ :: _ :: _ :: _ :: _ :: _ :: _ :: _ :: _ :: _ :: []), defers := [] } _
        refine wpAnyH_take (i := 17) (v := .int .u8 (C1 : Int)) rfl (by kernel_rfl) (by kernel_rfl) (by kernel_rfl) (fun _ _ _ h => h) (Or.inl ⟨by kernel_rfl, fun w hS => by go_simp⟩) hHeld ?_
        change wpAnyH _ _ _ _ _ _ _ { tmps := List.toArray (_ :: _ :: _ :: _ :: .slice va i vc :: _ :: _ :: .string t :: .slice (some ⟨hg, 0, none⟩) 2 hc :: _ :: _ :: _ :: _ :: _ :: _ :: _ :: _ :: _ :: _ :: _ :: _ :: _ :: _ :: _ :: _ :: _ :: _ :: _ :: _ :: _ :: _ :: _ :: _ :: _ :: _ :: _ :: _ :: _ :: _ :: _ :: _ :: _ :: _ :: .slice va i vc :: .slice (some ⟨hg, 0, none⟩) 2 hc :: .pointer (some ⟨hg, 0, none⟩) :: .string h0 :: _ :: .string t :: .int .u8 (C0 : Int) :: .int .i64 (C0 : Int) :: .int .i64 ((C0 : Int) - 64) :: .slice (some ⟨hg, 0, none⟩) 2 hc :: .pointer (some ⟨hg, 1, none⟩) :: .string h1' :: _ :: .string t :: .string t :: .int .i64 (t.size : Int) :: .int .i64 (q : Int) :: .int .u8 (C1 : Int) :: _ :: _ :: _ :: _ :: _ :: _ :: _ :: _ :: _ :: _ :: _ :: _ :: _ :: _ :: []), defers := [] } _
        refine wpAnyH_take (i := 18) (v := .bool bb) rfl (by kernel_rfl) (by kernel_rfl) (by kernel_rfl) (fun _ _ _ h => h) (Or.inl ⟨by kernel_rfl, fun w hS => by go_simp⟩) hHeld ?_
        change wpAnyH _ _ _ _ _ _ _ { tmps := List.toArray (_ :: _ :: _ :: _ :: .slice va i vc :: _ :: _ :: .string t :: .slice (some ⟨hg, 0, none⟩) 2 hc :: _ :: _ :: _ :: _ :: _ :: _ :: _ :: _ :: _ :: _ :: _ :: _ :: _ :: _ :: _ :: _ :: _ :: _ :: _ :: _ :: _ :: _ :: _ :: _ :: _ :: _ :: _ :: _ :: _ :: _ :: _ :: _ :: _ :: _ :: .slice va i vc :: .slice (some ⟨hg, 0, none⟩) 2 hc :: .pointer (some ⟨hg, 0, none⟩) :: .string h0 :: _ :: .string t :: .int .u8 (C0 : Int) :: .int .i64 (C0 : Int) :: .int .i64 ((C0 : Int) - 64) :: .slice (some ⟨hg, 0, none⟩) 2 hc :: .pointer (some ⟨hg, 1, none⟩) :: .string h1' :: _ :: .string t :: .string t :: .int .i64 (t.size : Int) :: .int .i64 (q : Int) :: .int .u8 (C1 : Int) :: .bool bb :: _ :: _ :: _ :: _ :: _ :: _ :: _ :: _ :: _ :: _ :: _ :: _ :: _ :: []), defers := [] } _
        refine wpAnyH_ready (rs := [4]) (by kernel_rfl) (by simp) ?_
        refine AllReadyH.cons rfl (fun KK hK => ?_) AllReadyH.nil
        go_simp
        go_wp2_with fail
        refine (CN0 _).mono ?_
        rintro e1 wa ⟨r1, rfl, hr1, hbx⟩
        have B1 := btrans h0b hbx
        clear hbx
        clear hHeld
        refine hK.out _ _ (⟨ble B1 z0, ble B1 z1⟩) (fun hHeld => ?_)
        clear hK KK
        change wpAnyH _ _ _ _ _ _ _ { tmps := List.toArray (_ :: _ :: _ :: _ :: .slice va i vc :: _ :: _ :: .string t :: .slice (some ⟨hg, 0, none⟩) 2 hc :: _ :: _ :: _ :: _ :: _ :: _ :: _ :: _ :: _ :: _ :: _ :: _ :: _ :: _ :: _ :: _ :: _ :: _ :: _ :: _ :: _ :: _ :: _ :: _ :: _ :: _ :: _ :: _ :: _ :: _ :: _ :: _ :: _ :: _ :: .slice va i vc :: .slice (some ⟨hg, 0, none⟩) 2 hc :: .pointer (some ⟨hg, 0, none⟩) :: .string h0 :: .int .i64 r1 :: .string t :: .int .u8 (C0 : Int) :: .int .i64 (C0 : Int) :: .int .i64 ((C0 : Int) - 64) :: .slice (some ⟨hg, 0, none⟩) 2 hc :: .pointer (some ⟨hg, 1, none⟩) :: .string h1' :: _ :: .string t :: .string t :: .int .i64 (t.size : Int) :: .int .i64 (q : Int) :: .int .u8 (C1 : Int) :: .bool bb :: _ :: _ :: _ :: _ :: _ :: _ :: _ :: _ :: _ :: _ :: _ :: _ :: _ :: []), defers := [] } _
        refine wpAnyH_ready (rs := [12]) (by kernel_rfl) (by simp) ?_
        refine AllReadyH.cons rfl (fun KK hK => ?_) AllReadyH.nil
        go_simp
        go_wp2_with fail
        refine (CN1 _).mono ?_
        rintro e1 wb ⟨r2, rfl, hr2, hbx⟩
        have B2 := btrans B1 hbx
        clear hbx
        clear hHeld
        refine hK.out _ _ (⟨ble B2 z0, ble B2 z1⟩) (fun hHeld => ?_)
        clear hK KK
        change wpAnyH _ _ _ _ _ _ _ { tmps := List.toArray (_ :: _ :: _ :: _ :: .slice va i vc :: _ :: _ :: .string t :: .slice (some ⟨hg, 0, none⟩) 2 hc :: _ :: _ :: _ :: _ :: _ :: _ :: _ :: _ :: _ :: _ :: _ :: _ :: _ :: _ :: _ :: _ :: _ :: _ :: _ :: _ :: _ :: _ :: _ :: _ :: _ :: _ :: _ :: _ :: _ :: _ :: _ :: _ :: _ :: _ :: .slice va i vc :: .slice (some ⟨hg, 0, none⟩) 2 hc :: .pointer (some ⟨hg, 0, none⟩) :: .string h0 :: .int .i64 r1 :: .string t :: .int .u8 (C0 : Int) :: .int .i64 (C0 : Int) :: .int .i64 ((C0 : Int) - 64) :: .slice (some ⟨hg, 0, none⟩) 2 hc :: .pointer (some ⟨hg, 1, none⟩) :: .string h1' :: .int .i64 r2 :: .string t :: .string t :: .int .i64 (t.size : Int) :: .int .i64 (q : Int) :: .int .u8 (C1 : Int) :: .bool bb :: _ :: _ :: _ :: _ :: _ :: _ :: _ :: _ :: _ :: _ :: _ :: _ :: _ :: []), defers := [] } _
        refine wpAnyH_take (i := 19) (v := .agg #[.int .i64 r1, .int .i64 ((C0 : Int) - 64), .int .i64 r2, .bool bb]) rfl (by kernel_rfl) (by kernel_rfl) (by kernel_rfl) (fun _ _ _ h => h) (Or.inl ⟨by kernel_rfl, fun w hS => by go_simp⟩) hHeld ?_
        change wpAnyH _ _ _ _ _ _ _ { tmps := List.toArray (_ :: _ :: _ :: _ :: .slice va i vc :: _ :: _ :: .string t :: .slice (some ⟨hg, 0, none⟩) 2 hc :: _ :: _ :: _ :: _ :: _ :: _ :: _ :: _ :: _ :: _ :: _ :: _ :: _ :: _ :: _ :: _ :: _ :: _ :: _ :: _ :: _ :: _ :: _ :: _ :: _ :: _ :: _ :: _ :: _ :: _ :: _ :: _ :: _ :: _ :: .slice va i vc :: .slice (some ⟨hg, 0, none⟩) 2 hc :: .pointer (some ⟨hg, 0, none⟩) :: .string h0 :: .int .i64 r1 :: .string t :: .int .u8 (C0 : Int) :: .int .i64 (C0 : Int) :: .int .i64 ((C0 : Int) - 64) :: .slice (some ⟨hg, 0, none⟩) 2 hc :: .pointer (some ⟨hg, 1, none⟩) :: .string h1' :: .int .i64 r2 :: .string t :: .string t :: .int .i64 (t.size : Int) :: .int .i64 (q : Int) :: .int .u8 (C1 : Int) :: .bool bb :: .agg #[.int .i64 r1, .int .i64 ((C0 : Int) - 64), .int .i64 r2, .bool bb] :: _ :: _ :: _ :: _ :: _ :: _ :: _ :: _ :: _ :: _ :: _ :: _ :: []), defers := [] } _
        refine wpAnyH_ready (rs := [20]) (by kernel_rfl) (by simp) ?_
        refine AllReadyH.cons rfl (fun KK hK => ?_) AllReadyH.nil
        go_simp
        have B3 := btrans B2 (balloc wb (.cells #[.int .i64 r1, .int .i64 ((C0 : Int) - 64), .int .i64 r2, .bool bb] 34))
        clear hHeld
        refine hK.out _ _ (⟨ble B3 z0, ble B3 z1⟩) (fun hHeld => ?_)
        clear hK KK
        change wpAnyH _ _ _ _ _ _ _ { tmps := List.toArray (_ :: _ :: _ :: _ :: .slice va i vc :: _ :: _ :: .string t :: .slice (some ⟨hg, 0, none⟩) 2 hc :: _ :: _ :: _ :: _ :: _ :: _ :: _ :: _ :: _ :: _ :: _ :: _ :: _ :: _ :: _ :: _ :: _ :: _ :: _ :: _ :: _ :: _ :: _ :: _ :: _ :: _ :: _ :: _ :: _ :: _ :: _ :: _ :: _ :: _ :: .slice va i vc :: .slice (some ⟨hg, 0, none⟩) 2 hc :: .pointer (some ⟨hg, 0, none⟩) :: .string h0 :: .int .i64 r1 :: .string t :: .int .u8 (C0 : Int) :: .int .i64 (C0 : Int) :: .int .i64 ((C0 : Int) - 64) :: .slice (some ⟨hg, 0, none⟩) 2 hc :: .pointer (some ⟨hg, 1, none⟩) :: .string h1' :: .int .i64 r2 :: .string t :: .string t :: .int .i64 (t.size : Int) :: .int .i64 (q : Int) :: .int .u8 (C1 : Int) :: .bool bb :: .agg #[.int .i64 r1, .int .i64 ((C0 : Int) - 64), .int .i64 r2, .bool bb] :: .slice (some ⟨wb.heap.size, 0, none⟩) 1 1 :: _ :: _ :: _ :: _ :: _ :: _ :: _ :: _ :: _ :: _ :: _ :: []), defers := [] } _
        refine wpAnyH_ready (rs := [21]) (by kernel_rfl) (by simp) ?_
        refine AllReadyH.cons rfl (fun KK hK => ?_) AllReadyH.nil
        refine step_append_lies _ (by rfl) _ _ _ (by rfl) w.heap.size 34 i0 (.agg #[.int .i64 0, .int .i64 0, .int .i64 0, .bool false]) 4 32 Tryd.underlying24 hi hz0 hz1 hz2 rfl (by decide) (.slice va i vc) i (flatUs us) (by rfl) (by exact (own_keep ho B2).alloc _) ⟨wb.heap.size, 0, none⟩ 1 1 [.int .i64 r1, .int .i64 ((C0 : Int) - 64), .int .i64 r2, .bool bb] rfl rfl (by exact World.news_of_block (one_block' wb _)) (by intro u hu; simp at hu; rcases hu with rfl | rfl | rfl | rfl <;> rfl) (by decide) (by unfold maxLen; omega) (by omega) (by have := (btrans hb B2).size; simp; omega) (wb.heap.size + 1) (by simp) ?_
        intro gg cap2 w9 hown hgrow hat hlt2
        clear hHeld
        have y0 := farCR hgrow (ble B3 z0) (fun j hj e => by have := hbU j hj; omega)
        have y1 := farCR hgrow (ble B3 z1) (fun j hj e => by have := hbU j hj; omega)
        have O9 : w9.ownsRow w.heap.size 34 4 (.slice (some ⟨gg, 0, none⟩) (i + 1) cap2) (i + 1) (flatUs (us ++ [⟨r1, (C0 : Int) - 64, r2, bb⟩])) := by
          rw [flatUs_app]
          exact hown
        have P9 := own_far (own_keep oP B3) hgrow hne43
        have B9 : Below w.heap.size w w9 := (btrans hb B3).grown hgrow (btrans hb B3).size hbF
        have hI9 : Hid (PcI ps (i + 1) (us ++ [⟨r1, (C0 : Int) - 64, r2, bb⟩])) := hide (hpush.out _ (fun x hx e => by
          obtain ⟨ii, cc, mm, hxe, a1, a2, a3, -, a5, a6, a7⟩ := hPP.out x hx e
          simp only [List.cons.injEq, and_true] at a5
          rw [hr1 ii a1 a5.1.symm, hr2 mm a3 a5.2.symm, hxe]
          have : (C0 : Int) - 64 = (cc : Int) := by omega
          rw [this]
          congr 1
          rw [← hbb]
          cases hxb : x.b
          · rw [hxb] at a7
            rw [beq_eq_false_iff_ne]; intro e60; exact absurd (a7.1 (by omega)) (by simp)
          · rw [beq_iff_eq]; have := a7.2 hxb; omega))
        refine hK.out _ _ (⟨y0, y1⟩) (fun hHeld => ?_)
        clear hK KK
        change wpAnyH _ _ _ _ _ _ _ { tmps := List.toArray (_ :: _ :: _ :: _ :: .slice va i vc :: _ :: _ :: .string t :: .slice (some ⟨hg, 0, none⟩) 2 hc :: _ :: _ :: _ :: _ :: _ :: _ :: _ :: _ :: _ :: _ :: _ :: _ :: _ :: _ :: _ :: _ :: _ :: _ :: _ :: _ :: _ :: _ :: _ :: _ :: _ :: _ :: _ :: _ :: _ :: _ :: _ :: _ :: _ :: _ :: .slice va i vc :: .slice (some ⟨hg, 0, none⟩) 2 hc :: .pointer (some ⟨hg, 0, none⟩) :: .string h0 :: .int .i64 r1 :: .string t :: .int .u8 (C0 : Int) :: .int .i64 (C0 : Int) :: .int .i64 ((C0 : Int) - 64) :: .slice (some ⟨hg, 0, none⟩) 2 hc :: .pointer (some ⟨hg, 1, none⟩) :: .string h1' :: .int .i64 r2 :: .string t :: .string t :: .int .i64 (t.size : Int) :: .int .i64 (q : Int) :: .int .u8 (C1 : Int) :: .bool bb :: .agg #[.int .i64 r1, .int .i64 ((C0 : Int) - 64), .int .i64 r2, .bool bb] :: .slice (some ⟨wb.heap.size, 0, none⟩) 1 1 :: .slice (some ⟨gg, 0, none⟩) (i + 1) cap2 :: _ :: _ :: _ :: _ :: _ :: _ :: _ :: _ :: _ :: _ :: []), defers := [] } _
        refine wpAnyH_take (i := 22) (v := .slice (some ⟨gg, 0, none⟩) (i + 1) cap2) rfl (by kernel_rfl) (by kernel_rfl) (by kernel_rfl) (fun _ _ _ h => h) (Or.inl ⟨by kernel_rfl, fun w hS => by go_simp⟩) hHeld ?_
        change wpAnyH _ _ _ _ _ _ _ { tmps := List.toArray (_ :: _ :: _ :: _ :: .slice (some ⟨gg, 0, none⟩) (i + 1) cap2 :: _ :: _ :: .string t :: .slice (some ⟨hg, 0, none⟩) 2 hc :: _ :: _ :: _ :: _ :: _ :: _ :: _ :: _ :: _ :: _ :: _ :: _ :: _ :: _ :: _ :: _ :: _ :: _ :: _ :: _ :: _ :: _ :: _ :: _ :: _ :: _ :: _ :: _ :: _ :: _ :: _ :: _ :: _ :: _ :: .slice va i vc :: .slice (some ⟨hg, 0, none⟩) 2 hc :: .pointer (some ⟨hg, 0, none⟩) :: .string h0 :: .int .i64 r1 :: .string t :: .int .u8 (C0 : Int) :: .int .i64 (C0 : Int) :: .int .i64 ((C0 : Int) - 64) :: .slice (some ⟨hg, 0, none⟩) 2 hc :: .pointer (some ⟨hg, 1, none⟩) :: .string h1' :: .int .i64 r2 :: .string t :: .string t :: .int .i64 (t.size : Int) :: .int .i64 (q : Int) :: .int .u8 (C1 : Int) :: .bool bb :: .agg #[.int .i64 r1, .int .i64 ((C0 : Int) - 64), .int .i64 r2, .bool bb] :: .slice (some ⟨wb.heap.size, 0, none⟩) 1 1 :: .slice (some ⟨gg, 0, none⟩) (i + 1) cap2 :: _ :: _ :: _ :: _ :: _ :: _ :: _ :: _ :: _ :: _ :: []), defers := [] } _
        refine wpAnyH_done (by kernel_rfl) ?_ _
        clear y0 y1 hown hgrow hat hlt2 B1 B2 B3 z0 z1 CN0 CN1 hr1 hr2 hPP hpush hI ho oP
        go_wp2
        go_roundw
        case rel => exact ⟨i + 1, _, by omega, by go_num, hI9, O9, B9, P9⟩
        case measure => simp [intOf]; omega
      · have hr : Hid (RdS l none) := hide (hbadi.out (fun x hx e => by obtain ⟨_, _, _, _, _, _, _, _, h, _⟩ := hPP.out x hx e; rw [h] at h2; exact h2 rfl))
        have h2' : ((hs.length : Int) != 2) = true := by simp; omega
        replace h2 := hide h2
        clear hI hbadi hpush hPP oH
        go_wp2
        go_ret2
        exact ⟨hb, .inr ⟨hr.out, rfl⟩⟩
    · obtain rfl : ps.length = i := by omega
      have hi1 : ¬ (((ps.length : Nat) : Int) < (ps.length : Int)) := by omega
      obtain ⟨hE1, hE2⟩ := hend.out us hI.out
      have hul : us.length = ps.length := hI.out.1
      have hU := Us.own ho
      have CF := cFormS va vc us wr hU (by unfold maxLen; omega)
      have CK := cStockS va vc us
      rw [hul] at CF CK
      cases hf : formB us
      · have hr : Hid (RdS l none) := hide (hE2 (fun h => by rw [h.1] at hf; cases hf))
        rw [hf] at CF
        clear hE1 hE2 hI hf CK
        go_wp2_with fail
        refine CF.mono ?_
        rintro e w2 ⟨rfl, hb2⟩
        go_wp2
        go_ret2
        exact ⟨btrans hb hb2, .inr ⟨hr.out, rfl⟩⟩
      · rw [hf] at CF
        go_wp2_with fail
        refine CF.mono ?_
        rintro e w2 ⟨rfl, hb2⟩
        replace hb := btrans hb hb2
        replace ho := own_keep ho hb2
        have CK2 := CK w2 (Us.own ho) (by unfold maxLen; omega)
        clear CF CK hU hb2
        go_wp2_with fail
        refine CK2.mono ?_
        rintro e w3 ⟨rfl, hb3⟩
        replace hb := btrans hb hb3
        replace ho := own_keep ho hb3
        unfold S
        by_cases hs : stockL us = l
        · have hr : Hid (RdS l (some us)) := hide (hE1 ⟨hf, hs⟩)
          have ht2 : (⟨(stockL us).toArray⟩ : ByteArray) = T := by rw [hs]; exact hT.out.symm
          rw [ht2]
          replace hul := hide hul
          clear hE1 hE2 hI hf hs ht2 hT CK2
          go_wp2
          go_ret2
          exact ⟨hb, .inl ⟨us, _, hr.out, rfl, by rw [hul.out]; exact ho⟩⟩
        · have hr : Hid (RdS l none) := hide (hE2 (fun h => hs h.2))
          have ht2 : ((⟨(stockL us).toArray⟩ : ByteArray).toList == T.toList) = false := by
            rw [beq_eq_false_iff_ne, hT.out, ByteArray.toList_eq, ByteArray.toList_eq]; simpa using hs
          generalize (⟨(stockL us).toArray⟩ : ByteArray) = u at *
          clear hE1 hE2 hI hf hs hT CK2
          go_wp2
          go_ret2
          exact ⟨hb, .inr ⟨hr.out, rfl⟩⟩
end Go.Proofs.YtnddhpdhbmbikaaDoor
