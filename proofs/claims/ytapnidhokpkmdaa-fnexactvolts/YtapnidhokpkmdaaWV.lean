/- The law of Volts. -/
import Derived.Test.YtapnidhokpkmdaaZH
namespace Go.Proofs.Ytapnidhokpkmdaa
open Go.RowKit Fl
theorem voltsC_le (v : C2) (l d : List C2) : (voltsC v l d).length ≤ 40 := by
  unfold voltsC
  split
  · rename_i h; simp [wireB] at h; simp; omega
  · simp
set_option maxRecDepth 20000 in
set_option maxHeartbeats 12800000 in
theorem walkVolts (v : ZV) (la : Option Addr) (lc : Nat) (ls : List ZV) (da : Option Addr) (dc : Nat) (ds : List ZV) (w : World) (hl : Zs w la ls) (nl : ls.length ≤ maxLen) (hd : Zs w da ds) (nd : ds.length ≤ maxLen) :
    Calls Try.prog 11 #[v.val, .slice la ls.length lc, .slice da ds.length dc] w fun e w' => e = .returned (.bool true) ∧ Below w.heap.size w w' := by
  obtain ⟨vr, vi⟩ := v
  unfold ZV.val
  have HB := balloc w (.cells #[.float .f64 vr, .float .f64 vi] 44)
  have A0 := one_block w (.cells #[.float .f64 vr, .float .f64 vi] 44)
  go_enter Try.func11, Try.ntmps11
  go_wp2_with fail
  generalize w.alloc (.cells #[.float .f64 vr, .float .f64 vi] 44) = wv at *
  refine (cSzZs la _ lc 1048576 _ (by omega) (by omega) nl).mono ?_
  rintro e w1 ⟨r1, rfl, hr, hw⟩
  subst w1
  rcases hr with rfl | ⟨hr, hr0⟩
  · go_wp2
    go_ret
    exact ⟨rfl, HB⟩
  have ll : ls.length ≤ 1048576 := by omega
  have hr51 : ¬ r1 < 0 := by omega
  have hr61 : r1 ≤ 1048576 := by omega
  have hr71 := hr0
  clear hr hr0
  go_wp2_with fail
  refine (cSzZs da _ dc r1 _ hr71 hr61 nd).mono ?_
  rintro e w2 ⟨r2, rfl, hr, hw⟩
  subst w2
  rcases hr with rfl | ⟨hr, hr0⟩
  · go_wp2
    go_ret
    exact ⟨rfl, HB⟩
  have ld : ds.length ≤ 1048576 := by omega
  have hr52 : ¬ r2 < 0 := by omega
  have hr62 : r2 ≤ 1048576 := by omega
  have hr72 := hr0
  clear hr hr0
  obtain ⟨⟨va0, va1⟩, -⟩ := twoC A0
  go_wp2_with fail
  refine (cToZ2 vr vi _).mono ?_
  rintro e w3 ⟨rfl, hb⟩
  clear va0 va1
  replace HB := btrans HB hb
  replace A0 := keepB hb A0
  clear hb
  go_wp2_with fail
  refine (cToZs la lc ls _ (hl.below HB) ll).mono ?_
  rintro e w4 ⟨gl0, rfl, Ol0, hgl0, hb⟩
  clear hgl0
  replace HB := btrans HB hb
  replace A0 := keepB hb A0
  clear hb
  go_wp2_with fail
  refine (cToZs da dc ds _ (hd.below HB) ld).mono ?_
  rintro e w5 ⟨gd0, rfl, Od0, hgd0, hb⟩
  clear hgd0
  replace HB := btrans HB hb
  replace Ol0 := own_keep Ol0 hb
  replace A0 := keepB hb A0
  clear hb
  go_wp2_with fail
  refine (cVoltsS ⟨vr, vi⟩ _ _ _ _ ls ds _ (Zs.of_owns Ol0) (Zs.of_owns Od0) (by unfold maxLen; omega)).mono ?_
  rintro e w6 ⟨vW, Ws, rfl, W, hW, hb⟩
  clear Ol0 Od0
  replace HB := btrans HB hb
  replace A0 := keepB hb A0
  clear hb
  have bW := own_blk_lt W
  obtain ⟨Wa, Wc, rfl⟩ := own_form W
  go_wp2_with fail
  refine (cToZs la lc ls _ (hl.below HB) ll).mono ?_
  rintro e w7 ⟨gl1, rfl, Ol1, hgl1, hb⟩
  have yl1 := hgl1
  replace hgl1 := hide hgl1
  have xl : gl1 < w7.heap.size := owns_lt Ol1
  have qW : ∀ k, (Value.slice Wa Ws.length Wc).ownBlock = some k → k < gl1 := fun k hk => by have := bW k hk; omega
  have ul1 : w.heap.size ≤ gl1 := by have := HB.size; omega
  have tl1 : w.heap.size < gl1 := by have := lt_of_block A0; omega
  clear yl1
  replace HB := btrans HB hb
  replace W := own_keep W hb
  replace A0 := keepB hb A0
  clear hb
  go_wp2_with fail
  refine (cToZs da dc ds _ (hd.below HB) ld).mono ?_
  rintro e w8 ⟨gd1, rfl, Od1, hgd1, hb⟩
  have yd1 := hgd1
  replace hgd1 := hide hgd1
  have xd : gd1 < w8.heap.size := owns_lt Od1
  have ud1 : w.heap.size ≤ gd1 := by have := HB.size; omega
  have td1 : w.heap.size < gd1 := by have := lt_of_block A0; omega
  clear yd1
  replace HB := btrans HB hb
  replace W := own_keep W hb
  replace Ol1 := own_keep Ol1 hb
  replace A0 := keepB hb A0
  clear hb
  obtain ⟨⟨va0, va1⟩, -⟩ := twoC A0
  go_wp2_with fail
  refine (cToZ2 vr vi _).mono ?_
  rintro e w9 ⟨rfl, hb⟩
  clear va0 va1
  replace HB := btrans HB hb
  replace W := own_keep W hb
  replace Ol1 := own_keep Ol1 hb
  replace Od1 := own_keep Od1 hb
  replace A0 := keepB hb A0
  clear hb
  have xz := owns_lt Od1
  go_wp2_with fail
  refine (cVoltsI ⟨vr, vi⟩ _ _ _ _ ls ds _ (Zs.of_owns Ol1) (Zs.of_owns Od1) (by unfold maxLen; omega)).mono ?_
  rintro e w10 ⟨vG, Gs, rfl, G, hG, hb⟩
  have qG : ∀ k, vG.ownBlock = some k → gd1 < k := fun k hk => by have := own_from G (Nat.le_refl _) k hk; omega
  replace HB := btrans HB hb
  replace W := own_keep W hb
  replace Ol1 := own_keep Ol1 hb
  replace Od1 := own_keep Od1 hb
  replace A0 := keepB hb A0
  clear hb
  obtain ⟨Ga, Gc, rfl⟩ := own_form G
  have hxx : gl1 < gd1 := by have := hgd1.out; omega
  have LW : Ws.length ≤ 1048576 := by have := voltsC_le (ZV.c ⟨vr, vi⟩) (cs ls) (cs ds); have h8 := congrArg List.length hW; rw [cs_len] at h8; omega
  have LG : Gs.length ≤ 1048576 := by have := voltsC_le (ZV.c ⟨vr, vi⟩) (cs ls) (cs ds); have h8 := congrArg List.length hG; rw [cs_len] at h8; omega
  go_wp2_with fail
  refine (cEqZs _ _ _ _ Gs Ws _ (Zs.own G) (Zs.own W) LG (hG.trans hW.symm)).mono ?_
  rintro e w11 ⟨rfl, hb⟩
  replace HB := btrans HB hb
  replace W := own_keep W hb
  replace Ol1 := own_keep Ol1 hb
  replace Od1 := own_keep Od1 hb
  replace G := own_keep G hb
  replace A0 := keepB hb A0
  clear hb
  go_wp2_with fail
  refine (cToZs la lc ls _ (hl.below HB) ll).mono ?_
  rintro e w12 ⟨g5, rfl, O5, hg5, hb⟩
  clear hg5
  replace HB := btrans HB hb
  replace W := own_keep W hb
  replace Ol1 := own_keep Ol1 hb
  replace Od1 := own_keep Od1 hb
  replace G := own_keep G hb
  replace A0 := keepB hb A0
  clear hb
  go_wp2_with fail
  refine (cEqZs _ _ _ _ ls ls _ (Zs.of_owns Ol1) (Zs.of_owns O5) ll rfl).mono ?_
  rintro e w13 ⟨rfl, hb⟩
  clear O5
  replace HB := btrans HB hb
  replace W := own_keep W hb
  replace Ol1 := own_keep Ol1 hb
  replace Od1 := own_keep Od1 hb
  replace G := own_keep G hb
  replace A0 := keepB hb A0
  clear hb
  go_wp2_with fail
  refine (cToZs da dc ds _ (hd.below HB) ld).mono ?_
  rintro e w14 ⟨g5, rfl, O5, hg5, hb⟩
  clear hg5
  replace HB := btrans HB hb
  replace W := own_keep W hb
  replace Ol1 := own_keep Ol1 hb
  replace Od1 := own_keep Od1 hb
  replace G := own_keep G hb
  replace A0 := keepB hb A0
  clear hb
  go_wp2_with fail
  refine (cEqZs _ _ _ _ ds ds _ (Zs.of_owns Od1) (Zs.of_owns O5) ld rfl).mono ?_
  rintro e w15 ⟨rfl, hb⟩
  clear O5
  replace HB := btrans HB hb
  replace W := own_keep W hb
  replace Ol1 := own_keep Ol1 hb
  replace Od1 := own_keep Od1 hb
  replace G := own_keep G hb
  replace A0 := keepB hb A0
  clear hb
  go_wp2_with fail
  refine (cMarkZsg _ gl1 _ ls ((1 : Int)) _ Ol1 ll (by omega) (by omega)).mono ?_
  rintro e w16 ⟨rfl, -, hg⟩
  clear Ol1
  replace HB := HB.grown hg HB.size (fun j e => by simp at e; omega)
  replace W := own_far W hg (fun k hk e => by have := qW k hk; simp at e; omega)
  replace Od1 := own_far Od1 hg (fun k hk e => by simp [Value.ownBlock] at hk; simp at e; omega)
  replace G := own_far G hg (fun k hk e => by have := qG k hk; simp at e; omega)
  replace A0 := (hg.block _ (lt_of_block A0) (fun e => by simp at e; omega)).trans A0
  clear hg
  go_wp2_with fail
  refine (cMarkZsg _ gd1 _ ds ((1 : Int) + 2 * ls.length) _ Od1 ld (by omega) (by omega)).mono ?_
  rintro e w17 ⟨rfl, -, hg⟩
  clear Od1
  replace HB := HB.grown hg HB.size (fun j e => by simp at e; omega)
  replace W := own_far W hg (fun k hk e => by have := qW k hk; simp at e; omega)
  replace G := own_far G hg (fun k hk e => by have := qG k hk; simp at e; omega)
  replace A0 := (hg.block _ (lt_of_block A0) (fun e => by simp at e; omega)).trans A0
  clear hg
  have hk9 : ¬ ((1 : Int) + 2 * ls.length + 2 * ds.length < 0) := by omega
  go_wp2_with fail
  refine (cEqZs _ _ _ _ Gs Ws _ (Zs.own G) (Zs.own W) LG (hG.trans hW.symm)).mono ?_
  rintro e w18 ⟨rfl, hb⟩
  replace HB := btrans HB hb
  replace W := own_keep W hb
  replace G := own_keep G hb
  replace A0 := keepB hb A0
  clear hb
  go_wp2_with fail
  refine (cMarkZs _ Gs.length _ Gs (1 : Int) _ (.inl G) LG (by omega) (by omega)).mono ?_
  rintro e w19 ⟨rfl, Q, rr, hg, hrr⟩
  clear G
  replace HB := HB.grown hg HB.size (fun j e => by have := qG j (hrr j e).2; omega)
  replace W := own_far W hg (fun k hk e => by have h1 := qW k hk; have h2 := qG k (hrr k e.symm).2; omega)
  replace A0 := (hg.block _ (lt_of_block A0) (fun e => by have h2 := qG _ (hrr _ e.symm).2; omega)).trans A0
  clear hg hrr rr
  have hqq : ¬ ((1 : Int) + 2 * Gs.length < 0) := by omega
  go_wp2_with fail
  refine (cHeldZs _ Gs.length _ (1 : Int) _ Q LG (by omega) (by omega)).mono ?_
  rintro e w20 ⟨rfl, hw⟩
  subst w20
  obtain ⟨⟨va0, va1⟩, -⟩ := twoC A0
  go_wp2_with fail
  refine (cToZ2 vr vi _).mono ?_
  rintro e w21 ⟨rfl, hb⟩
  clear va0 va1
  replace HB := btrans HB hb
  replace W := own_keep W hb
  replace A0 := keepB hb A0
  replace Q := Q.keep hb
  clear hb
  go_wp2_with fail
  refine (cToZs la lc ls _ (hl.below HB) ll).mono ?_
  rintro e w22 ⟨gl2, rfl, Ol2, hgl2, hb⟩
  clear hgl2
  replace HB := btrans HB hb
  replace W := own_keep W hb
  replace A0 := keepB hb A0
  replace Q := Q.keep hb
  clear hb
  go_wp2_with fail
  refine (cToZs da dc ds _ (hd.below HB) ld).mono ?_
  rintro e w23 ⟨gd2, rfl, Od2, hgd2, hb⟩
  clear hgd2
  replace HB := btrans HB hb
  replace W := own_keep W hb
  replace Ol2 := own_keep Ol2 hb
  replace A0 := keepB hb A0
  replace Q := Q.keep hb
  clear hb
  go_wp2_with fail
  refine (cVoltsI ⟨vr, vi⟩ _ _ _ _ ls ds _ (Zs.of_owns Ol2) (Zs.of_owns Od2) (by unfold maxLen; omega)).mono ?_
  rintro e w24 ⟨vH, Hs, rfl, H, hH, hb⟩
  clear Ol2 Od2
  replace HB := btrans HB hb
  replace W := own_keep W hb
  replace A0 := keepB hb A0
  replace Q := Q.keep hb
  clear hb
  obtain ⟨Ha, Hc, rfl⟩ := own_form H
  have LH : Hs.length ≤ 1048576 := by have := voltsC_le (ZV.c ⟨vr, vi⟩) (cs ls) (cs ds); have h8 := congrArg List.length hH; rw [cs_len] at h8; omega
  go_wp2_with fail
  refine (cEqZs _ _ _ _ Hs Ws _ (Zs.own H) (Zs.own W) LH (hH.trans hW.symm)).mono ?_
  rintro e w25 ⟨rfl, hb⟩
  replace HB := btrans HB hb
  replace W := own_keep W hb
  replace H := own_keep H hb
  replace A0 := keepB hb A0
  replace Q := Q.keep hb
  clear hb
  go_wp2_with fail
  refine (cHeldZs _ Gs.length _ (1 : Int) _ Q LG (by omega) (by omega)).mono ?_
  rintro e w26 ⟨rfl, hw⟩
  subst w26
  go_wp2
  go_ret
  exact ⟨rfl, HB⟩

end Go.Proofs.Ytapnidhokpkmdaa
