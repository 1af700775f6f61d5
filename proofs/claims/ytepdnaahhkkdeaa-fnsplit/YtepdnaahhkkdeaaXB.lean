/- The walk of FnSplit. -/
import Derived.Test.YtepdnaahhkkdeaaDR
import Derived.Test.YtepdnaahhkkdeaaWS
import Derived.Deep.RegionHeld3
namespace Go.Proofs.Ytepdnaahhkkdeaa
open Go.RowKit
set_option maxHeartbeats 800000 in
theorem cSame (a1 a2 : Option Addr) (c1 c2 : Nat) (xs : List Int) (w : World) (h1 : Ints w a1 xs) (h2 : Ints w a2 xs) (hl1 : xs.length ≤ maxLen) :
    Calls Try.prog 41 #[.slice a1 xs.length c1, .slice a2 xs.length c2] w fun e w' => e = .returned (.bool true) ∧ Below w.heap.size w w' := by
  unfold maxLen at hl1
  go_enter Try.func41, Try.ntmps41
  go_wp2
  go_loopw [5] (fun i wr => ∃ k : Nat, k ≤ xs.length ∧ i = .int .i64 k ∧ Below w.heap.size w wr) (fun i _ => xs.length - (intOf i).toNat)
  case atStart => exact ⟨0, Nat.zero_le _, rfl, Below.refl _ _⟩
  case round =>
    obtain ⟨k, hk, rfl, hb⟩ := hrel
    by_cases hlt : k < xs.length
    · rcases h1 with h1 | ⟨b1, o1, rfl, hc1⟩
      · simp [h1] at hlt
      rcases h2 with h2 | ⟨b2, o2, rfl, hc2⟩
      · simp [h2] at hlt
      have hk1 := ble hb (hc1 k hlt)
      have hk2 := ble hb (hc2 k hlt)
      clear hc1 hc2
      generalize xs.getD k 0 = z at *
      go_wp2
      go_quiet (fail)
      go_wp2
      go_roundw
      case rel => exact ⟨k + 1, by omega, by go_num, bdraw hb _⟩
      case measure => simp [intOf]; omega
    · go_wp2
      go_ret
      exact ⟨rfl, hb⟩
theorem cSamen (B1 B2 n : Nat) (v1 v2 : Value) (xs : List Int) (w : World) (hn : xs.length = n) (h1 : w.ownsRow B1 3 1 v1 n (xs.map (Value.int .i64))) (h2 : w.ownsRow B2 3 1 v2 n (xs.map (Value.int .i64))) (hl : n ≤ maxLen) :
    Calls Try.prog 41 #[v1, v2] w fun e w' => e = .returned (.bool true) ∧ Below w.heap.size w w' := by
  obtain ⟨a1, c1, rfl⟩ := own_form h1
  obtain ⟨a2, c2, rfl⟩ := own_form h2
  subst hn
  exact cSame a1 a2 c1 c2 xs w (Ints.own h1 rfl) (Ints.own h2 rfl) hl
/-- What the first tickets of the cut cost. -/
def paid (p : Nat → Nat → Int) (N : Nat → Nat) : Nat → Int
  | 0 => 0
  | t + 1 => paid p N t + p (it N t) (it N (t + 1))
theorem paid_at {p : Nat → Nat → Int} {e : Nat} {C K : Nat → Int} {N : Nat → Nat} (h : Bst p e C K N 0) : ∀ t, (∀ s, s < t → it N s < e) → paid p N t + C (it N t) = C 0 := by
  intro t
  induction t with
  | zero => intro _; simp [paid, it]
  | succ t ih =>
    intro g
    have a := ih fun s hs => g s (by omega)
    have b := (h.fd (it N t) (Nat.zero_le _) (g t (by omega))).2.2.1
    have e1 : it N (t + 1) = N (it N t) := rfl
    simp only [paid, e1]
    omega
theorem paid_in {p : Nat → Nat → Int} {e : Nat} {C K : Nat → Int} {N : Nat → Nat} (h : Bst p e C K N 0) (hp : Prc p e) (t : Nat) (g : ∀ s, s < t → it N s < e) : 0 ≤ paid p N t ∧ paid p N t ≤ 4000000 := by
  have a := paid_at h t g
  have u := it_up h t g
  have b := h.bounds hp (e - it N t) (it N t) (by omega) (Nat.zero_le _)
  have c := h.bounds hp e 0 (by omega) (Nat.zero_le _)
  refine ⟨?_, by omega⟩
  have : ∀ t, (∀ s, s < t → it N s < e) → 0 ≤ paid p N t := by
    intro t
    induction t with
    | zero => intro _; exact Int.le_refl _
    | succ t ih =>
      intro g
      have a := ih fun s hs => g s (by omega)
      have u := it_up h (t + 1) g
      have u2 := it_up h t fun s hs => g s (by omega)
      have := hp (it N t) (it N (t + 1)) (by omega) (by omega)
      simp only [paid]
      omega
  exact this t g
theorem split_through {p : Nat → Nat → Int} {e : Nat} {C K : Nat → Int} {N : Nat → Nat} (h : Bst p e C K N 0) (he : 0 < e) : C 0 ≤ p 0 e := by
  have := (h.fd 0 (Nat.zero_le _) he).2.2.2.2 e he (by omega)
  have := h.ce
  omega
theorem split_two {p : Nat → Nat → Int} {e : Nat} {C K : Nat → Int} {N : Nat → Nat} (h : Bst p e C K N 0) {k : Nat} (h0 : 0 < k) (hk : k < e) : C 0 ≤ p 0 k + p k e := by
  have a := (h.fd 0 (Nat.zero_le _) (by omega)).2.2.2.2 k h0 (by omega)
  have b := (h.fd k (Nat.zero_le _) hk).2.2.2.2 e hk (by omega)
  have := h.ce
  omega

set_option maxRecDepth 100000 in
set_option maxHeartbeats 12800000 in
theorem walkSplitD (a : Option Addr) (cap : Nat) (bs : List Int) (w : World) (hz : Bytes w a bs) (hm : bs.length ≤ maxLen) :
    Calls Try.prog 11 #[.slice a bs.length cap] w fun e w' => e = .returned (.bool true) ∧ Below w.heap.size w w' := by
  by_cases hbig : 1048576 < bs.length
  · have hd : decide (1048576 < bs.length) = true := by simp [hbig]
    go_enter Try.func11, Try.ntmps11
    go_wp2_with fail
    refine (cbig a cap bs.length _ hm).mono ?_
    rintro e w1 ⟨rfl, hw⟩
    subst w1
    rw [hd]
    go_wp2
    go_ret
    exact ⟨rfl, Below.refl _ _⟩
  have hd : decide (1048576 < bs.length) = false := by simp; omega
  have hl : bs.length ≤ 1048576 := by omega
  go_enter Try.func11, Try.ntmps11
  go_wp2_with fail
  refine (cbig a cap bs.length _ hm).mono ?_
  rintro e w1 ⟨rfl, hw⟩
  subst w1
  rw [hd]
  clear hd hbig hm
  go_wp2_with fail
  refine (cDrawF cap a bs _ hz hl).mono ?_
  rintro e w1 ⟨b, s, r, m, js, zs, cs, vj, vc, vz, rfl, htf, hcd, hst, hmi, J, O, Z, HB⟩
  obtain ⟨ja, jc, rfl⟩ := own_form J
  obtain ⟨ca, cc, rfl⟩ := own_form O
  have sl := stops_len hst
  have hjl : js.length ≤ 1048576 := by have := (Tf.of htf).n; omega
  have hcl : cs.length ≤ 1048576 := by have := cards_len hcd; omega
  have hbx := balloc w1 (.cells #[.int .i64 b, .int .i64 s, .slice ja js.length jc, .int .i64 r] 27)
  have X := Bx4.new w1 (.int .i64 b) (.int .i64 s) (.slice ja js.length jc) (.int .i64 r) 27
  have HW := btrans HB hbx
  have JI := Ints.own (own_keep J hbx) rfl
  have OC := Cards.own (own_keep O hbx)
  have ZB := own_keep Z hbx
  rcases ZB.2 with ⟨_, h0⟩ | ⟨zg, zc, _, rfl, _⟩
  · omega
  have ZI := Ints.of_owns ZB
  have hZc := hide (fun i (hi : i < zs.length) => (int_at ZB hi).1)
  obtain ⟨e, hE⟩ : ∃ e : Nat, zs.length = e + 1 := ⟨zs.length - 1, by omega⟩
  have hp := prc_in hst htf hcd hmi
  rw [show zs.length - 1 = e by omega] at hp
  have hTT : throughV b s js r zs cs m = prc b s js r zs cs m 0 e := by simp only [throughV, hst, if_true, prc]; rw [show zs.length - 1 = e by omega]
  have hp0 := hp 0 e (by omega) (by omega)
  have hSA := hide (fun c l (h : SplitAns b s js r zs cs m c l) => show SplitA (prc b s js r zs cs m) e c l by
    rcases h with ⟨h1, _⟩ | ⟨_, h1⟩
    · rw [hTT] at h1; omega
    · rw [show zs.length - 1 = e by omega] at h1; exact h1)
  have hpp : Hid (∀ i j, prc b s js r zs cs m i j = cardedV b s js r (fareV b s js r (zs.getD i 0) (zs.getD j 0)) cs m) := hide (fun _ _ => rfl)
  have CSI := fun w' (h : Below (w1.alloc (.cells #[.int .i64 b, .int .i64 s, .slice ja js.length jc, .int .i64 r] 27)).heap.size (w1.alloc (.cells #[.int .i64 b, .int .i64 s, .slice ja js.length jc, .int .i64 r] 27)) w') => cSplitI b s r m js ja jc _ zc zs ca cc cs w' (JI.below h) hjl (ZI.below h) (by omega) (OC.below h) hcl
  have CSS := fun w' (h : Below (w1.alloc (.cells #[.int .i64 b, .int .i64 s, .slice ja js.length jc, .int .i64 r] 27)).heap.size (w1.alloc (.cells #[.int .i64 b, .int .i64 s, .slice ja js.length jc, .int .i64 r] 27)) w') => cSplitS b s r m js ja jc _ zc zs ca cc cs w' (JI.below h) hjl (ZI.below h) (by omega) (OC.below h) hcl
  have CTH := fun w' (h : Below (w1.alloc (.cells #[.int .i64 b, .int .i64 s, .slice ja js.length jc, .int .i64 r] 27)).heap.size (w1.alloc (.cells #[.int .i64 b, .int .i64 s, .slice ja js.length jc, .int .i64 r] 27)) w') => cThroughI b s r m js ja jc _ zc zs ca cc cs w' (JI.below h) hjl (ZI.below h) (by omega) (OC.below h) hcl
  rw [hTT] at CTH
  obtain ⟨Zf, Ff, CF, CD, hZd⟩ : ∃ (Zf : Nat → Int) (Ff : Nat → Nat → Int), (∀ (i j : Nat) w', Below (w1.alloc (.cells #[.int .i64 b, .int .i64 s, .slice ja js.length jc, .int .i64 r] 27)).heap.size (w1.alloc (.cells #[.int .i64 b, .int .i64 s, .slice ja js.length jc, .int .i64 r] 27)) w' → Calls Try.prog 18 #[.agg #[.int .i64 b, .int .i64 s, .slice ja js.length jc, .int .i64 r], .int .i64 (Zf i), .int .i64 (Zf j)] w' fun e w2 => e = .returned (.int .i64 (Ff i j)) ∧ Below w'.heap.size w' w2) ∧
      (∀ (i j : Nat) w', Below (w1.alloc (.cells #[.int .i64 b, .int .i64 s, .slice ja js.length jc, .int .i64 r] 27)).heap.size (w1.alloc (.cells #[.int .i64 b, .int .i64 s, .slice ja js.length jc, .int .i64 r] 27)) w' → Calls Try.prog 25 #[.agg #[.int .i64 b, .int .i64 s, .slice ja js.length jc, .int .i64 r], .int .i64 (Ff i j), .slice ca cs.length cc, .int .i64 m] w' fun e w2 => e = .returned (.int .i64 (prc b s js r zs cs m i j)) ∧ Below w'.heap.size w' w2) ∧
      (∀ i, i < zs.length → (w1.alloc (.cells #[.int .i64 b, .int .i64 s, .slice ja js.length jc, .int .i64 r] 27)).cell? ⟨zg, i, none⟩ = some (.int .i64 (Zf i))) :=
    ⟨fun i => zs.getD i 0, fun i j => fareV b s js r (zs.getD i 0) (zs.getD j 0), fun i j w' h => cFareI b s r _ _ js ja jc w' (JI.below h) hjl, fun i j w' h => cCardedI b s r _ m js ja jc ca cc cs w' (JI.below h) hjl (OC.below h) hcl, fun i hi => hZc.out i hi⟩
  replace hZc := hide hZd
  clear hZd
  have he20 : e ≤ 19 := by omega
  have he1 : 1 ≤ e := by omega
  have ve : (zs.length : Int) - 1 = (e : Int) := by omega
  have hez : (e : Int) < zs.length := by omega
  have hzn : 0 < zs.length := by omega
  clear htf hcd hst hmi hTT J O Z ZB ZI JI OC HB hbx hz sl hpp
  replace hE := hide hE
  obtain ⟨x0, x1, x2, x3⟩ := id X
  go_upto_region 4 with fail
  generalize (w1.alloc (.cells #[.int .i64 b, .int .i64 s, .slice ja js.length jc, .int .i64 r] 27)) = wB at *
  generalize w1.heap.size = tb at *
  generalize prc b s js r zs cs m = p at *
  have BB := Below.refl wB.heap.size wB
  go_wp2_with fail
  refine (CSI _ BB).mono ?_
  rintro e5 w2 ⟨C0, vg, L, rfl, SAns, OG, hb⟩
  obtain ⟨C, K, N, hB, hC0, k, rfl, hk, hke⟩ := hSA.out _ _ SAns
  replace BB := btrans BB hb
  have SAns := hide SAns
  clear hb x0 x1 x2 x3 CSI
  rw [pls_len] at OG
  obtain ⟨ga, gk, rfl⟩ := own_form OG
  have hc0 := hB.bounds hp e 0 (by omega) (Nat.zero_le _)
  have hct := split_through hB (by omega)
  rw [← hC0] at hc0 hct
  have hC0' := hide hC0
  clear hC0 hSA
  obtain ⟨x0, x1, x2, x3⟩ := X.c BB
  go_wp2_with fail
  refine (CTH _ BB).mono ?_
  rintro e5 w3 ⟨rfl, hb⟩
  replace BB := btrans BB hb
  replace OG := own_keep OG hb
  clear hb x0 x1 x2 x3 CTH
  have z0 := ble BB (hZc.out 0 hzn)
  have z1 := ble BB (hZc.out e (by omega))
  have CFz := CF 0 e
  have CDz := CD 0 e
  have BD := BB.drew
  have BD3 : Below w3.heap.size w3 w3.drew := (Below.refl _ _).drew
  have zb0 := hZc.out 0 hzn
  have zb1 := hZc.out e (by omega)
  have dn1 : decide (C0 < 0) = false := by simp; omega
  have dn2 : decide (p 0 e < C0) = false := by simp; omega
  have hn1 : ¬ C0 < 0 := by omega
  have hn2 : ¬ p 0 e < C0 := by omega
  have ve2 : IntKind.i64.wrap (e : Int) = e := wrap_in _ (by omega) (by omega)
  have he0 : (0 : Int) ≤ e := by omega
  obtain ⟨x0, x1, x2, x3⟩ := X.c BB
  go_wp2_with fail
  refine wp_region_held_drew (S := (fun w' => w'.cell? ⟨tb, 0, none⟩ = some (.int .i64 b) ∧ w'.cell? ⟨tb, 1, none⟩ = some (.int .i64 s) ∧ w'.cell? ⟨tb, 2, none⟩ = some (.slice ja js.length jc) ∧ w'.cell? ⟨tb, 3, none⟩ = some (.int .i64 r) ∧ w'.cell? ⟨zg, 0, none⟩ = some (.int .i64 (Zf 0)) ∧ w'.cell? ⟨zg, e, none⟩ = some (.int .i64 (Zf e)))) (by kernel_rfl) ?_ (fun hHeld => ?_)
  · go_keep
  refine wpAnyH_take (i := 0) (v := .int .i64 C0) rfl (by kernel_rfl) (by kernel_rfl) (by kernel_rfl) (fun _ _ _ h => h) (Or.inl ⟨by kernel_rfl, fun w hS => by go_simp⟩) hHeld ?_
  change wpAnyH _ _ _ _ _ _ _ { tmps := List.toArray (_ :: _ :: _ :: .pointer (some ⟨tb, 0, none⟩) :: .slice ca cs.length cc :: .slice (some ⟨zg, 0, none⟩) zs.length zc :: .int .i64 m :: .int .i64 C0 :: _ :: .int .i64 (p 0 e) :: _ :: _ :: _ :: _ :: _ :: _ :: _ :: _ :: _ :: _ :: _ :: _ :: _ :: _ :: _ :: _ :: _ :: _ :: _ :: _ :: _ :: _ :: _ :: _ :: _ :: _ :: _ :: _ :: _ :: _ :: .int .i64 C0 :: _ :: _ :: _ :: _ :: _ :: _ :: _ :: _ :: _ :: _ :: _ :: _ :: _ :: _ :: _ :: _ :: _ :: _ :: _ :: _ :: _ :: _ :: _ :: _ :: _ :: _ :: _ :: _ :: _ :: _ :: _ :: _ :: _ :: _ :: _ :: _ :: _ :: _ :: _ :: _ :: _ :: _ :: _ :: _ :: _ :: _ :: _ :: _ :: _ :: _ :: _ :: _ :: _ :: _ :: _ :: _ :: _ :: _ :: _ :: _ :: _ :: _ :: _ :: _ :: _ :: _ :: _ :: _ :: _ :: _ :: _ :: _ :: _ :: _ :: _ :: _ :: _ :: _ :: _ :: _ :: _ :: _ :: _ :: _ :: _ :: _ :: _ :: _ :: _ :: _ :: _ :: _ :: _ :: _ :: _ :: _ :: _ :: _ :: _ :: _ :: _ :: _ :: _ :: _ :: _ :: _ :: _ :: _ :: _ :: _ :: _ :: _ :: _ :: _ :: _ :: _ :: _ :: _ :: _ :: _ :: _ :: _ :: _ :: _ :: _ :: _ :: _ :: _ :: _ :: _ :: _ :: _ :: _ :: _ :: _ :: _ :: _ :: _ :: _ :: _ :: []), defers := [] } _
  refine wpAnyH_take (i := 1) (v := .bool false) rfl (by kernel_rfl) (by kernel_rfl) (by kernel_rfl) (fun _ _ _ h => h) (Or.inl ⟨by kernel_rfl, fun w hS => by go_simp⟩) hHeld ?_
  change wpAnyH _ _ _ _ _ _ _ { tmps := List.toArray (_ :: _ :: _ :: .pointer (some ⟨tb, 0, none⟩) :: .slice ca cs.length cc :: .slice (some ⟨zg, 0, none⟩) zs.length zc :: .int .i64 m :: .int .i64 C0 :: _ :: .int .i64 (p 0 e) :: _ :: _ :: _ :: _ :: _ :: _ :: _ :: _ :: _ :: _ :: _ :: _ :: _ :: _ :: _ :: _ :: _ :: _ :: _ :: _ :: _ :: _ :: _ :: _ :: _ :: _ :: _ :: _ :: _ :: _ :: .int .i64 C0 :: .bool false :: _ :: _ :: _ :: _ :: _ :: _ :: _ :: _ :: _ :: _ :: _ :: _ :: _ :: _ :: _ :: _ :: _ :: _ :: _ :: _ :: _ :: _ :: _ :: _ :: _ :: _ :: _ :: _ :: _ :: _ :: _ :: _ :: _ :: _ :: _ :: _ :: _ :: _ :: _ :: _ :: _ :: _ :: _ :: _ :: _ :: _ :: _ :: _ :: _ :: _ :: _ :: _ :: _ :: _ :: _ :: _ :: _ :: _ :: _ :: _ :: _ :: _ :: _ :: _ :: _ :: _ :: _ :: _ :: _ :: _ :: _ :: _ :: _ :: _ :: _ :: _ :: _ :: _ :: _ :: _ :: _ :: _ :: _ :: _ :: _ :: _ :: _ :: _ :: _ :: _ :: _ :: _ :: _ :: _ :: _ :: _ :: _ :: _ :: _ :: _ :: _ :: _ :: _ :: _ :: _ :: _ :: _ :: _ :: _ :: _ :: _ :: _ :: _ :: _ :: _ :: _ :: _ :: _ :: _ :: _ :: _ :: _ :: _ :: _ :: _ :: _ :: _ :: _ :: _ :: _ :: _ :: _ :: _ :: _ :: _ :: _ :: _ :: _ :: _ :: []), defers := [] } _
  refine wpAnyH_take (i := 2) (v := .bool false) rfl (by kernel_rfl) (by kernel_rfl) (by kernel_rfl) (fun _ _ _ h => h) (Or.inl ⟨by kernel_rfl, fun w hS => by go_simp⟩) hHeld ?_
  change wpAnyH _ _ _ _ _ _ _ { tmps := List.toArray (_ :: _ :: _ :: .pointer (some ⟨tb, 0, none⟩) :: .slice ca cs.length cc :: .slice (some ⟨zg, 0, none⟩) zs.length zc :: .int .i64 m :: .int .i64 C0 :: _ :: .int .i64 (p 0 e) :: _ :: _ :: _ :: _ :: _ :: _ :: _ :: _ :: _ :: _ :: _ :: _ :: _ :: _ :: _ :: _ :: _ :: _ :: _ :: _ :: _ :: _ :: _ :: _ :: _ :: _ :: _ :: _ :: _ :: _ :: .int .i64 C0 :: .bool false :: .bool false :: _ :: _ :: _ :: _ :: _ :: _ :: _ :: _ :: _ :: _ :: _ :: _ :: _ :: _ :: _ :: _ :: _ :: _ :: _ :: _ :: _ :: _ :: _ :: _ :: _ :: _ :: _ :: _ :: _ :: _ :: _ :: _ :: _ :: _ :: _ :: _ :: _ :: _ :: _ :: _ :: _ :: _ :: _ :: _ :: _ :: _ :: _ :: _ :: _ :: _ :: _ :: _ :: _ :: _ :: _ :: _ :: _ :: _ :: _ :: _ :: _ :: _ :: _ :: _ :: _ :: _ :: _ :: _ :: _ :: _ :: _ :: _ :: _ :: _ :: _ :: _ :: _ :: _ :: _ :: _ :: _ :: _ :: _ :: _ :: _ :: _ :: _ :: _ :: _ :: _ :: _ :: _ :: _ :: _ :: _ :: _ :: _ :: _ :: _ :: _ :: _ :: _ :: _ :: _ :: _ :: _ :: _ :: _ :: _ :: _ :: _ :: _ :: _ :: _ :: _ :: _ :: _ :: _ :: _ :: _ :: _ :: _ :: _ :: _ :: _ :: _ :: _ :: _ :: _ :: _ :: _ :: _ :: _ :: _ :: _ :: _ :: _ :: _ :: []), defers := [] } _
  refine wpAnyH_take (i := 3) (v := .int .i64 C0) rfl (by kernel_rfl) (by kernel_rfl) (by kernel_rfl) (fun _ _ _ h => h) (Or.inl ⟨by kernel_rfl, fun w hS => by go_simp⟩) hHeld ?_
  change wpAnyH _ _ _ _ _ _ _ { tmps := List.toArray (_ :: _ :: _ :: .pointer (some ⟨tb, 0, none⟩) :: .slice ca cs.length cc :: .slice (some ⟨zg, 0, none⟩) zs.length zc :: .int .i64 m :: .int .i64 C0 :: _ :: .int .i64 (p 0 e) :: _ :: _ :: _ :: _ :: _ :: _ :: _ :: _ :: _ :: _ :: _ :: _ :: _ :: _ :: _ :: _ :: _ :: _ :: _ :: _ :: _ :: _ :: _ :: _ :: _ :: _ :: _ :: _ :: _ :: _ :: .int .i64 C0 :: .bool false :: .bool false :: .int .i64 C0 :: _ :: _ :: _ :: _ :: _ :: _ :: _ :: _ :: _ :: _ :: _ :: _ :: _ :: _ :: _ :: _ :: _ :: _ :: _ :: _ :: _ :: _ :: _ :: _ :: _ :: _ :: _ :: _ :: _ :: _ :: _ :: _ :: _ :: _ :: _ :: _ :: _ :: _ :: _ :: _ :: _ :: _ :: _ :: _ :: _ :: _ :: _ :: _ :: _ :: _ :: _ :: _ :: _ :: _ :: _ :: _ :: _ :: _ :: _ :: _ :: _ :: _ :: _ :: _ :: _ :: _ :: _ :: _ :: _ :: _ :: _ :: _ :: _ :: _ :: _ :: _ :: _ :: _ :: _ :: _ :: _ :: _ :: _ :: _ :: _ :: _ :: _ :: _ :: _ :: _ :: _ :: _ :: _ :: _ :: _ :: _ :: _ :: _ :: _ :: _ :: _ :: _ :: _ :: _ :: _ :: _ :: _ :: _ :: _ :: _ :: _ :: _ :: _ :: _ :: _ :: _ :: _ :: _ :: _ :: _ :: _ :: _ :: _ :: _ :: _ :: _ :: _ :: _ :: _ :: _ :: _ :: _ :: _ :: _ :: _ :: _ :: _ :: []), defers := [] } _
  refine wpAnyH_take (i := 4) (v := .int .i64 (p 0 e)) rfl (by kernel_rfl) (by kernel_rfl) (by kernel_rfl) (fun _ _ _ h => h) (Or.inl ⟨by kernel_rfl, fun w hS => by go_simp⟩) hHeld ?_
  change wpAnyH _ _ _ _ _ _ _ { tmps := List.toArray (_ :: _ :: _ :: .pointer (some ⟨tb, 0, none⟩) :: .slice ca cs.length cc :: .slice (some ⟨zg, 0, none⟩) zs.length zc :: .int .i64 m :: .int .i64 C0 :: _ :: .int .i64 (p 0 e) :: _ :: _ :: _ :: _ :: _ :: _ :: _ :: _ :: _ :: _ :: _ :: _ :: _ :: _ :: _ :: _ :: _ :: _ :: _ :: _ :: _ :: _ :: _ :: _ :: _ :: _ :: _ :: _ :: _ :: _ :: .int .i64 C0 :: .bool false :: .bool false :: .int .i64 C0 :: .int .i64 (p 0 e) :: _ :: _ :: _ :: _ :: _ :: _ :: _ :: _ :: _ :: _ :: _ :: _ :: _ :: _ :: _ :: _ :: _ :: _ :: _ :: _ :: _ :: _ :: _ :: _ :: _ :: _ :: _ :: _ :: _ :: _ :: _ :: _ :: _ :: _ :: _ :: _ :: _ :: _ :: _ :: _ :: _ :: _ :: _ :: _ :: _ :: _ :: _ :: _ :: _ :: _ :: _ :: _ :: _ :: _ :: _ :: _ :: _ :: _ :: _ :: _ :: _ :: _ :: _ :: _ :: _ :: _ :: _ :: _ :: _ :: _ :: _ :: _ :: _ :: _ :: _ :: _ :: _ :: _ :: _ :: _ :: _ :: _ :: _ :: _ :: _ :: _ :: _ :: _ :: _ :: _ :: _ :: _ :: _ :: _ :: _ :: _ :: _ :: _ :: _ :: _ :: _ :: _ :: _ :: _ :: _ :: _ :: _ :: _ :: _ :: _ :: _ :: _ :: _ :: _ :: _ :: _ :: _ :: _ :: _ :: _ :: _ :: _ :: _ :: _ :: _ :: _ :: _ :: _ :: _ :: _ :: _ :: _ :: _ :: _ :: _ :: _ :: []), defers := [] } _
  refine wpAnyH_take (i := 5) (v := .bool false) rfl (by kernel_rfl) (by kernel_rfl) (by kernel_rfl) (fun _ _ _ h => h) (Or.inl ⟨by kernel_rfl, fun w hS => by go_simp⟩) hHeld ?_
  change wpAnyH _ _ _ _ _ _ _ { tmps := List.toArray (_ :: _ :: _ :: .pointer (some ⟨tb, 0, none⟩) :: .slice ca cs.length cc :: .slice (some ⟨zg, 0, none⟩) zs.length zc :: .int .i64 m :: .int .i64 C0 :: _ :: .int .i64 (p 0 e) :: _ :: _ :: _ :: _ :: _ :: _ :: _ :: _ :: _ :: _ :: _ :: _ :: _ :: _ :: _ :: _ :: _ :: _ :: _ :: _ :: _ :: _ :: _ :: _ :: _ :: _ :: _ :: _ :: _ :: _ :: .int .i64 C0 :: .bool false :: .bool false :: .int .i64 C0 :: .int .i64 (p 0 e) :: .bool false :: _ :: _ :: _ :: _ :: _ :: _ :: _ :: _ :: _ :: _ :: _ :: _ :: _ :: _ :: _ :: _ :: _ :: _ :: _ :: _ :: _ :: _ :: _ :: _ :: _ :: _ :: _ :: _ :: _ :: _ :: _ :: _ :: _ :: _ :: _ :: _ :: _ :: _ :: _ :: _ :: _ :: _ :: _ :: _ :: _ :: _ :: _ :: _ :: _ :: _ :: _ :: _ :: _ :: _ :: _ :: _ :: _ :: _ :: _ :: _ :: _ :: _ :: _ :: _ :: _ :: _ :: _ :: _ :: _ :: _ :: _ :: _ :: _ :: _ :: _ :: _ :: _ :: _ :: _ :: _ :: _ :: _ :: _ :: _ :: _ :: _ :: _ :: _ :: _ :: _ :: _ :: _ :: _ :: _ :: _ :: _ :: _ :: _ :: _ :: _ :: _ :: _ :: _ :: _ :: _ :: _ :: _ :: _ :: _ :: _ :: _ :: _ :: _ :: _ :: _ :: _ :: _ :: _ :: _ :: _ :: _ :: _ :: _ :: _ :: _ :: _ :: _ :: _ :: _ :: _ :: _ :: _ :: _ :: _ :: _ :: []), defers := [] } _
  refine wpAnyH_take (i := 6) (v := .bool false) rfl (by kernel_rfl) (by kernel_rfl) (by kernel_rfl) (fun _ _ _ h => h) (Or.inl ⟨by kernel_rfl, fun w hS => by go_simp⟩) hHeld ?_
  change wpAnyH _ _ _ _ _ _ _ { tmps := List.toArray (_ :: _ :: _ :: .pointer (some ⟨tb, 0, none⟩) :: .slice ca cs.length cc :: .slice (some ⟨zg, 0, none⟩) zs.length zc :: .int .i64 m :: .int .i64 C0 :: _ :: .int .i64 (p 0 e) :: _ :: _ :: _ :: _ :: _ :: _ :: _ :: _ :: _ :: _ :: _ :: _ :: _ :: _ :: _ :: _ :: _ :: _ :: _ :: _ :: _ :: _ :: _ :: _ :: _ :: _ :: _ :: _ :: _ :: _ :: .int .i64 C0 :: .bool false :: .bool false :: .int .i64 C0 :: .int .i64 (p 0 e) :: .bool false :: .bool false :: _ :: _ :: _ :: _ :: _ :: _ :: _ :: _ :: _ :: _ :: _ :: _ :: _ :: _ :: _ :: _ :: _ :: _ :: _ :: _ :: _ :: _ :: _ :: _ :: _ :: _ :: _ :: _ :: _ :: _ :: _ :: _ :: _ :: _ :: _ :: _ :: _ :: _ :: _ :: _ :: _ :: _ :: _ :: _ :: _ :: _ :: _ :: _ :: _ :: _ :: _ :: _ :: _ :: _ :: _ :: _ :: _ :: _ :: _ :: _ :: _ :: _ :: _ :: _ :: _ :: _ :: _ :: _ :: _ :: _ :: _ :: _ :: _ :: _ :: _ :: _ :: _ :: _ :: _ :: _ :: _ :: _ :: _ :: _ :: _ :: _ :: _ :: _ :: _ :: _ :: _ :: _ :: _ :: _ :: _ :: _ :: _ :: _ :: _ :: _ :: _ :: _ :: _ :: _ :: _ :: _ :: _ :: _ :: _ :: _ :: _ :: _ :: _ :: _ :: _ :: _ :: _ :: _ :: _ :: _ :: _ :: _ :: _ :: _ :: _ :: _ :: _ :: _ :: _ :: _ :: _ :: _ :: _ :: _ :: []), defers := [] } _
  refine wpAnyH_take (i := 7) (v := .bool false) rfl (by kernel_rfl) (by kernel_rfl) (by kernel_rfl) (fun _ _ _ h => h) (Or.inl ⟨by kernel_rfl, fun w hS => by go_simp⟩) hHeld ?_
  change wpAnyH _ _ _ _ _ _ _ { tmps := List.toArray (_ :: _ :: _ :: .pointer (some ⟨tb, 0, none⟩) :: .slice ca cs.length cc :: .slice (some ⟨zg, 0, none⟩) zs.length zc :: .int .i64 m :: .int .i64 C0 :: _ :: .int .i64 (p 0 e) :: _ :: _ :: _ :: _ :: _ :: _ :: _ :: _ :: _ :: _ :: _ :: _ :: _ :: _ :: _ :: _ :: _ :: _ :: _ :: _ :: _ :: _ :: _ :: _ :: _ :: _ :: _ :: _ :: _ :: _ :: .int .i64 C0 :: .bool false :: .bool false :: .int .i64 C0 :: .int .i64 (p 0 e) :: .bool false :: .bool false :: .bool false :: _ :: _ :: _ :: _ :: _ :: _ :: _ :: _ :: _ :: _ :: _ :: _ :: _ :: _ :: _ :: _ :: _ :: _ :: _ :: _ :: _ :: _ :: _ :: _ :: _ :: _ :: _ :: _ :: _ :: _ :: _ :: _ :: _ :: _ :: _ :: _ :: _ :: _ :: _ :: _ :: _ :: _ :: _ :: _ :: _ :: _ :: _ :: _ :: _ :: _ :: _ :: _ :: _ :: _ :: _ :: _ :: _ :: _ :: _ :: _ :: _ :: _ :: _ :: _ :: _ :: _ :: _ :: _ :: _ :: _ :: _ :: _ :: _ :: _ :: _ :: _ :: _ :: _ :: _ :: _ :: _ :: _ :: _ :: _ :: _ :: _ :: _ :: _ :: _ :: _ :: _ :: _ :: _ :: _ :: _ :: _ :: _ :: _ :: _ :: _ :: _ :: _ :: _ :: _ :: _ :: _ :: _ :: _ :: _ :: _ :: _ :: _ :: _ :: _ :: _ :: _ :: _ :: _ :: _ :: _ :: _ :: _ :: _ :: _ :: _ :: _ :: _ :: _ :: _ :: _ :: _ :: _ :: _ :: []), defers := [] } _
  refine wpAnyH_take (i := 8) (v := .int .i64 (p 0 e)) rfl (by kernel_rfl) (by kernel_rfl) (by kernel_rfl) (fun _ _ _ h => h) (Or.inl ⟨by kernel_rfl, fun w hS => by go_simp⟩) hHeld ?_
  change wpAnyH _ _ _ _ _ _ _ { tmps := List.toArray (_ :: _ :: _ :: .pointer (some ⟨tb, 0, none⟩) :: .slice ca cs.length cc :: .slice (some ⟨zg, 0, none⟩) zs.length zc :: .int .i64 m :: .int .i64 C0 :: _ :: .int .i64 (p 0 e) :: _ :: _ :: _ :: _ :: _ :: _ :: _ :: _ :: _ :: _ :: _ :: _ :: _ :: _ :: _ :: _ :: _ :: _ :: _ :: _ :: _ :: _ :: _ :: _ :: _ :: _ :: _ :: _ :: _ :: _ :: .int .i64 C0 :: .bool false :: .bool false :: .int .i64 C0 :: .int .i64 (p 0 e) :: .bool false :: .bool false :: .bool false :: .int .i64 (p 0 e) :: _ :: _ :: _ :: _ :: _ :: _ :: _ :: _ :: _ :: _ :: _ :: _ :: _ :: _ :: _ :: _ :: _ :: _ :: _ :: _ :: _ :: _ :: _ :: _ :: _ :: _ :: _ :: _ :: _ :: _ :: _ :: _ :: _ :: _ :: _ :: _ :: _ :: _ :: _ :: _ :: _ :: _ :: _ :: _ :: _ :: _ :: _ :: _ :: _ :: _ :: _ :: _ :: _ :: _ :: _ :: _ :: _ :: _ :: _ :: _ :: _ :: _ :: _ :: _ :: _ :: _ :: _ :: _ :: _ :: _ :: _ :: _ :: _ :: _ :: _ :: _ :: _ :: _ :: _ :: _ :: _ :: _ :: _ :: _ :: _ :: _ :: _ :: _ :: _ :: _ :: _ :: _ :: _ :: _ :: _ :: _ :: _ :: _ :: _ :: _ :: _ :: _ :: _ :: _ :: _ :: _ :: _ :: _ :: _ :: _ :: _ :: _ :: _ :: _ :: _ :: _ :: _ :: _ :: _ :: _ :: _ :: _ :: _ :: _ :: _ :: _ :: _ :: _ :: _ :: _ :: _ :: _ :: []), defers := [] } _
  refine wpAnyH_take (i := 9) (v := .agg #[.int .i64 b, .int .i64 s, .slice ja js.length jc, .int .i64 r]) rfl (by kernel_rfl) (by kernel_rfl) (by kernel_rfl) (fun _ _ _ h => h) (Or.inl ⟨by kernel_rfl, fun w hS => by (obtain ⟨hS0, hS1, hS2, hS3, hS4, hS5⟩ := hS; go_simp)⟩) hHeld ?_
  change wpAnyH _ _ _ _ _ _ _ { tmps := List.toArray (_ :: _ :: _ :: .pointer (some ⟨tb, 0, none⟩) :: .slice ca cs.length cc :: .slice (some ⟨zg, 0, none⟩) zs.length zc :: .int .i64 m :: .int .i64 C0 :: _ :: .int .i64 (p 0 e) :: _ :: _ :: _ :: _ :: _ :: _ :: _ :: _ :: _ :: _ :: _ :: _ :: _ :: _ :: _ :: _ :: _ :: _ :: _ :: _ :: _ :: _ :: _ :: _ :: _ :: _ :: _ :: _ :: _ :: _ :: .int .i64 C0 :: .bool false :: .bool false :: .int .i64 C0 :: .int .i64 (p 0 e) :: .bool false :: .bool false :: .bool false :: .int .i64 (p 0 e) :: .agg #[.int .i64 b, .int .i64 s, .slice ja js.length jc, .int .i64 r] :: _ :: _ :: _ :: _ :: _ :: _ :: _ :: _ :: _ :: _ :: _ :: _ :: _ :: _ :: _ :: _ :: _ :: _ :: _ :: _ :: _ :: _ :: _ :: _ :: _ :: _ :: _ :: _ :: _ :: _ :: _ :: _ :: _ :: _ :: _ :: _ :: _ :: _ :: _ :: _ :: _ :: _ :: _ :: _ :: _ :: _ :: _ :: _ :: _ :: _ :: _ :: _ :: _ :: _ :: _ :: _ :: _ :: _ :: _ :: _ :: _ :: _ :: _ :: _ :: _ :: _ :: _ :: _ :: _ :: _ :: _ :: _ :: _ :: _ :: _ :: _ :: _ :: _ :: _ :: _ :: _ :: _ :: _ :: _ :: _ :: _ :: _ :: _ :: _ :: _ :: _ :: _ :: _ :: _ :: _ :: _ :: _ :: _ :: _ :: _ :: _ :: _ :: _ :: _ :: _ :: _ :: _ :: _ :: _ :: _ :: _ :: _ :: _ :: _ :: _ :: _ :: _ :: _ :: _ :: _ :: _ :: _ :: _ :: _ :: _ :: _ :: _ :: _ :: _ :: _ :: _ :: []), defers := [] } _
  refine wpAnyH_take (i := 10) (v := .agg #[.int .i64 b, .int .i64 s, .slice ja js.length jc, .int .i64 r]) rfl (by kernel_rfl) (by kernel_rfl) (by kernel_rfl) (fun _ _ _ h => h) (Or.inl ⟨by kernel_rfl, fun w hS => by (obtain ⟨hS0, hS1, hS2, hS3, hS4, hS5⟩ := hS; go_simp)⟩) hHeld ?_
  change wpAnyH _ _ _ _ _ _ _ { tmps := List.toArray (_ :: _ :: _ :: .pointer (some ⟨tb, 0, none⟩) :: .slice ca cs.length cc :: .slice (some ⟨zg, 0, none⟩) zs.length zc :: .int .i64 m :: .int .i64 C0 :: _ :: .int .i64 (p 0 e) :: _ :: _ :: _ :: _ :: _ :: _ :: _ :: _ :: _ :: _ :: _ :: _ :: _ :: _ :: _ :: _ :: _ :: _ :: _ :: _ :: _ :: _ :: _ :: _ :: _ :: _ :: _ :: _ :: _ :: _ :: .int .i64 C0 :: .bool false :: .bool false :: .int .i64 C0 :: .int .i64 (p 0 e) :: .bool false :: .bool false :: .bool false :: .int .i64 (p 0 e) :: .agg #[.int .i64 b, .int .i64 s, .slice ja js.length jc, .int .i64 r] :: .agg #[.int .i64 b, .int .i64 s, .slice ja js.length jc, .int .i64 r] :: _ :: _ :: _ :: _ :: _ :: _ :: _ :: _ :: _ :: _ :: _ :: _ :: _ :: _ :: _ :: _ :: _ :: _ :: _ :: _ :: _ :: _ :: _ :: _ :: _ :: _ :: _ :: _ :: _ :: _ :: _ :: _ :: _ :: _ :: _ :: _ :: _ :: _ :: _ :: _ :: _ :: _ :: _ :: _ :: _ :: _ :: _ :: _ :: _ :: _ :: _ :: _ :: _ :: _ :: _ :: _ :: _ :: _ :: _ :: _ :: _ :: _ :: _ :: _ :: _ :: _ :: _ :: _ :: _ :: _ :: _ :: _ :: _ :: _ :: _ :: _ :: _ :: _ :: _ :: _ :: _ :: _ :: _ :: _ :: _ :: _ :: _ :: _ :: _ :: _ :: _ :: _ :: _ :: _ :: _ :: _ :: _ :: _ :: _ :: _ :: _ :: _ :: _ :: _ :: _ :: _ :: _ :: _ :: _ :: _ :: _ :: _ :: _ :: _ :: _ :: _ :: _ :: _ :: _ :: _ :: _ :: _ :: _ :: _ :: _ :: _ :: _ :: _ :: _ :: _ :: []), defers := [] } _
  refine wpAnyH_take (i := 11) (v := .slice (some ⟨zg, 0, none⟩) zs.length zc) rfl (by kernel_rfl) (by kernel_rfl) (by kernel_rfl) (fun _ _ _ h => h) (Or.inl ⟨by kernel_rfl, fun w hS => by go_simp⟩) hHeld ?_
  change wpAnyH _ _ _ _ _ _ _ { tmps := List.toArray (_ :: _ :: _ :: .pointer (some ⟨tb, 0, none⟩) :: .slice ca cs.length cc :: .slice (some ⟨zg, 0, none⟩) zs.length zc :: .int .i64 m :: .int .i64 C0 :: _ :: .int .i64 (p 0 e) :: _ :: _ :: _ :: _ :: _ :: _ :: _ :: _ :: _ :: _ :: _ :: _ :: _ :: _ :: _ :: _ :: _ :: _ :: _ :: _ :: _ :: _ :: _ :: _ :: _ :: _ :: _ :: _ :: _ :: _ :: .int .i64 C0 :: .bool false :: .bool false :: .int .i64 C0 :: .int .i64 (p 0 e) :: .bool false :: .bool false :: .bool false :: .int .i64 (p 0 e) :: .agg #[.int .i64 b, .int .i64 s, .slice ja js.length jc, .int .i64 r] :: .agg #[.int .i64 b, .int .i64 s, .slice ja js.length jc, .int .i64 r] :: .slice (some ⟨zg, 0, none⟩) zs.length zc :: _ :: _ :: _ :: _ :: _ :: _ :: _ :: _ :: _ :: _ :: _ :: _ :: _ :: _ :: _ :: _ :: _ :: _ :: _ :: _ :: _ :: _ :: _ :: _ :: _ :: _ :: _ :: _ :: _ :: _ :: _ :: _ :: _ :: _ :: _ :: _ :: _ :: _ :: _ :: _ :: _ :: _ :: _ :: _ :: _ :: _ :: _ :: _ :: _ :: _ :: _ :: _ :: _ :: _ :: _ :: _ :: _ :: _ :: _ :: _ :: _ :: _ :: _ :: _ :: _ :: _ :: _ :: _ :: _ :: _ :: _ :: _ :: _ :: _ :: _ :: _ :: _ :: _ :: _ :: _ :: _ :: _ :: _ :: _ :: _ :: _ :: _ :: _ :: _ :: _ :: _ :: _ :: _ :: _ :: _ :: _ :: _ :: _ :: _ :: _ :: _ :: _ :: _ :: _ :: _ :: _ :: _ :: _ :: _ :: _ :: _ :: _ :: _ :: _ :: _ :: _ :: _ :: _ :: _ :: _ :: _ :: _ :: _ :: _ :: _ :: _ :: _ :: _ :: _ :: []), defers := [] } _
  refine wpAnyH_take (i := 12) (v := .pointer (some ⟨zg, 0, none⟩)) rfl (by kernel_rfl) (by kernel_rfl) (by kernel_rfl) (fun _ _ _ h => h) (Or.inl ⟨by kernel_rfl, fun w hS => by go_simp⟩) hHeld ?_
  change wpAnyH _ _ _ _ _ _ _ { tmps := List.toArray (_ :: _ :: _ :: .pointer (some ⟨tb, 0, none⟩) :: .slice ca cs.length cc :: .slice (some ⟨zg, 0, none⟩) zs.length zc :: .int .i64 m :: .int .i64 C0 :: _ :: .int .i64 (p 0 e) :: _ :: _ :: _ :: _ :: _ :: _ :: _ :: _ :: _ :: _ :: _ :: _ :: _ :: _ :: _ :: _ :: _ :: _ :: _ :: _ :: _ :: _ :: _ :: _ :: _ :: _ :: _ :: _ :: _ :: _ :: .int .i64 C0 :: .bool false :: .bool false :: .int .i64 C0 :: .int .i64 (p 0 e) :: .bool false :: .bool false :: .bool false :: .int .i64 (p 0 e) :: .agg #[.int .i64 b, .int .i64 s, .slice ja js.length jc, .int .i64 r] :: .agg #[.int .i64 b, .int .i64 s, .slice ja js.length jc, .int .i64 r] :: .slice (some ⟨zg, 0, none⟩) zs.length zc :: .pointer (some ⟨zg, 0, none⟩) :: _ :: _ :: _ :: _ :: _ :: _ :: _ :: _ :: _ :: _ :: _ :: _ :: _ :: _ :: _ :: _ :: _ :: _ :: _ :: _ :: _ :: _ :: _ :: _ :: _ :: _ :: _ :: _ :: _ :: _ :: _ :: _ :: _ :: _ :: _ :: _ :: _ :: _ :: _ :: _ :: _ :: _ :: _ :: _ :: _ :: _ :: _ :: _ :: _ :: _ :: _ :: _ :: _ :: _ :: _ :: _ :: _ :: _ :: _ :: _ :: _ :: _ :: _ :: _ :: _ :: _ :: _ :: _ :: _ :: _ :: _ :: _ :: _ :: _ :: _ :: _ :: _ :: _ :: _ :: _ :: _ :: _ :: _ :: _ :: _ :: _ :: _ :: _ :: _ :: _ :: _ :: _ :: _ :: _ :: _ :: _ :: _ :: _ :: _ :: _ :: _ :: _ :: _ :: _ :: _ :: _ :: _ :: _ :: _ :: _ :: _ :: _ :: _ :: _ :: _ :: _ :: _ :: _ :: _ :: _ :: _ :: _ :: _ :: _ :: _ :: _ :: _ :: _ :: []), defers := [] } _
  refine wpAnyH_take (i := 13) (v := .int .i64 (Zf 0)) rfl (by kernel_rfl) (by kernel_rfl) (by kernel_rfl) (fun _ _ _ h => h) (Or.inl ⟨by kernel_rfl, fun w hS => by (obtain ⟨hS0, hS1, hS2, hS3, hS4, hS5⟩ := hS; go_simp)⟩) hHeld ?_
  change wpAnyH _ _ _ _ _ _ _ { tmps := List.toArray (_ :: _ :: _ :: .pointer (some ⟨tb, 0, none⟩) :: .slice ca cs.length cc :: .slice (some ⟨zg, 0, none⟩) zs.length zc :: .int .i64 m :: .int .i64 C0 :: _ :: .int .i64 (p 0 e) :: _ :: _ :: _ :: _ :: _ :: _ :: _ :: _ :: _ :: _ :: _ :: _ :: _ :: _ :: _ :: _ :: _ :: _ :: _ :: _ :: _ :: _ :: _ :: _ :: _ :: _ :: _ :: _ :: _ :: _ :: .int .i64 C0 :: .bool false :: .bool false :: .int .i64 C0 :: .int .i64 (p 0 e) :: .bool false :: .bool false :: .bool false :: .int .i64 (p 0 e) :: .agg #[.int .i64 b, .int .i64 s, .slice ja js.length jc, .int .i64 r] :: .agg #[.int .i64 b, .int .i64 s, .slice ja js.length jc, .int .i64 r] :: .slice (some ⟨zg, 0, none⟩) zs.length zc :: .pointer (some ⟨zg, 0, none⟩) :: .int .i64 (Zf 0) :: _ :: _ :: _ :: _ :: _ :: _ :: _ :: _ :: _ :: _ :: _ :: _ :: _ :: _ :: _ :: _ :: _ :: _ :: _ :: _ :: _ :: _ :: _ :: _ :: _ :: _ :: _ :: _ :: _ :: _ :: _ :: _ :: _ :: _ :: _ :: _ :: _ :: _ :: _ :: _ :: _ :: _ :: _ :: _ :: _ :: _ :: _ :: _ :: _ :: _ :: _ :: _ :: _ :: _ :: _ :: _ :: _ :: _ :: _ :: _ :: _ :: _ :: _ :: _ :: _ :: _ :: _ :: _ :: _ :: _ :: _ :: _ :: _ :: _ :: _ :: _ :: _ :: _ :: _ :: _ :: _ :: _ :: _ :: _ :: _ :: _ :: _ :: _ :: _ :: _ :: _ :: _ :: _ :: _ :: _ :: _ :: _ :: _ :: _ :: _ :: _ :: _ :: _ :: _ :: _ :: _ :: _ :: _ :: _ :: _ :: _ :: _ :: _ :: _ :: _ :: _ :: _ :: _ :: _ :: _ :: _ :: _ :: _ :: _ :: _ :: _ :: _ :: []), defers := [] } _
  refine wpAnyH_take (i := 14) (v := .slice (some ⟨zg, 0, none⟩) zs.length zc) rfl (by kernel_rfl) (by kernel_rfl) (by kernel_rfl) (fun _ _ _ h => h) (Or.inl ⟨by kernel_rfl, fun w hS => by go_simp⟩) hHeld ?_
  change wpAnyH _ _ _ _ _ _ _ { tmps := List.toArray (_ :: _ :: _ :: .pointer (some ⟨tb, 0, none⟩) :: .slice ca cs.length cc :: .slice (some ⟨zg, 0, none⟩) zs.length zc :: .int .i64 m :: .int .i64 C0 :: _ :: .int .i64 (p 0 e) :: _ :: _ :: _ :: _ :: _ :: _ :: _ :: _ :: _ :: _ :: _ :: _ :: _ :: _ :: _ :: _ :: _ :: _ :: _ :: _ :: _ :: _ :: _ :: _ :: _ :: _ :: _ :: _ :: _ :: _ :: .int .i64 C0 :: .bool false :: .bool false :: .int .i64 C0 :: .int .i64 (p 0 e) :: .bool false :: .bool false :: .bool false :: .int .i64 (p 0 e) :: .agg #[.int .i64 b, .int .i64 s, .slice ja js.length jc, .int .i64 r] :: .agg #[.int .i64 b, .int .i64 s, .slice ja js.length jc, .int .i64 r] :: .slice (some ⟨zg, 0, none⟩) zs.length zc :: .pointer (some ⟨zg, 0, none⟩) :: .int .i64 (Zf 0) :: .slice (some ⟨zg, 0, none⟩) zs.length zc :: _ :: _ :: _ :: _ :: _ :: _ :: _ :: _ :: _ :: _ :: _ :: _ :: _ :: _ :: _ :: _ :: _ :: _ :: _ :: _ :: _ :: _ :: _ :: _ :: _ :: _ :: _ :: _ :: _ :: _ :: _ :: _ :: _ :: _ :: _ :: _ :: _ :: _ :: _ :: _ :: _ :: _ :: _ :: _ :: _ :: _ :: _ :: _ :: _ :: _ :: _ :: _ :: _ :: _ :: _ :: _ :: _ :: _ :: _ :: _ :: _ :: _ :: _ :: _ :: _ :: _ :: _ :: _ :: _ :: _ :: _ :: _ :: _ :: _ :: _ :: _ :: _ :: _ :: _ :: _ :: _ :: _ :: _ :: _ :: _ :: _ :: _ :: _ :: _ :: _ :: _ :: _ :: _ :: _ :: _ :: _ :: _ :: _ :: _ :: _ :: _ :: _ :: _ :: _ :: _ :: _ :: _ :: _ :: _ :: _ :: _ :: _ :: _ :: _ :: _ :: _ :: _ :: _ :: _ :: _ :: _ :: _ :: _ :: _ :: _ :: _ :: []), defers := [] } _
  refine wpAnyH_take (i := 15) (v := .slice (some ⟨zg, 0, none⟩) zs.length zc) rfl (by kernel_rfl) (by kernel_rfl) (by kernel_rfl) (fun _ _ _ h => h) (Or.inl ⟨by kernel_rfl, fun w hS => by go_simp⟩) hHeld ?_
  change wpAnyH _ _ _ _ _ _ _ { tmps := List.toArray (_ :: _ :: _ :: .pointer (some ⟨tb, 0, none⟩) :: .slice ca cs.length cc :: .slice (some ⟨zg, 0, none⟩) zs.length zc :: .int .i64 m :: .int .i64 C0 :: _ :: .int .i64 (p 0 e) :: _ :: _ :: _ :: _ :: _ :: _ :: _ :: _ :: _ :: _ :: _ :: _ :: _ :: _ :: _ :: _ :: _ :: _ :: _ :: _ :: _ :: _ :: _ :: _ :: _ :: _ :: _ :: _ :: _ :: _ :: .int .i64 C0 :: .bool false :: .bool false :: .int .i64 C0 :: .int .i64 (p 0 e) :: .bool false :: .bool false :: .bool false :: .int .i64 (p 0 e) :: .agg #[.int .i64 b, .int .i64 s, .slice ja js.length jc, .int .i64 r] :: .agg #[.int .i64 b, .int .i64 s, .slice ja js.length jc, .int .i64 r] :: .slice (some ⟨zg, 0, none⟩) zs.length zc :: .pointer (some ⟨zg, 0, none⟩) :: .int .i64 (Zf 0) :: .slice (some ⟨zg, 0, none⟩) zs.length zc :: .slice (some ⟨zg, 0, none⟩) zs.length zc :: _ :: _ :: _ :: _ :: _ :: _ :: _ :: _ :: _ :: _ :: _ :: _ :: _ :: _ :: _ :: _ :: _ :: _ :: _ :: _ :: _ :: _ :: _ :: _ :: _ :: _ :: _ :: _ :: _ :: _ :: _ :: _ :: _ :: _ :: _ :: _ :: _ :: _ :: _ :: _ :: _ :: _ :: _ :: _ :: _ :: _ :: _ :: _ :: _ :: _ :: _ :: _ :: _ :: _ :: _ :: _ :: _ :: _ :: _ :: _ :: _ :: _ :: _ :: _ :: _ :: _ :: _ :: _ :: _ :: _ :: _ :: _ :: _ :: _ :: _ :: _ :: _ :: _ :: _ :: _ :: _ :: _ :: _ :: _ :: _ :: _ :: _ :: _ :: _ :: _ :: _ :: _ :: _ :: _ :: _ :: _ :: _ :: _ :: _ :: _ :: _ :: _ :: _ :: _ :: _ :: _ :: _ :: _ :: _ :: _ :: _ :: _ :: _ :: _ :: _ :: _ :: _ :: _ :: _ :: _ :: _ :: _ :: _ :: _ :: _ :: []), defers := [] } _
  refine wpAnyH_take (i := 16) (v := .int .i64 (zs.length : Int)) rfl (by kernel_rfl) (by kernel_rfl) (by kernel_rfl) (fun _ _ _ h => h) (Or.inl ⟨by kernel_rfl, fun w hS => by go_simp⟩) hHeld ?_
  change wpAnyH _ _ _ _ _ _ _ { tmps := List.toArray (_ :: _ :: _ :: .pointer (some ⟨tb, 0, none⟩) :: .slice ca cs.length cc :: .slice (some ⟨zg, 0, none⟩) zs.length zc :: .int .i64 m :: .int .i64 C0 :: _ :: .int .i64 (p 0 e) :: _ :: _ :: _ :: _ :: _ :: _ :: _ :: _ :: _ :: _ :: _ :: _ :: _ :: _ :: _ :: _ :: _ :: _ :: _ :: _ :: _ :: _ :: _ :: _ :: _ :: _ :: _ :: _ :: _ :: _ :: .int .i64 C0 :: .bool false :: .bool false :: .int .i64 C0 :: .int .i64 (p 0 e) :: .bool false :: .bool false :: .bool false :: .int .i64 (p 0 e) :: .agg #[.int .i64 b, .int .i64 s, .slice ja js.length jc, .int .i64 r] :: .agg #[.int .i64 b, .int .i64 s, .slice ja js.length jc, .int .i64 r] :: .slice (some ⟨zg, 0, none⟩) zs.length zc :: .pointer (some ⟨zg, 0, none⟩) :: .int .i64 (Zf 0) :: .slice (some ⟨zg, 0, none⟩) zs.length zc :: .slice (some ⟨zg, 0, none⟩) zs.length zc :: .int .i64 (zs.length : Int) :: _ :: _ :: _ :: _ :: _ :: _ :: _ :: _ :: _ :: _ :: _ :: _ :: _ :: _ :: _ :: _ :: _ :: _ :: _ :: _ :: _ :: _ :: _ :: _ :: _ :: _ :: _ :: _ :: _ :: _ :: _ :: _ :: _ :: _ :: _ :: _ :: _ :: _ :: _ :: _ :: _ :: _ :: _ :: _ :: _ :: _ :: _ :: _ :: _ :: _ :: _ :: _ :: _ :: _ :: _ :: _ :: _ :: _ :: _ :: _ :: _ :: _ :: _ :: _ :: _ :: _ :: _ :: _ :: _ :: _ :: _ :: _ :: _ :: _ :: _ :: _ :: _ :: _ :: _ :: _ :: _ :: _ :: _ :: _ :: _ :: _ :: _ :: _ :: _ :: _ :: _ :: _ :: _ :: _ :: _ :: _ :: _ :: _ :: _ :: _ :: _ :: _ :: _ :: _ :: _ :: _ :: _ :: _ :: _ :: _ :: _ :: _ :: _ :: _ :: _ :: _ :: _ :: _ :: _ :: _ :: _ :: _ :: _ :: _ :: []), defers := [] } _
  refine wpAnyH_take (i := 17) (v := .int .i64 (e : Int)) rfl (by kernel_rfl) (by kernel_rfl) (by kernel_rfl) (fun _ _ _ h => h) (Or.inl ⟨by kernel_rfl, fun w hS => by go_simp⟩) hHeld ?_
  change wpAnyH _ _ _ _ _ _ _ { tmps := List.toArray (_ :: _ :: _ :: .pointer (some ⟨tb, 0, none⟩) :: .slice ca cs.length cc :: .slice (some ⟨zg, 0, none⟩) zs.length zc :: .int .i64 m :: .int .i64 C0 :: _ :: .int .i64 (p 0 e) :: _ :: _ :: _ :: _ :: _ :: _ :: _ :: _ :: _ :: _ :: _ :: _ :: _ :: _ :: _ :: _ :: _ :: _ :: _ :: _ :: _ :: _ :: _ :: _ :: _ :: _ :: _ :: _ :: _ :: _ :: .int .i64 C0 :: .bool false :: .bool false :: .int .i64 C0 :: .int .i64 (p 0 e) :: .bool false :: .bool false :: .bool false :: .int .i64 (p 0 e) :: .agg #[.int .i64 b, .int .i64 s, .slice ja js.length jc, .int .i64 r] :: .agg #[.int .i64 b, .int .i64 s, .slice ja js.length jc, .int .i64 r] :: .slice (some ⟨zg, 0, none⟩) zs.length zc :: .pointer (some ⟨zg, 0, none⟩) :: .int .i64 (Zf 0) :: .slice (some ⟨zg, 0, none⟩) zs.length zc :: .slice (some ⟨zg, 0, none⟩) zs.length zc :: .int .i64 (zs.length : Int) :: .int .i64 (e : Int) :: _ :: _ :: _ :: _ :: _ :: _ :: _ :: _ :: _ :: _ :: _ :: _ :: _ :: _ :: _ :: _ :: _ :: _ :: _ :: _ :: _ :: _ :: _ :: _ :: _ :: _ :: _ :: _ :: _ :: _ :: _ :: _ :: _ :: _ :: _ :: _ :: _ :: _ :: _ :: _ :: _ :: _ :: _ :: _ :: _ :: _ :: _ :: _ :: _ :: _ :: _ :: _ :: _ :: _ :: _ :: _ :: _ :: _ :: _ :: _ :: _ :: _ :: _ :: _ :: _ :: _ :: _ :: _ :: _ :: _ :: _ :: _ :: _ :: _ :: _ :: _ :: _ :: _ :: _ :: _ :: _ :: _ :: _ :: _ :: _ :: _ :: _ :: _ :: _ :: _ :: _ :: _ :: _ :: _ :: _ :: _ :: _ :: _ :: _ :: _ :: _ :: _ :: _ :: _ :: _ :: _ :: _ :: _ :: _ :: _ :: _ :: _ :: _ :: _ :: _ :: _ :: _ :: _ :: _ :: _ :: _ :: _ :: _ :: []), defers := [] } _
  refine wpAnyH_take (i := 18) (v := .pointer (some ⟨zg, e, none⟩)) rfl (by kernel_rfl) (by kernel_rfl) (by kernel_rfl) (fun _ _ _ h => h) (Or.inl ⟨by kernel_rfl, fun w hS => by go_simp⟩) hHeld ?_
  change wpAnyH _ _ _ _ _ _ _ { tmps := List.toArray (_ :: _ :: _ :: .pointer (some ⟨tb, 0, none⟩) :: .slice ca cs.length cc :: .slice (some ⟨zg, 0, none⟩) zs.length zc :: .int .i64 m :: .int .i64 C0 :: _ :: .int .i64 (p 0 e) :: _ :: _ :: _ :: _ :: _ :: _ :: _ :: _ :: _ :: _ :: _ :: _ :: _ :: _ :: _ :: _ :: _ :: _ :: _ :: _ :: _ :: _ :: _ :: _ :: _ :: _ :: _ :: _ :: _ :: _ :: .int .i64 C0 :: .bool false :: .bool false :: .int .i64 C0 :: .int .i64 (p 0 e) :: .bool false :: .bool false :: .bool false :: .int .i64 (p 0 e) :: .agg #[.int .i64 b, .int .i64 s, .slice ja js.length jc, .int .i64 r] :: .agg #[.int .i64 b, .int .i64 s, .slice ja js.length jc, .int .i64 r] :: .slice (some ⟨zg, 0, none⟩) zs.length zc :: .pointer (some ⟨zg, 0, none⟩) :: .int .i64 (Zf 0) :: .slice (some ⟨zg, 0, none⟩) zs.length zc :: .slice (some ⟨zg, 0, none⟩) zs.length zc :: .int .i64 (zs.length : Int) :: .int .i64 (e : Int) :: .pointer (some ⟨zg, e, none⟩) :: _ :: _ :: _ :: _ :: _ :: _ :: _ :: _ :: _ :: _ :: _ :: _ :: _ :: _ :: _ :: _ :: _ :: _ :: _ :: _ :: _ :: _ :: _ :: _ :: _ :: _ :: _ :: _ :: _ :: _ :: _ :: _ :: _ :: _ :: _ :: _ :: _ :: _ :: _ :: _ :: _ :: _ :: _ :: _ :: _ :: _ :: _ :: _ :: _ :: _ :: _ :: _ :: _ :: _ :: _ :: _ :: _ :: _ :: _ :: _ :: _ :: _ :: _ :: _ :: _ :: _ :: _ :: _ :: _ :: _ :: _ :: _ :: _ :: _ :: _ :: _ :: _ :: _ :: _ :: _ :: _ :: _ :: _ :: _ :: _ :: _ :: _ :: _ :: _ :: _ :: _ :: _ :: _ :: _ :: _ :: _ :: _ :: _ :: _ :: _ :: _ :: _ :: _ :: _ :: _ :: _ :: _ :: _ :: _ :: _ :: _ :: _ :: _ :: _ :: _ :: _ :: _ :: _ :: _ :: _ :: _ :: _ :: []), defers := [] } _
  refine wpAnyH_take (i := 19) (v := .int .i64 (Zf e)) rfl (by kernel_rfl) (by kernel_rfl) (by kernel_rfl) (fun _ _ _ h => h) (Or.inl ⟨by kernel_rfl, fun w hS => by (obtain ⟨hS0, hS1, hS2, hS3, hS4, hS5⟩ := hS; go_simp)⟩) hHeld ?_
  change wpAnyH _ _ _ _ _ _ _ { tmps := List.toArray (_ :: _ :: _ :: .pointer (some ⟨tb, 0, none⟩) :: .slice ca cs.length cc :: .slice (some ⟨zg, 0, none⟩) zs.length zc :: .int .i64 m :: .int .i64 C0 :: _ :: .int .i64 (p 0 e) :: _ :: _ :: _ :: _ :: _ :: _ :: _ :: _ :: _ :: _ :: _ :: _ :: _ :: _ :: _ :: _ :: _ :: _ :: _ :: _ :: _ :: _ :: _ :: _ :: _ :: _ :: _ :: _ :: _ :: _ :: .int .i64 C0 :: .bool false :: .bool false :: .int .i64 C0 :: .int .i64 (p 0 e) :: .bool false :: .bool false :: .bool false :: .int .i64 (p 0 e) :: .agg #[.int .i64 b, .int .i64 s, .slice ja js.length jc, .int .i64 r] :: .agg #[.int .i64 b, .int .i64 s, .slice ja js.length jc, .int .i64 r] :: .slice (some ⟨zg, 0, none⟩) zs.length zc :: .pointer (some ⟨zg, 0, none⟩) :: .int .i64 (Zf 0) :: .slice (some ⟨zg, 0, none⟩) zs.length zc :: .slice (some ⟨zg, 0, none⟩) zs.length zc :: .int .i64 (zs.length : Int) :: .int .i64 (e : Int) :: .pointer (some ⟨zg, e, none⟩) :: .int .i64 (Zf e) :: _ :: _ :: _ :: _ :: _ :: _ :: _ :: _ :: _ :: _ :: _ :: _ :: _ :: _ :: _ :: _ :: _ :: _ :: _ :: _ :: _ :: _ :: _ :: _ :: _ :: _ :: _ :: _ :: _ :: _ :: _ :: _ :: _ :: _ :: _ :: _ :: _ :: _ :: _ :: _ :: _ :: _ :: _ :: _ :: _ :: _ :: _ :: _ :: _ :: _ :: _ :: _ :: _ :: _ :: _ :: _ :: _ :: _ :: _ :: _ :: _ :: _ :: _ :: _ :: _ :: _ :: _ :: _ :: _ :: _ :: _ :: _ :: _ :: _ :: _ :: _ :: _ :: _ :: _ :: _ :: _ :: _ :: _ :: _ :: _ :: _ :: _ :: _ :: _ :: _ :: _ :: _ :: _ :: _ :: _ :: _ :: _ :: _ :: _ :: _ :: _ :: _ :: _ :: _ :: _ :: _ :: _ :: _ :: _ :: _ :: _ :: _ :: _ :: _ :: _ :: _ :: _ :: _ :: _ :: _ :: _ :: []), defers := [] } _
  refine wpAnyH_take (i := 21) (v := .slice ca cs.length cc) rfl (by kernel_rfl) (by kernel_rfl) (by kernel_rfl) (fun _ _ _ h => h) (Or.inl ⟨by kernel_rfl, fun w hS => by go_simp⟩) hHeld ?_
  change wpAnyH _ _ _ _ _ _ _ { tmps := List.toArray (_ :: _ :: _ :: .pointer (some ⟨tb, 0, none⟩) :: .slice ca cs.length cc :: .slice (some ⟨zg, 0, none⟩) zs.length zc :: .int .i64 m :: .int .i64 C0 :: _ :: .int .i64 (p 0 e) :: _ :: _ :: _ :: _ :: _ :: _ :: _ :: _ :: _ :: _ :: _ :: _ :: _ :: _ :: _ :: _ :: _ :: _ :: _ :: _ :: _ :: _ :: _ :: _ :: _ :: _ :: _ :: _ :: _ :: _ :: .int .i64 C0 :: .bool false :: .bool false :: .int .i64 C0 :: .int .i64 (p 0 e) :: .bool false :: .bool false :: .bool false :: .int .i64 (p 0 e) :: .agg #[.int .i64 b, .int .i64 s, .slice ja js.length jc, .int .i64 r] :: .agg #[.int .i64 b, .int .i64 s, .slice ja js.length jc, .int .i64 r] :: .slice (some ⟨zg, 0, none⟩) zs.length zc :: .pointer (some ⟨zg, 0, none⟩) :: .int .i64 (Zf 0) :: .slice (some ⟨zg, 0, none⟩) zs.length zc :: .slice (some ⟨zg, 0, none⟩) zs.length zc :: .int .i64 (zs.length : Int) :: .int .i64 (e : Int) :: .pointer (some ⟨zg, e, none⟩) :: .int .i64 (Zf e) :: _ :: .slice ca cs.length cc :: _ :: _ :: _ :: _ :: _ :: _ :: _ :: _ :: _ :: _ :: _ :: _ :: _ :: _ :: _ :: _ :: _ :: _ :: _ :: _ :: _ :: _ :: _ :: _ :: _ :: _ :: _ :: _ :: _ :: _ :: _ :: _ :: _ :: _ :: _ :: _ :: _ :: _ :: _ :: _ :: _ :: _ :: _ :: _ :: _ :: _ :: _ :: _ :: _ :: _ :: _ :: _ :: _ :: _ :: _ :: _ :: _ :: _ :: _ :: _ :: _ :: _ :: _ :: _ :: _ :: _ :: _ :: _ :: _ :: _ :: _ :: _ :: _ :: _ :: _ :: _ :: _ :: _ :: _ :: _ :: _ :: _ :: _ :: _ :: _ :: _ :: _ :: _ :: _ :: _ :: _ :: _ :: _ :: _ :: _ :: _ :: _ :: _ :: _ :: _ :: _ :: _ :: _ :: _ :: _ :: _ :: _ :: _ :: _ :: _ :: _ :: _ :: _ :: _ :: _ :: _ :: _ :: _ :: _ :: []), defers := [] } _
  refine wpAnyH_take (i := 22) (v := .int .i64 m) rfl (by kernel_rfl) (by kernel_rfl) (by kernel_rfl) (fun _ _ _ h => h) (Or.inl ⟨by kernel_rfl, fun w hS => by go_simp⟩) hHeld ?_
  change wpAnyH _ _ _ _ _ _ _ { tmps := List.toArray (_ :: _ :: _ :: .pointer (some ⟨tb, 0, none⟩) :: .slice ca cs.length cc :: .slice (some ⟨zg, 0, none⟩) zs.length zc :: .int .i64 m :: .int .i64 C0 :: _ :: .int .i64 (p 0 e) :: _ :: _ :: _ :: _ :: _ :: _ :: _ :: _ :: _ :: _ :: _ :: _ :: _ :: _ :: _ :: _ :: _ :: _ :: _ :: _ :: _ :: _ :: _ :: _ :: _ :: _ :: _ :: _ :: _ :: _ :: .int .i64 C0 :: .bool false :: .bool false :: .int .i64 C0 :: .int .i64 (p 0 e) :: .bool false :: .bool false :: .bool false :: .int .i64 (p 0 e) :: .agg #[.int .i64 b, .int .i64 s, .slice ja js.length jc, .int .i64 r] :: .agg #[.int .i64 b, .int .i64 s, .slice ja js.length jc, .int .i64 r] :: .slice (some ⟨zg, 0, none⟩) zs.length zc :: .pointer (some ⟨zg, 0, none⟩) :: .int .i64 (Zf 0) :: .slice (some ⟨zg, 0, none⟩) zs.length zc :: .slice (some ⟨zg, 0, none⟩) zs.length zc :: .int .i64 (zs.length : Int) :: .int .i64 (e : Int) :: .pointer (some ⟨zg, e, none⟩) :: .int .i64 (Zf e) :: _ :: .slice ca cs.length cc :: .int .i64 m :: _ :: _ :: _ :: _ :: _ :: _ :: _ :: _ :: _ :: _ :: _ :: _ :: _ :: _ :: _ :: _ :: _ :: _ :: _ :: _ :: _ :: _ :: _ :: _ :: _ :: _ :: _ :: _ :: _ :: _ :: _ :: _ :: _ :: _ :: _ :: _ :: _ :: _ :: _ :: _ :: _ :: _ :: _ :: _ :: _ :: _ :: _ :: _ :: _ :: _ :: _ :: _ :: _ :: _ :: _ :: _ :: _ :: _ :: _ :: _ :: _ :: _ :: _ :: _ :: _ :: _ :: _ :: _ :: _ :: _ :: _ :: _ :: _ :: _ :: _ :: _ :: _ :: _ :: _ :: _ :: _ :: _ :: _ :: _ :: _ :: _ :: _ :: _ :: _ :: _ :: _ :: _ :: _ :: _ :: _ :: _ :: _ :: _ :: _ :: _ :: _ :: _ :: _ :: _ :: _ :: _ :: _ :: _ :: _ :: _ :: _ :: _ :: _ :: _ :: _ :: _ :: _ :: _ :: []), defers := [] } _
  refine wpAnyH_ready (rs := [20]) (by kernel_rfl) (by simp) ?_
  refine AllReadyH.cons rfl (fun KK hK => ?_) AllReadyH.nil
  go_simp
  go_wp2_with fail
  refine (CFz _ BD).mono ?_
  rintro e7 wq ⟨rfl, hbq⟩
  have Bq := btrans BD hbq
  have Bq3 := btrans BD3 hbq
  clear hbq
  clear hHeld
  refine hK.out _ _ (by obtain ⟨v0, v1, v2, v3⟩ := X.c Bq; exact ⟨v0, v1, v2, v3, ble Bq zb0, ble Bq zb1⟩) (fun hHeld => ?_)
  clear hK KK
  change wpAnyH _ _ _ _ _ _ _ { tmps := List.toArray (_ :: _ :: _ :: .pointer (some ⟨tb, 0, none⟩) :: .slice ca cs.length cc :: .slice (some ⟨zg, 0, none⟩) zs.length zc :: .int .i64 m :: .int .i64 C0 :: _ :: .int .i64 (p 0 e) :: _ :: _ :: _ :: _ :: _ :: _ :: _ :: _ :: _ :: _ :: _ :: _ :: _ :: _ :: _ :: _ :: _ :: _ :: _ :: _ :: _ :: _ :: _ :: _ :: _ :: _ :: _ :: _ :: _ :: _ :: .int .i64 C0 :: .bool false :: .bool false :: .int .i64 C0 :: .int .i64 (p 0 e) :: .bool false :: .bool false :: .bool false :: .int .i64 (p 0 e) :: .agg #[.int .i64 b, .int .i64 s, .slice ja js.length jc, .int .i64 r] :: .agg #[.int .i64 b, .int .i64 s, .slice ja js.length jc, .int .i64 r] :: .slice (some ⟨zg, 0, none⟩) zs.length zc :: .pointer (some ⟨zg, 0, none⟩) :: .int .i64 (Zf 0) :: .slice (some ⟨zg, 0, none⟩) zs.length zc :: .slice (some ⟨zg, 0, none⟩) zs.length zc :: .int .i64 (zs.length : Int) :: .int .i64 (e : Int) :: .pointer (some ⟨zg, e, none⟩) :: .int .i64 (Zf e) :: .int .i64 (Ff 0 e) :: .slice ca cs.length cc :: .int .i64 m :: _ :: _ :: _ :: _ :: _ :: _ :: _ :: _ :: _ :: _ :: _ :: _ :: _ :: _ :: _ :: _ :: _ :: _ :: _ :: _ :: _ :: _ :: _ :: _ :: _ :: _ :: _ :: _ :: _ :: _ :: _ :: _ :: _ :: _ :: _ :: _ :: _ :: _ :: _ :: _ :: _ :: _ :: _ :: _ :: _ :: _ :: _ :: _ :: _ :: _ :: _ :: _ :: _ :: _ :: _ :: _ :: _ :: _ :: _ :: _ :: _ :: _ :: _ :: _ :: _ :: _ :: _ :: _ :: _ :: _ :: _ :: _ :: _ :: _ :: _ :: _ :: _ :: _ :: _ :: _ :: _ :: _ :: _ :: _ :: _ :: _ :: _ :: _ :: _ :: _ :: _ :: _ :: _ :: _ :: _ :: _ :: _ :: _ :: _ :: _ :: _ :: _ :: _ :: _ :: _ :: _ :: _ :: _ :: _ :: _ :: _ :: _ :: _ :: _ :: _ :: _ :: _ :: _ :: []), defers := [] } _
  refine wpAnyH_ready (rs := [23]) (by kernel_rfl) (by simp) ?_
  refine AllReadyH.cons rfl (fun KK hK => ?_) AllReadyH.nil
  go_simp
  go_wp2_with fail
  refine (CDz _ Bq).mono ?_
  rintro e6 wp ⟨rfl, hbp⟩
  have Bp := btrans Bq hbp
  have Bp3 := btrans Bq3 hbp
  clear hbp
  clear hHeld
  refine hK.out _ _ (by obtain ⟨v0, v1, v2, v3⟩ := X.c Bp; exact ⟨v0, v1, v2, v3, ble Bp zb0, ble Bp zb1⟩) (fun hHeld => ?_)
  clear hK KK
  change wpAnyH _ _ _ _ _ _ _ { tmps := List.toArray (_ :: _ :: _ :: .pointer (some ⟨tb, 0, none⟩) :: .slice ca cs.length cc :: .slice (some ⟨zg, 0, none⟩) zs.length zc :: .int .i64 m :: .int .i64 C0 :: _ :: .int .i64 (p 0 e) :: _ :: _ :: _ :: _ :: _ :: _ :: _ :: _ :: _ :: _ :: _ :: _ :: _ :: _ :: _ :: _ :: _ :: _ :: _ :: _ :: _ :: _ :: _ :: _ :: _ :: _ :: _ :: _ :: _ :: _ :: .int .i64 C0 :: .bool false :: .bool false :: .int .i64 C0 :: .int .i64 (p 0 e) :: .bool false :: .bool false :: .bool false :: .int .i64 (p 0 e) :: .agg #[.int .i64 b, .int .i64 s, .slice ja js.length jc, .int .i64 r] :: .agg #[.int .i64 b, .int .i64 s, .slice ja js.length jc, .int .i64 r] :: .slice (some ⟨zg, 0, none⟩) zs.length zc :: .pointer (some ⟨zg, 0, none⟩) :: .int .i64 (Zf 0) :: .slice (some ⟨zg, 0, none⟩) zs.length zc :: .slice (some ⟨zg, 0, none⟩) zs.length zc :: .int .i64 (zs.length : Int) :: .int .i64 (e : Int) :: .pointer (some ⟨zg, e, none⟩) :: .int .i64 (Zf e) :: .int .i64 (Ff 0 e) :: .slice ca cs.length cc :: .int .i64 m :: .int .i64 (p 0 e) :: _ :: _ :: _ :: _ :: _ :: _ :: _ :: _ :: _ :: _ :: _ :: _ :: _ :: _ :: _ :: _ :: _ :: _ :: _ :: _ :: _ :: _ :: _ :: _ :: _ :: _ :: _ :: _ :: _ :: _ :: _ :: _ :: _ :: _ :: _ :: _ :: _ :: _ :: _ :: _ :: _ :: _ :: _ :: _ :: _ :: _ :: _ :: _ :: _ :: _ :: _ :: _ :: _ :: _ :: _ :: _ :: _ :: _ :: _ :: _ :: _ :: _ :: _ :: _ :: _ :: _ :: _ :: _ :: _ :: _ :: _ :: _ :: _ :: _ :: _ :: _ :: _ :: _ :: _ :: _ :: _ :: _ :: _ :: _ :: _ :: _ :: _ :: _ :: _ :: _ :: _ :: _ :: _ :: _ :: _ :: _ :: _ :: _ :: _ :: _ :: _ :: _ :: _ :: _ :: _ :: _ :: _ :: _ :: _ :: _ :: _ :: _ :: _ :: _ :: _ :: _ :: _ :: []), defers := [] } _
  refine wpAnyH_take (i := 24) (v := .bool false) rfl (by kernel_rfl) (by kernel_rfl) (by kernel_rfl) (fun _ _ _ h => h) (Or.inl ⟨by kernel_rfl, fun w hS => by go_simp⟩) hHeld ?_
  change wpAnyH _ _ _ _ _ _ _ { tmps := List.toArray (_ :: _ :: _ :: .pointer (some ⟨tb, 0, none⟩) :: .slice ca cs.length cc :: .slice (some ⟨zg, 0, none⟩) zs.length zc :: .int .i64 m :: .int .i64 C0 :: _ :: .int .i64 (p 0 e) :: _ :: _ :: _ :: _ :: _ :: _ :: _ :: _ :: _ :: _ :: _ :: _ :: _ :: _ :: _ :: _ :: _ :: _ :: _ :: _ :: _ :: _ :: _ :: _ :: _ :: _ :: _ :: _ :: _ :: _ :: .int .i64 C0 :: .bool false :: .bool false :: .int .i64 C0 :: .int .i64 (p 0 e) :: .bool false :: .bool false :: .bool false :: .int .i64 (p 0 e) :: .agg #[.int .i64 b, .int .i64 s, .slice ja js.length jc, .int .i64 r] :: .agg #[.int .i64 b, .int .i64 s, .slice ja js.length jc, .int .i64 r] :: .slice (some ⟨zg, 0, none⟩) zs.length zc :: .pointer (some ⟨zg, 0, none⟩) :: .int .i64 (Zf 0) :: .slice (some ⟨zg, 0, none⟩) zs.length zc :: .slice (some ⟨zg, 0, none⟩) zs.length zc :: .int .i64 (zs.length : Int) :: .int .i64 (e : Int) :: .pointer (some ⟨zg, e, none⟩) :: .int .i64 (Zf e) :: .int .i64 (Ff 0 e) :: .slice ca cs.length cc :: .int .i64 m :: .int .i64 (p 0 e) :: .bool false :: _ :: _ :: _ :: _ :: _ :: _ :: _ :: _ :: _ :: _ :: _ :: _ :: _ :: _ :: _ :: _ :: _ :: _ :: _ :: _ :: _ :: _ :: _ :: _ :: _ :: _ :: _ :: _ :: _ :: _ :: _ :: _ :: _ :: _ :: _ :: _ :: _ :: _ :: _ :: _ :: _ :: _ :: _ :: _ :: _ :: _ :: _ :: _ :: _ :: _ :: _ :: _ :: _ :: _ :: _ :: _ :: _ :: _ :: _ :: _ :: _ :: _ :: _ :: _ :: _ :: _ :: _ :: _ :: _ :: _ :: _ :: _ :: _ :: _ :: _ :: _ :: _ :: _ :: _ :: _ :: _ :: _ :: _ :: _ :: _ :: _ :: _ :: _ :: _ :: _ :: _ :: _ :: _ :: _ :: _ :: _ :: _ :: _ :: _ :: _ :: _ :: _ :: _ :: _ :: _ :: _ :: _ :: _ :: _ :: _ :: _ :: _ :: _ :: _ :: _ :: _ :: []), defers := [] } _
  refine wpAnyH_take (i := 25) (v := .bool false) rfl (by kernel_rfl) (by kernel_rfl) (by kernel_rfl) (fun _ _ _ h => h) (Or.inl ⟨by kernel_rfl, fun w hS => by go_simp⟩) hHeld ?_
  change wpAnyH _ _ _ _ _ _ _ { tmps := List.toArray (_ :: _ :: _ :: .pointer (some ⟨tb, 0, none⟩) :: .slice ca cs.length cc :: .slice (some ⟨zg, 0, none⟩) zs.length zc :: .int .i64 m :: .int .i64 C0 :: _ :: .int .i64 (p 0 e) :: _ :: _ :: _ :: _ :: _ :: _ :: _ :: _ :: _ :: _ :: _ :: _ :: _ :: _ :: _ :: _ :: _ :: _ :: _ :: _ :: _ :: _ :: _ :: _ :: _ :: _ :: _ :: _ :: _ :: _ :: .int .i64 C0 :: .bool false :: .bool false :: .int .i64 C0 :: .int .i64 (p 0 e) :: .bool false :: .bool false :: .bool false :: .int .i64 (p 0 e) :: .agg #[.int .i64 b, .int .i64 s, .slice ja js.length jc, .int .i64 r] :: .agg #[.int .i64 b, .int .i64 s, .slice ja js.length jc, .int .i64 r] :: .slice (some ⟨zg, 0, none⟩) zs.length zc :: .pointer (some ⟨zg, 0, none⟩) :: .int .i64 (Zf 0) :: .slice (some ⟨zg, 0, none⟩) zs.length zc :: .slice (some ⟨zg, 0, none⟩) zs.length zc :: .int .i64 (zs.length : Int) :: .int .i64 (e : Int) :: .pointer (some ⟨zg, e, none⟩) :: .int .i64 (Zf e) :: .int .i64 (Ff 0 e) :: .slice ca cs.length cc :: .int .i64 m :: .int .i64 (p 0 e) :: .bool false :: .bool false :: _ :: _ :: _ :: _ :: _ :: _ :: _ :: _ :: _ :: _ :: _ :: _ :: _ :: _ :: _ :: _ :: _ :: _ :: _ :: _ :: _ :: _ :: _ :: _ :: _ :: _ :: _ :: _ :: _ :: _ :: _ :: _ :: _ :: _ :: _ :: _ :: _ :: _ :: _ :: _ :: _ :: _ :: _ :: _ :: _ :: _ :: _ :: _ :: _ :: _ :: _ :: _ :: _ :: _ :: _ :: _ :: _ :: _ :: _ :: _ :: _ :: _ :: _ :: _ :: _ :: _ :: _ :: _ :: _ :: _ :: _ :: _ :: _ :: _ :: _ :: _ :: _ :: _ :: _ :: _ :: _ :: _ :: _ :: _ :: _ :: _ :: _ :: _ :: _ :: _ :: _ :: _ :: _ :: _ :: _ :: _ :: _ :: _ :: _ :: _ :: _ :: _ :: _ :: _ :: _ :: _ :: _ :: _ :: _ :: _ :: _ :: _ :: _ :: _ :: _ :: []), defers := [] } _
  refine wpAnyH_done (by kernel_rfl) ?_ _
  clear x0 x1 x2 x3 dn1 dn2 BD z0 z1 CFz CDz BB Bq Bq3
  have BB := Bp
  replace OG := own_keep OG Bp3
  clear Bp Bp3 BD3 zb0 zb1
  have hpaid := hide (fun t (g : ∀ s, s < t → it N s < e) => paid_in hB hp t g)
  have hpend := paid_at hB (k + 1) (fun s hs => hk s (by omega))
  rw [hke, hB.ce] at hpend
  have hpe : Hid (paid p N (k + 1) = C0) := hide (by rw [hC0'.out]; omega)
  have htwo := hide (fun j (h0 : 0 < j) (h1 : j < e) => show C0 ≤ p 0 j + p j e by rw [hC0'.out]; exact split_two hB h0 h1)
  have hitk := hide (fun i (hi : i ≤ k) => And.intro (hk i hi) (And.intro (hB.fd (it N i) (Nat.zero_le _) (hk i hi)).1 (hB.fd (it N i) (Nat.zero_le _) (hk i hi)).2.1))
  have hk19 : k ≤ 19 := by have := (it_up hB k (fun s hs => hk s (by omega))).1; have := hk k (Nat.le_refl _); omega
  have hkh := hide hk
  have hkeh := hide hke
  clear hpend hk hke hC0' hB
  go_wp2
  go_loopw [10, 11, 12, 13] (fun pv fv iv _ wr => ∃ i : Nat, i ≤ k + 1 ∧ iv = .int .i64 i ∧ pv = .int .i64 (paid p N i) ∧ fv = .int .i64 ((it N i : Nat) : Int) ∧ wr.ownsRow wB.heap.size 3 1 (.slice ga k gk) k ((pls N k).map (.int .i64)) ∧ Below wB.heap.size wB wr) (fun _ _ iv _ _ => k + 1 - (intOf iv).toNat)
  case atStart => exact ⟨0, Nat.zero_le _, rfl, rfl, rfl, OG, BB⟩
  case round =>
    clear OG BB
    obtain ⟨i, hik, rfl, rfl, rfl, OG, BB⟩ := hrel
    by_cases hlt : i ≤ k
    · obtain ⟨g1, g2, g3⟩ := hitk.out i hlt
      have e1 : it N (i + 1) = N (it N i) := rfl
      rw [← e1] at g2 g3
      have ps : Hid (paid p N (i + 1) = paid p N i + p (it N i) (it N (i + 1))) := hide rfl
      have b1 := hpaid.out i (fun s hs => hkh.out s (by omega))
      have b2 := hp (it N i) (it N (i + 1)) (by omega) (by omega)
      have CFi := CF (it N i) (it N (i + 1))
      have CDi := CD (it N i) (it N (i + 1))
      have z0 := ble BB (hZc.out (it N i) (by omega))
      have z1 := ble BB (hZc.out (it N (i + 1)) (by omega))
      have zb0 := hZc.out (it N i) (by omega)
      have zb1 := hZc.out (it N (i + 1)) (by omega)
      have hto : i < k → wr.cell? ⟨(ga.map Addr.block).getD 0, i, none⟩ = some (.int .i64 ((it N (i + 1) : Nat) : Int)) ∧ ga = some ⟨(ga.map Addr.block).getD 0, 0, none⟩ := by
        intro hi
        rcases OG.2 with ⟨_, h0⟩ | ⟨g, cap', cur, hv, _⟩
        · omega
        simp only [Value.slice.injEq] at hv
        obtain ⟨rfl, -, rfl⟩ := hv
        refine ⟨?_, rfl⟩
        have := (int_at OG (i := i) (by rw [pls_len]; exact hi)).1
        rw [pls_get hi] at this
        exact this
      have hend : i = k → it N (i + 1) = e := by rintro rfl; exact hkeh.out
      clear e1
      generalize it N i = F at *
      generalize hG : it N (i + 1) = G at *
      have HG := hide hG
      clear hG
      generalize p F G = P at *
      generalize paid p N i = PD at *
      generalize Zf F = zF at *
      generalize Zf G = zG at *
      generalize Ff F G = fF at *
      have vP : IntKind.i64.wrap (PD + P) = PD + P := wrap_in _ (by omega) (by omega)
      have n1 : ¬ (G : Int) ≤ F := by omega
      have n2 : ¬ (zs.length : Int) ≤ G := by omega
      have n3 : ¬ (G : Int) < F := by omega
      have n4 : (F : Int) < zs.length := by omega
      have n5 : (G : Int) < zs.length := by omega
      have n6 : (0 : Int) ≤ F := by omega
      have n7 : (0 : Int) ≤ G := by omega
      have n8 : F < zs.length := by omega
      have n9 : G < zs.length := by omega
      have BD := BB.drew
      have BD3 : Below wr.heap.size wr wr.drew := (Below.refl _ _).drew
      obtain ⟨x0, x1, x2, x3⟩ := X.c BB
      have fin := hide (fun wx (h : Below wr.heap.size wr wx) => own_keep OG h)
      by_cases hi : i < k
      · obtain ⟨c0, hga⟩ := hto hi
        generalize (ga.map Addr.block).getD 0 = gg at *
        subst hga
        have hi' : (i : Int) < k := by omega
        have hi'' : (i : Int) ≤ k := by omega
        clear hend hto
        go_wp2_with fail
        go_region_held3 (fun w' => w'.cell? ⟨tb, 0, none⟩ = some (.int .i64 b) ∧ w'.cell? ⟨tb, 1, none⟩ = some (.int .i64 s) ∧ w'.cell? ⟨tb, 2, none⟩ = some (.slice ja js.length jc) ∧ w'.cell? ⟨tb, 3, none⟩ = some (.int .i64 r) ∧ w'.cell? ⟨zg, F, none⟩ = some (.int .i64 zF) ∧ w'.cell? ⟨zg, G, none⟩ = some (.int .i64 zG)) (go_keep) (first
          | (go_at_call 25; with_reducible refine (CDi _ Bq).mono ?_; rintro e6 wp ⟨rfl, hbp⟩; have Bp := btrans Bq hbp; have Bp3 := btrans Bq3 hbp; clear hbp; obtain ⟨v0, v1, v2, v3⟩ := X.c Bp; have v4 := ble Bp zb0; have v5 := ble Bp zb1)
          | (go_at_call 18; with_reducible refine (CFi _ BD).mono ?_; rintro e7 wq ⟨rfl, hbq⟩; have Bq := btrans BD hbq; have Bq3 := btrans BD3 hbq; clear hbq; obtain ⟨v0, v1, v2, v3⟩ := X.c Bq; have v4 := ble Bq zb0; have v5 := ble Bq zb1))
        all_goals (
          have OG2 := fin.out _ Bp3
          clear fin v0 v1 v2 v3 v4 v5 Bq Bq3 Bp3 x0 x1 x2 x3 z0 z1 zb0 zb1 CFi CDi OG BB BD BD3
          go_wp2
          go_roundw)
        all_goals first
          | exact ⟨i + 1, by omega, by go_num, by rw [ps.out], by rw [HG.out], OG2, Bp⟩
          | (simp [intOf]; done)
          | (simp [intOf]; omega)
      · have hi2 : i = k := by omega
        have hGe := hend hi2
        subst hGe
        subst hi2
        clear hend hto
        go_wp2_with fail
        go_region_held3 (fun w' => w'.cell? ⟨tb, 0, none⟩ = some (.int .i64 b) ∧ w'.cell? ⟨tb, 1, none⟩ = some (.int .i64 s) ∧ w'.cell? ⟨tb, 2, none⟩ = some (.slice ja js.length jc) ∧ w'.cell? ⟨tb, 3, none⟩ = some (.int .i64 r) ∧ w'.cell? ⟨zg, F, none⟩ = some (.int .i64 zF) ∧ w'.cell? ⟨zg, G, none⟩ = some (.int .i64 zG)) (go_keep) (first
          | (go_at_call 25; with_reducible refine (CDi _ Bq).mono ?_; rintro e6 wp ⟨rfl, hbp⟩; have Bp := btrans Bq hbp; have Bp3 := btrans Bq3 hbp; clear hbp; obtain ⟨v0, v1, v2, v3⟩ := X.c Bp; have v4 := ble Bp zb0; have v5 := ble Bp zb1)
          | (go_at_call 18; with_reducible refine (CFi _ BD).mono ?_; rintro e7 wq ⟨rfl, hbq⟩; have Bq := btrans BD hbq; have Bq3 := btrans BD3 hbq; clear hbq; obtain ⟨v0, v1, v2, v3⟩ := X.c Bq; have v4 := ble Bq zb0; have v5 := ble Bq zb1))
        all_goals (
          have OG2 := fin.out _ Bp3
          clear fin v0 v1 v2 v3 v4 v5 Bq Bq3 Bp3 x0 x1 x2 x3 z0 z1 zb0 zb1 CFi CDi OG BB BD BD3
          go_wp2
          go_roundw)
        all_goals first
          | exact ⟨i + 1, by omega, by go_num, by rw [ps.out], by rw [HG.out], OG2, Bp⟩
          | (simp [intOf]; done)
          | (simp [intOf]; omega)
    · obtain rfl : i = k + 1 := by omega
      have hkk : ¬ ((k + 1 : Nat) : Int) ≤ k := by omega
      rw [hpe.out]
      generalize ((it N (k + 1) : Nat) : Int) = lastF
      clear hpaid hitk hkh hkeh hpe
      go_wp2
      go_loopw [14, 15] (fun jv _ wr => ∃ j : Nat, 1 ≤ j ∧ j ≤ e ∧ jv = .int .i64 j ∧ wr.ownsRow wB.heap.size 3 1 (.slice ga k gk) k ((pls N k).map (.int .i64)) ∧ Below wB.heap.size wB wr) (fun jv _ _ => e - (intOf jv).toNat)
      case atStart => exact ⟨1, Nat.le_refl _, he1, rfl, OG, BB⟩
      case round =>
        clear OG BB
        obtain ⟨j, hj1, hje, rfl, OG, BB⟩ := hrel
        by_cases hlt2 : j < e
        · have h2 := htwo.out j (by omega) hlt2
          have b1 := hp 0 j (by omega) (by omega)
          have b2 := hp j e (by omega) (by omega)
          have CF1 := CF 0 j
          have CD1 := CD 0 j
          have CF2 := CF j e
          have CD2 := CD j e
          have zb0 := hZc.out 0 hzn
          have zb1 := hZc.out j (by omega)
          have zb2 := hZc.out e (by omega)
          have z0 := ble BB zb0
          have z1 := ble BB zb1
          have z2 := ble BB zb2
          generalize Ff 0 j = f1 at *
          generalize Ff j e = f2 at *
          generalize Zf 0 = y0 at *
          generalize Zf j = yj at *
          generalize Zf e = ye at *
          generalize p 0 j = P1 at *
          generalize p j e = P2 at *
          have vP : IntKind.i64.wrap (P1 + P2) = P1 + P2 := wrap_in _ (by omega) (by omega)
          have vj : IntKind.i64.wrap ((j : Int) + 1) = (j : Int) + 1 := wrap_in _ (by omega) (by omega)
          have hj2 : (j : Int) + 1 < zs.length := by omega
          have hj3 : (j : Int) < zs.length := by omega
          have hj4 : (0 : Int) ≤ j := by omega
          have hno : ¬ P1 + P2 < C0 := by omega
          have BD := BB.drew
          have BD3 : Below wr.heap.size wr wr.drew := (Below.refl _ _).drew
          have fin := hide (fun wx (h : Below wr.heap.size wr wx) => own_keep OG h)
          obtain ⟨x0, x1, x2, x3⟩ := X.c BB
          go_wp2_with fail
          go_region_held3 (fun w' => w'.cell? ⟨tb, 0, none⟩ = some (.int .i64 b) ∧ w'.cell? ⟨tb, 1, none⟩ = some (.int .i64 s) ∧ w'.cell? ⟨tb, 2, none⟩ = some (.slice ja js.length jc) ∧ w'.cell? ⟨tb, 3, none⟩ = some (.int .i64 r) ∧ w'.cell? ⟨zg, 0, none⟩ = some (.int .i64 y0) ∧ w'.cell? ⟨zg, j, none⟩ = some (.int .i64 yj) ∧ w'.cell? ⟨zg, e, none⟩ = some (.int .i64 ye)) (go_keep) (first
            | (go_at_call 25; with_reducible refine (CD2 _ Bq).mono ?_; rintro e6 wp ⟨rfl, hbp⟩; have Bp := btrans Bq hbp; have Bp3 := btrans Bq3 hbp; clear hbp; obtain ⟨v0, v1, v2, v3⟩ := X.c Bp; have v4 := ble Bp zb0; have v5 := ble Bp zb1; have v6 := ble Bp zb2)
            | (go_at_call 18; with_reducible refine (CF2 _ Bs).mono ?_; rintro e7 wq ⟨rfl, hbq⟩; have Bq := btrans Bs hbq; have Bq3 := btrans Bs3 hbq; clear hbq; obtain ⟨v0, v1, v2, v3⟩ := X.c Bq; have v4 := ble Bq zb0; have v5 := ble Bq zb1; have v6 := ble Bq zb2)
            | (go_at_call 25; with_reducible refine (CD1 _ Bt).mono ?_; rintro e6 ws ⟨rfl, hbs⟩; have Bs := btrans Bt hbs; have Bs3 := btrans Bt3 hbs; clear hbs; obtain ⟨v0, v1, v2, v3⟩ := X.c Bs; have v4 := ble Bs zb0; have v5 := ble Bs zb1; have v6 := ble Bs zb2)
            | (go_at_call 18; with_reducible refine (CF1 _ BD).mono ?_; rintro e7 wt ⟨rfl, hbt⟩; have Bt := btrans BD hbt; have Bt3 := btrans BD3 hbt; clear hbt; obtain ⟨v0, v1, v2, v3⟩ := X.c Bt; have v4 := ble Bt zb0; have v5 := ble Bt zb1; have v6 := ble Bt zb2))
          all_goals (
            have OG2 := fin.out _ Bp3
            clear fin v0 v1 v2 v3 v4 v5 v6 Bq Bq3 Bp3 Bs Bs3 Bt Bt3 x0 x1 x2 x3 z0 z1 z2 zb0 zb1 zb2 CF1 CD1 CF2 CD2 OG BB BD BD3
            go_wp2
            go_roundw)
          all_goals first
            | exact ⟨j + 1, by omega, by omega, by go_num, OG2, Bp⟩
            | (simp [intOf]; done)
            | (simp [intOf]; omega)
        · obtain rfl : j = e := by omega
          have hnl : ¬ (j : Int) + 1 < zs.length := by omega
          obtain ⟨x0, x1, x2, x3⟩ := X.c BB
          go_wp2_with fail
          refine (CSS _ BB).mono ?_
          rintro e5 w9 ⟨C1, vw, L1, rfl, SB, OW, hb⟩
          obtain ⟨u1, u2⟩ := SAns.out.unique SB
          subst u1
          subst u2
          replace BB := btrans BB hb
          replace OG := own_keep OG hb
          rw [pls_len] at OW
          obtain ⟨wa, wk, rfl⟩ := own_form OW
          clear hb x0 x1 x2 x3 CSS SB SAns
          go_wp2_with fail
          refine (cSamen _ _ k _ _ (pls N k) _ (pls_len _ _) OW OG (by unfold maxLen; omega)).mono ?_
          rintro e5 wz ⟨rfl, hb⟩
          replace BB := btrans BB hb
          go_wp2
          go_ret
          exact ⟨rfl, btrans HW BB⟩
end Go.Proofs.Ytepdnaahhkkdeaa
