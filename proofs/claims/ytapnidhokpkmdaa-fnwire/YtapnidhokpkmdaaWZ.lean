/- The laws over two numbers. -/
import Derived.Test.YtapnidhokpkmdaaZD
import Derived.Deep.Cut
namespace Go.Proofs.Ytapnidhokpkmdaa
open Go.RowKit Fl
attribute [local go_sem] run_store_float
theorem heap_setCell {w : World} {b k o : Nat} {v : Value} (h : k ≠ b) : (w.setCell ⟨b, o, none⟩ v).heap[k]? = w.heap[k]? := Below.heap_setCell _ _ _ _ h
theorem heap_same (w : World) (g i : Nat) (cs : Array Value) (t : TypeId) (v : Value) (h : w.heap[g]? = some (.cells cs t (0, 0))) : (w.setCell ⟨g, i, none⟩ v).heap[g]? = some (.cells (cs.setIfInBounds i v) t (0, 0)) := by
  have hl := lt_of_block h
  have h' : w.heap[g] = .cells cs t (0, 0) := by rw [Array.getElem?_eq_getElem hl] at h; exact Option.some.inj h
  simp [World.setCell, hl, Array.getElem_modify, h']
/-- A number in a box that a statement has laid. -/
structure GotZ (W : World) (C : C2) (pv : Value) (wc : World) : Prop where
  ex : ∃ (b p q : Nat), pv = .pointer (some ⟨b, 0, none⟩) ∧ wc.heap[b]? = some (.cells #[.float .f64 p, .float .f64 q] 26 (0, 0)) ∧ ZV.c ⟨p, q⟩ = C ∧ W.heap.size ≤ b
  bel : Below W.heap.size W wc
theorem gotS {W w1 : World} {C : C2} {b p q : Nat} (h : Below W.heap.size W w1) (hz : w1.heap[b]? = some (.cells #[.float .f64 0, .float .f64 0] 26 (0, 0))) (hb : W.heap.size ≤ b) (hC : ZV.c ⟨p, q⟩ = C) :
    GotZ W C (.pointer (some ⟨b, 0, none⟩)) ((w1.setCell ⟨b, 0, none⟩ (.float .f64 p)).setCell ⟨b, 1, none⟩ (.float .f64 q)) :=
  ⟨⟨b, p, q, rfl, heap_same _ b 1 _ _ _ (heap_same _ b 0 _ _ _ hz), hC, hb⟩, below_set hb (below_set hb h)⟩
theorem gotN {W w1 : World} {C : C2} {p q : Nat} (h : Below W.heap.size W w1) (hC : ZV.c ⟨p, q⟩ = C) :
    GotZ W C (.pointer (some ⟨w1.heap.size, 0, none⟩)) (w1.alloc (.cells #[.float .f64 p, .float .f64 q] 26)) :=
  ⟨⟨_, p, q, rfl, one_block w1 _, hC, h.size⟩, btrans h (balloc _ _)⟩
theorem cZAddS2 (a b c d : Nat) (w : World) : Calls Try.prog 33 #[.agg #[.float .f64 a, .float .f64 b], .agg #[.float .f64 c, .float .f64 d]] w fun e w' => ∃ p q, e = .returned (.agg #[.float .f64 p, .float .f64 q]) ∧ ZV.c ⟨p, q⟩ = zadd (ZV.c ⟨a, b⟩) (ZV.c ⟨c, d⟩) ∧ Below w.heap.size w w' :=
  (cZAddS ⟨a, b⟩ ⟨c, d⟩ w).mono (fun _ _ ⟨z, h1, h2, h3⟩ => ⟨z.re, z.im, h1, h2, h3⟩)
theorem cZAddI2 (a b c d : Nat) (w : World) : Calls Try.prog 22 #[.agg #[.float .f64 a, .float .f64 b], .agg #[.float .f64 c, .float .f64 d]] w fun e w' => ∃ p q, e = .returned (.agg #[.float .f64 p, .float .f64 q]) ∧ ZV.c ⟨p, q⟩ = zadd (ZV.c ⟨a, b⟩) (ZV.c ⟨c, d⟩) ∧ Below w.heap.size w w' :=
  (cZAddI ⟨a, b⟩ ⟨c, d⟩ w).mono (fun _ _ ⟨z, h1, h2, h3⟩ => ⟨z.re, z.im, h1, h2, h3⟩)
theorem cZMulS2 (a b c d : Nat) (w : World) : Calls Try.prog 36 #[.agg #[.float .f64 a, .float .f64 b], .agg #[.float .f64 c, .float .f64 d]] w fun e w' => ∃ p q, e = .returned (.agg #[.float .f64 p, .float .f64 q]) ∧ ZV.c ⟨p, q⟩ = zmul (ZV.c ⟨a, b⟩) (ZV.c ⟨c, d⟩) ∧ Below w.heap.size w w' :=
  (cZMulS ⟨a, b⟩ ⟨c, d⟩ w).mono (fun _ _ ⟨z, h1, h2, h3⟩ => ⟨z.re, z.im, h1, h2, h3⟩)
theorem cZMulI2 (a b c d : Nat) (w : World) : Calls Try.prog 21 #[.agg #[.float .f64 a, .float .f64 b], .agg #[.float .f64 c, .float .f64 d]] w fun e w' => ∃ p q, e = .returned (.agg #[.float .f64 p, .float .f64 q]) ∧ ZV.c ⟨p, q⟩ = zmul (ZV.c ⟨a, b⟩) (ZV.c ⟨c, d⟩) ∧ Below w.heap.size w w' :=
  (cZMulI ⟨a, b⟩ ⟨c, d⟩ w).mono (fun _ _ ⟨z, h1, h2, h3⟩ => ⟨z.re, z.im, h1, h2, h3⟩)
theorem cZDivS2 (a b c d : Nat) (w : World) : Calls Try.prog 39 #[.agg #[.float .f64 a, .float .f64 b], .agg #[.float .f64 c, .float .f64 d]] w fun e w' => ∃ p q, e = .returned (.agg #[.float .f64 p, .float .f64 q]) ∧ ZV.c ⟨p, q⟩ = zdiv (ZV.c ⟨a, b⟩) (ZV.c ⟨c, d⟩) ∧ Below w.heap.size w w' :=
  (cZDivS ⟨a, b⟩ ⟨c, d⟩ w).mono (fun _ _ ⟨z, h1, h2, h3⟩ => ⟨z.re, z.im, h1, h2, h3⟩)
theorem cZDivI2 (a b c d : Nat) (w : World) : Calls Try.prog 29 #[.agg #[.float .f64 a, .float .f64 b], .agg #[.float .f64 c, .float .f64 d]] w fun e w' => ∃ p q, e = .returned (.agg #[.float .f64 p, .float .f64 q]) ∧ ZV.c ⟨p, q⟩ = zdiv (ZV.c ⟨a, b⟩) (ZV.c ⟨c, d⟩) ∧ Below w.heap.size w w' :=
  (cZDivI ⟨a, b⟩ ⟨c, d⟩ w).mono (fun _ _ ⟨z, h1, h2, h3⟩ => ⟨z.re, z.im, h1, h2, h3⟩)

set_option maxRecDepth 20000 in
set_option maxHeartbeats 6400000 in
theorem walkZAdd (x y : ZV) (w : World) : Calls Try.prog 6 #[x.val, y.val] w fun e w' => e = .returned (.bool true) ∧ Below w.heap.size w w' := by
  obtain ⟨a, b⟩ := x
  obtain ⟨c, d⟩ := y
  unfold ZV.val
  have HB := btrans (balloc w (.cells #[.float .f64 a, .float .f64 b] 44)) (balloc _ (.cells #[.float .f64 c, .float .f64 d] 44))
  obtain ⟨A0, A1⟩ := twoB w (.cells #[.float .f64 a, .float .f64 b] 44) (.cells #[.float .f64 c, .float .f64 d] 44)
  go_enter Try.func6, Try.ntmps6
  go_wp2_with fail
  generalize (w.alloc (.cells #[.float .f64 a, .float .f64 b] 44)).alloc (.cells #[.float .f64 c, .float .f64 d] 44) = v at *
  obtain ⟨⟨u0, u1⟩, -⟩ := twoC A0
  obtain ⟨⟨u2, u3⟩, -⟩ := twoC A1
  go_cut [5] from 7 (fun pv wc => GotZ v (zadd (ZV.c ⟨a, b⟩) (ZV.c ⟨c, d⟩)) pv wc)
  case first =>
    refine wp_region_held_drew (S := (fun w' => w'.cell? ⟨w.heap.size, 0, none⟩ = some (.float .f64 a) ∧ w'.cell? ⟨w.heap.size, 1, none⟩ = some (.float .f64 b) ∧ w'.cell? ⟨w.heap.size + 1, 0, none⟩ = some (.float .f64 c) ∧ w'.cell? ⟨w.heap.size + 1, 1, none⟩ = some (.float .f64 d))) (by kernel_rfl) ?_ (fun hHeld => ?_)
    · go_keep
    have B0 : Below v.heap.size v v.drew := (Below.refl _ _).drew
    generalize v.drew = wd at *
    refine wpAnyH_take (i := 0) (v := .agg #[.float .f64 a, .float .f64 b]) rfl (by kernel_rfl) (by kernel_rfl) (by kernel_rfl) (fun _ _ _ h => h) (Or.inl ⟨by kernel_rfl, fun w hS => by (obtain ⟨hS0, hS1, hS2, hS3⟩ := hS; go_simp)⟩) hHeld ?_
    change wpAnyH _ _ _ _ _ _ _ { tmps := List.toArray (_ :: _ :: _ :: _ :: _ :: _ :: _ :: .agg #[.float .f64 a, .float .f64 b] :: _ :: _ :: _ :: _ :: _ :: _ :: _ :: _ :: _ :: _ :: _ :: _ :: _ :: []), defers := [] } _
    refine wpAnyH_take (i := 2) (v := .agg #[.float .f64 c, .float .f64 d]) rfl (by kernel_rfl) (by kernel_rfl) (by kernel_rfl) (fun _ _ _ h => h) (Or.inl ⟨by kernel_rfl, fun w hS => by (obtain ⟨hS0, hS1, hS2, hS3⟩ := hS; go_simp)⟩) hHeld ?_
    change wpAnyH _ _ _ _ _ _ _ { tmps := List.toArray (_ :: _ :: _ :: _ :: _ :: _ :: _ :: .agg #[.float .f64 a, .float .f64 b] :: _ :: .agg #[.float .f64 c, .float .f64 d] :: _ :: _ :: _ :: _ :: _ :: _ :: _ :: _ :: _ :: _ :: _ :: []), defers := [] } _
    refine wpAnyH_ready (rs := [1, 5]) (by kernel_rfl) (by simp) ?_
    refine (AllReadyH.cons rfl (fun KK hK => ?_) (AllReadyH.cons rfl (fun KK hK => ?_) AllReadyH.nil))
    · skip
      go_simp
      refine (cToZ2 a b _).mono ?_
      rintro e w1 ⟨rfl, hb⟩
      have B1 := btrans B0 hb
      clear hb
      go_wp2_with fail
      clear hHeld
      refine hK.out _ _ (by obtain ⟨⟨k0, k1⟩, -⟩ := twoC (keepB B1 A0); obtain ⟨⟨k2, k3⟩, -⟩ := twoC (keepB B1 A1); exact ⟨k0, k1, k2, k3⟩) (fun hHeld => ?_)
      clear hK KK
      change wpAnyH _ _ _ _ _ _ _ { tmps := List.toArray (_ :: _ :: _ :: _ :: _ :: _ :: _ :: .agg #[.float .f64 a, .float .f64 b] :: .agg #[.float .f64 a, .float .f64 b] :: .agg #[.float .f64 c, .float .f64 d] :: _ :: _ :: _ :: _ :: _ :: _ :: _ :: _ :: _ :: _ :: _ :: []), defers := [] } _
      refine wpAnyH_ready (rs := [3, 5]) (by kernel_rfl) (by simp) ?_
      refine (AllReadyH.cons rfl (fun KK hK => ?_) (AllReadyH.cons rfl (fun KK hK => ?_) AllReadyH.nil))
      · skip
        go_simp
        refine (cToZ2 c d _).mono ?_
        rintro e w2 ⟨rfl, hb⟩
        have B2 := btrans B1 hb
        clear hb
        go_wp2_with fail
        clear hHeld
        refine hK.out _ _ (by obtain ⟨⟨k0, k1⟩, -⟩ := twoC (keepB B2 A0); obtain ⟨⟨k2, k3⟩, -⟩ := twoC (keepB B2 A1); exact ⟨k0, k1, k2, k3⟩) (fun hHeld => ?_)
        clear hK KK
        change wpAnyH _ _ _ _ _ _ _ { tmps := List.toArray (_ :: _ :: _ :: _ :: _ :: _ :: _ :: .agg #[.float .f64 a, .float .f64 b] :: .agg #[.float .f64 a, .float .f64 b] :: .agg #[.float .f64 c, .float .f64 d] :: .agg #[.float .f64 c, .float .f64 d] :: _ :: _ :: _ :: _ :: _ :: _ :: _ :: _ :: _ :: _ :: []), defers := [] } _
        refine wpAnyH_ready (rs := [4, 5]) (by kernel_rfl) (by simp) ?_
        refine (AllReadyH.cons rfl (fun KK hK => ?_) (AllReadyH.cons rfl (fun KK hK => ?_) AllReadyH.nil))
        · skip
          go_simp
          refine (cZAddS2 a b c d _).mono ?_
          rintro e w3 ⟨p, q, rfl, hC, hb⟩
          have B3 := btrans B2 hb
          clear hb
          go_wp2_with fail
          clear hHeld
          refine hK.out _ _ (by obtain ⟨⟨k0, k1⟩, -⟩ := twoC (keepB B3 A0); obtain ⟨⟨k2, k3⟩, -⟩ := twoC (keepB B3 A1); exact ⟨k0, k1, k2, k3⟩) (fun hHeld => ?_)
          clear hK KK
          change wpAnyH _ _ _ _ _ _ _ { tmps := List.toArray (_ :: _ :: _ :: _ :: _ :: _ :: _ :: .agg #[.float .f64 a, .float .f64 b] :: .agg #[.float .f64 a, .float .f64 b] :: .agg #[.float .f64 c, .float .f64 d] :: .agg #[.float .f64 c, .float .f64 d] :: .agg #[.float .f64 p, .float .f64 q] :: _ :: _ :: _ :: _ :: _ :: _ :: _ :: _ :: _ :: []), defers := [] } _
          refine wpAnyH_ready (rs := [5]) (by kernel_rfl) (by simp) ?_
          refine (AllReadyH.cons rfl (fun KK hK => ?_) AllReadyH.nil)
          go_simp
          have Ba := btrans B3 (balloc w3 (.cells #[.float .f64 0, .float .f64 0] 26))
          have zB : (w3.alloc (.cells #[.float .f64 0, .float .f64 0] 26)).heap[w3.heap.size]? = some (.cells #[.float .f64 0, .float .f64 0] 26 (0, 0)) := one_block w3 _
          have zlo : v.heap.size ≤ w3.heap.size := B3.size
          clear hHeld
          refine hK.out _ _ (by obtain ⟨⟨k0, k1⟩, -⟩ := twoC (keepB Ba A0); obtain ⟨⟨k2, k3⟩, -⟩ := twoC (keepB Ba A1); exact ⟨k0, k1, k2, k3⟩) (fun hHeld => ?_)
          clear hK KK
          change wpAnyH _ _ _ _ _ _ _ { tmps := List.toArray (_ :: _ :: _ :: _ :: _ :: .pointer (some ⟨w3.heap.size, 0, none⟩) :: _ :: .agg #[.float .f64 a, .float .f64 b] :: .agg #[.float .f64 a, .float .f64 b] :: .agg #[.float .f64 c, .float .f64 d] :: .agg #[.float .f64 c, .float .f64 d] :: .agg #[.float .f64 p, .float .f64 q] :: _ :: _ :: _ :: _ :: _ :: _ :: _ :: _ :: _ :: []), defers := [] } _
          refine wpAnyH_ready (rs := [6]) (by kernel_rfl) (by simp) ?_
          refine (AllReadyH.cons rfl (fun KK hK => ?_) AllReadyH.nil)
          have Bs := btrans B3 (balloc w3 (.cells #[.float .f64 p, .float .f64 q] 26))
          go_simp
          clear hHeld
          refine hK.out _ _ (by obtain ⟨⟨k0, k1⟩, -⟩ := twoC (keepB Bs A0); obtain ⟨⟨k2, k3⟩, -⟩ := twoC (keepB Bs A1); exact ⟨k0, k1, k2, k3⟩) (fun hHeld => ?_)
          clear hK KK
          change wpAnyH _ _ _ _ _ _ _ { tmps := List.toArray (_ :: _ :: _ :: _ :: _ :: .pointer (some ⟨w3.heap.size, 0, none⟩) :: _ :: .agg #[.float .f64 a, .float .f64 b] :: .agg #[.float .f64 a, .float .f64 b] :: .agg #[.float .f64 c, .float .f64 d] :: .agg #[.float .f64 c, .float .f64 d] :: .agg #[.float .f64 p, .float .f64 q] :: _ :: _ :: _ :: _ :: _ :: _ :: _ :: _ :: _ :: []), defers := [] } _
          refine wpAnyH_done (by kernel_rfl) ?_ _
          go_wp2_with fail
          go_meet
          exact gotN B3 hC
        · skip
          go_simp
          have Ba := btrans B2 (balloc w2 (.cells #[.float .f64 0, .float .f64 0] 26))
          have zB : (w2.alloc (.cells #[.float .f64 0, .float .f64 0] 26)).heap[w2.heap.size]? = some (.cells #[.float .f64 0, .float .f64 0] 26 (0, 0)) := one_block w2 _
          have zlo : v.heap.size ≤ w2.heap.size := B2.size
          clear hHeld
          refine hK.out _ _ (by obtain ⟨⟨k0, k1⟩, -⟩ := twoC (keepB Ba A0); obtain ⟨⟨k2, k3⟩, -⟩ := twoC (keepB Ba A1); exact ⟨k0, k1, k2, k3⟩) (fun hHeld => ?_)
          clear hK KK
          change wpAnyH _ _ _ _ _ _ _ { tmps := List.toArray (_ :: _ :: _ :: _ :: _ :: .pointer (some ⟨w2.heap.size, 0, none⟩) :: _ :: .agg #[.float .f64 a, .float .f64 b] :: .agg #[.float .f64 a, .float .f64 b] :: .agg #[.float .f64 c, .float .f64 d] :: .agg #[.float .f64 c, .float .f64 d] :: _ :: _ :: _ :: _ :: _ :: _ :: _ :: _ :: _ :: _ :: []), defers := [] } _
          refine wpAnyH_ready (rs := [4]) (by kernel_rfl) (by simp) ?_
          refine (AllReadyH.cons rfl (fun KK hK => ?_) AllReadyH.nil)
          go_simp
          refine (cZAddS2 a b c d _).mono ?_
          rintro e w3 ⟨p, q, rfl, hC, hb⟩
          have B3 := btrans Ba hb
          have zB := keepB hb zB
          clear hb
          go_wp2_with fail
          clear hHeld
          refine hK.out _ _ (by obtain ⟨⟨k0, k1⟩, -⟩ := twoC (keepB B3 A0); obtain ⟨⟨k2, k3⟩, -⟩ := twoC (keepB B3 A1); exact ⟨k0, k1, k2, k3⟩) (fun hHeld => ?_)
          clear hK KK
          change wpAnyH _ _ _ _ _ _ _ { tmps := List.toArray (_ :: _ :: _ :: _ :: _ :: .pointer (some ⟨w2.heap.size, 0, none⟩) :: _ :: .agg #[.float .f64 a, .float .f64 b] :: .agg #[.float .f64 a, .float .f64 b] :: .agg #[.float .f64 c, .float .f64 d] :: .agg #[.float .f64 c, .float .f64 d] :: .agg #[.float .f64 p, .float .f64 q] :: _ :: _ :: _ :: _ :: _ :: _ :: _ :: _ :: _ :: []), defers := [] } _
          refine wpAnyH_ready (rs := [6]) (by kernel_rfl) (by simp) ?_
          refine (AllReadyH.cons rfl (fun KK hK => ?_) AllReadyH.nil)
          obtain ⟨⟨z0, z1⟩, y0, y1⟩ := twoC zB
          have Bs : Below v.heap.size v ((w3.setCell ⟨w2.heap.size, 0, none⟩ (.float .f64 p)).setCell ⟨w2.heap.size, 1, none⟩ (.float .f64 q)) := below_set zlo (below_set zlo B3)
          go_simp
          clear hHeld
          refine hK.out _ _ (by obtain ⟨⟨k0, k1⟩, -⟩ := twoC (keepB Bs A0); obtain ⟨⟨k2, k3⟩, -⟩ := twoC (keepB Bs A1); exact ⟨k0, k1, k2, k3⟩) (fun hHeld => ?_)
          clear hK KK
          change wpAnyH _ _ _ _ _ _ _ { tmps := List.toArray (_ :: _ :: _ :: _ :: _ :: .pointer (some ⟨w2.heap.size, 0, none⟩) :: _ :: .agg #[.float .f64 a, .float .f64 b] :: .agg #[.float .f64 a, .float .f64 b] :: .agg #[.float .f64 c, .float .f64 d] :: .agg #[.float .f64 c, .float .f64 d] :: .agg #[.float .f64 p, .float .f64 q] :: _ :: _ :: _ :: _ :: _ :: _ :: _ :: _ :: _ :: []), defers := [] } _
          refine wpAnyH_done (by kernel_rfl) ?_ _
          go_wp2_with fail
          go_meet
          exact gotS B3 zB zlo hC
      · skip
        go_simp
        have Ba := btrans B1 (balloc w1 (.cells #[.float .f64 0, .float .f64 0] 26))
        have zB : (w1.alloc (.cells #[.float .f64 0, .float .f64 0] 26)).heap[w1.heap.size]? = some (.cells #[.float .f64 0, .float .f64 0] 26 (0, 0)) := one_block w1 _
        have zlo : v.heap.size ≤ w1.heap.size := B1.size
        clear hHeld
        refine hK.out _ _ (by obtain ⟨⟨k0, k1⟩, -⟩ := twoC (keepB Ba A0); obtain ⟨⟨k2, k3⟩, -⟩ := twoC (keepB Ba A1); exact ⟨k0, k1, k2, k3⟩) (fun hHeld => ?_)
        clear hK KK
        change wpAnyH _ _ _ _ _ _ _ { tmps := List.toArray (_ :: _ :: _ :: _ :: _ :: .pointer (some ⟨w1.heap.size, 0, none⟩) :: _ :: .agg #[.float .f64 a, .float .f64 b] :: .agg #[.float .f64 a, .float .f64 b] :: .agg #[.float .f64 c, .float .f64 d] :: _ :: _ :: _ :: _ :: _ :: _ :: _ :: _ :: _ :: _ :: _ :: []), defers := [] } _
        refine wpAnyH_ready (rs := [3]) (by kernel_rfl) (by simp) ?_
        refine (AllReadyH.cons rfl (fun KK hK => ?_) AllReadyH.nil)
        go_simp
        refine (cToZ2 c d _).mono ?_
        rintro e w2 ⟨rfl, hb⟩
        have B2 := btrans Ba hb
        have zB := keepB hb zB
        clear hb
        go_wp2_with fail
        clear hHeld
        refine hK.out _ _ (by obtain ⟨⟨k0, k1⟩, -⟩ := twoC (keepB B2 A0); obtain ⟨⟨k2, k3⟩, -⟩ := twoC (keepB B2 A1); exact ⟨k0, k1, k2, k3⟩) (fun hHeld => ?_)
        clear hK KK
        change wpAnyH _ _ _ _ _ _ _ { tmps := List.toArray (_ :: _ :: _ :: _ :: _ :: .pointer (some ⟨w1.heap.size, 0, none⟩) :: _ :: .agg #[.float .f64 a, .float .f64 b] :: .agg #[.float .f64 a, .float .f64 b] :: .agg #[.float .f64 c, .float .f64 d] :: .agg #[.float .f64 c, .float .f64 d] :: _ :: _ :: _ :: _ :: _ :: _ :: _ :: _ :: _ :: _ :: []), defers := [] } _
        refine wpAnyH_ready (rs := [4]) (by kernel_rfl) (by simp) ?_
        refine (AllReadyH.cons rfl (fun KK hK => ?_) AllReadyH.nil)
        go_simp
        refine (cZAddS2 a b c d _).mono ?_
        rintro e w3 ⟨p, q, rfl, hC, hb⟩
        have B3 := btrans B2 hb
        have zB := keepB hb zB
        clear hb
        go_wp2_with fail
        clear hHeld
        refine hK.out _ _ (by obtain ⟨⟨k0, k1⟩, -⟩ := twoC (keepB B3 A0); obtain ⟨⟨k2, k3⟩, -⟩ := twoC (keepB B3 A1); exact ⟨k0, k1, k2, k3⟩) (fun hHeld => ?_)
        clear hK KK
        change wpAnyH _ _ _ _ _ _ _ { tmps := List.toArray (_ :: _ :: _ :: _ :: _ :: .pointer (some ⟨w1.heap.size, 0, none⟩) :: _ :: .agg #[.float .f64 a, .float .f64 b] :: .agg #[.float .f64 a, .float .f64 b] :: .agg #[.float .f64 c, .float .f64 d] :: .agg #[.float .f64 c, .float .f64 d] :: .agg #[.float .f64 p, .float .f64 q] :: _ :: _ :: _ :: _ :: _ :: _ :: _ :: _ :: _ :: []), defers := [] } _
        refine wpAnyH_ready (rs := [6]) (by kernel_rfl) (by simp) ?_
        refine (AllReadyH.cons rfl (fun KK hK => ?_) AllReadyH.nil)
        obtain ⟨⟨z0, z1⟩, y0, y1⟩ := twoC zB
        have Bs : Below v.heap.size v ((w3.setCell ⟨w1.heap.size, 0, none⟩ (.float .f64 p)).setCell ⟨w1.heap.size, 1, none⟩ (.float .f64 q)) := below_set zlo (below_set zlo B3)
        go_simp
        clear hHeld
        refine hK.out _ _ (by obtain ⟨⟨k0, k1⟩, -⟩ := twoC (keepB Bs A0); obtain ⟨⟨k2, k3⟩, -⟩ := twoC (keepB Bs A1); exact ⟨k0, k1, k2, k3⟩) (fun hHeld => ?_)
        clear hK KK
        change wpAnyH _ _ _ _ _ _ _ { tmps := List.toArray (_ :: _ :: _ :: _ :: _ :: .pointer (some ⟨w1.heap.size, 0, none⟩) :: _ :: .agg #[.float .f64 a, .float .f64 b] :: .agg #[.float .f64 a, .float .f64 b] :: .agg #[.float .f64 c, .float .f64 d] :: .agg #[.float .f64 c, .float .f64 d] :: .agg #[.float .f64 p, .float .f64 q] :: _ :: _ :: _ :: _ :: _ :: _ :: _ :: _ :: _ :: []), defers := [] } _
        refine wpAnyH_done (by kernel_rfl) ?_ _
        go_wp2_with fail
        go_meet
        exact gotS B3 zB zlo hC
    · skip
      go_simp
      have Ba := btrans B0 (balloc wd (.cells #[.float .f64 0, .float .f64 0] 26))
      have zB : (wd.alloc (.cells #[.float .f64 0, .float .f64 0] 26)).heap[wd.heap.size]? = some (.cells #[.float .f64 0, .float .f64 0] 26 (0, 0)) := one_block wd _
      have zlo : v.heap.size ≤ wd.heap.size := B0.size
      clear hHeld
      refine hK.out _ _ (by obtain ⟨⟨k0, k1⟩, -⟩ := twoC (keepB Ba A0); obtain ⟨⟨k2, k3⟩, -⟩ := twoC (keepB Ba A1); exact ⟨k0, k1, k2, k3⟩) (fun hHeld => ?_)
      clear hK KK
      change wpAnyH _ _ _ _ _ _ _ { tmps := List.toArray (_ :: _ :: _ :: _ :: _ :: .pointer (some ⟨wd.heap.size, 0, none⟩) :: _ :: .agg #[.float .f64 a, .float .f64 b] :: _ :: .agg #[.float .f64 c, .float .f64 d] :: _ :: _ :: _ :: _ :: _ :: _ :: _ :: _ :: _ :: _ :: _ :: []), defers := [] } _
      refine wpAnyH_ready (rs := [1]) (by kernel_rfl) (by simp) ?_
      refine (AllReadyH.cons rfl (fun KK hK => ?_) AllReadyH.nil)
      go_simp
      refine (cToZ2 a b _).mono ?_
      rintro e w1 ⟨rfl, hb⟩
      have B1 := btrans Ba hb
      have zB := keepB hb zB
      clear hb
      go_wp2_with fail
      clear hHeld
      refine hK.out _ _ (by obtain ⟨⟨k0, k1⟩, -⟩ := twoC (keepB B1 A0); obtain ⟨⟨k2, k3⟩, -⟩ := twoC (keepB B1 A1); exact ⟨k0, k1, k2, k3⟩) (fun hHeld => ?_)
      clear hK KK
      change wpAnyH _ _ _ _ _ _ _ { tmps := List.toArray (_ :: _ :: _ :: _ :: _ :: .pointer (some ⟨wd.heap.size, 0, none⟩) :: _ :: .agg #[.float .f64 a, .float .f64 b] :: .agg #[.float .f64 a, .float .f64 b] :: .agg #[.float .f64 c, .float .f64 d] :: _ :: _ :: _ :: _ :: _ :: _ :: _ :: _ :: _ :: _ :: _ :: []), defers := [] } _
      refine wpAnyH_ready (rs := [3]) (by kernel_rfl) (by simp) ?_
      refine (AllReadyH.cons rfl (fun KK hK => ?_) AllReadyH.nil)
      go_simp
      refine (cToZ2 c d _).mono ?_
      rintro e w2 ⟨rfl, hb⟩
      have B2 := btrans B1 hb
      have zB := keepB hb zB
      clear hb
      go_wp2_with fail
      clear hHeld
      refine hK.out _ _ (by obtain ⟨⟨k0, k1⟩, -⟩ := twoC (keepB B2 A0); obtain ⟨⟨k2, k3⟩, -⟩ := twoC (keepB B2 A1); exact ⟨k0, k1, k2, k3⟩) (fun hHeld => ?_)
      clear hK KK
      change wpAnyH _ _ _ _ _ _ _ { tmps := List.toArray (_ :: _ :: _ :: _ :: _ :: .pointer (some ⟨wd.heap.size, 0, none⟩) :: _ :: .agg #[.float .f64 a, .float .f64 b] :: .agg #[.float .f64 a, .float .f64 b] :: .agg #[.float .f64 c, .float .f64 d] :: .agg #[.float .f64 c, .float .f64 d] :: _ :: _ :: _ :: _ :: _ :: _ :: _ :: _ :: _ :: _ :: []), defers := [] } _
      refine wpAnyH_ready (rs := [4]) (by kernel_rfl) (by simp) ?_
      refine (AllReadyH.cons rfl (fun KK hK => ?_) AllReadyH.nil)
      go_simp
      refine (cZAddS2 a b c d _).mono ?_
      rintro e w3 ⟨p, q, rfl, hC, hb⟩
      have B3 := btrans B2 hb
      have zB := keepB hb zB
      clear hb
      go_wp2_with fail
      clear hHeld
      refine hK.out _ _ (by obtain ⟨⟨k0, k1⟩, -⟩ := twoC (keepB B3 A0); obtain ⟨⟨k2, k3⟩, -⟩ := twoC (keepB B3 A1); exact ⟨k0, k1, k2, k3⟩) (fun hHeld => ?_)
      clear hK KK
      change wpAnyH _ _ _ _ _ _ _ { tmps := List.toArray (_ :: _ :: _ :: _ :: _ :: .pointer (some ⟨wd.heap.size, 0, none⟩) :: _ :: .agg #[.float .f64 a, .float .f64 b] :: .agg #[.float .f64 a, .float .f64 b] :: .agg #[.float .f64 c, .float .f64 d] :: .agg #[.float .f64 c, .float .f64 d] :: .agg #[.float .f64 p, .float .f64 q] :: _ :: _ :: _ :: _ :: _ :: _ :: _ :: _ :: _ :: []), defers := [] } _
      refine wpAnyH_ready (rs := [6]) (by kernel_rfl) (by simp) ?_
      refine (AllReadyH.cons rfl (fun KK hK => ?_) AllReadyH.nil)
      obtain ⟨⟨z0, z1⟩, y0, y1⟩ := twoC zB
      have Bs : Below v.heap.size v ((w3.setCell ⟨wd.heap.size, 0, none⟩ (.float .f64 p)).setCell ⟨wd.heap.size, 1, none⟩ (.float .f64 q)) := below_set zlo (below_set zlo B3)
      go_simp
      clear hHeld
      refine hK.out _ _ (by obtain ⟨⟨k0, k1⟩, -⟩ := twoC (keepB Bs A0); obtain ⟨⟨k2, k3⟩, -⟩ := twoC (keepB Bs A1); exact ⟨k0, k1, k2, k3⟩) (fun hHeld => ?_)
      clear hK KK
      change wpAnyH _ _ _ _ _ _ _ { tmps := List.toArray (_ :: _ :: _ :: _ :: _ :: .pointer (some ⟨wd.heap.size, 0, none⟩) :: _ :: .agg #[.float .f64 a, .float .f64 b] :: .agg #[.float .f64 a, .float .f64 b] :: .agg #[.float .f64 c, .float .f64 d] :: .agg #[.float .f64 c, .float .f64 d] :: .agg #[.float .f64 p, .float .f64 q] :: _ :: _ :: _ :: _ :: _ :: _ :: _ :: _ :: _ :: []), defers := [] } _
      refine wpAnyH_done (by kernel_rfl) ?_ _
      go_wp2_with fail
      go_meet
      exact gotS B3 zB zlo hC
  case rest =>
  obtain ⟨⟨b1, p1, q1, rfl, K1, hC1, -⟩, hb⟩ := hcut
  replace HB := btrans HB hb
  replace A0 := keepB hb A0
  replace A1 := keepB hb A1
  clear hb u0 u1 u2 u3
  generalize wc = wv at *
  obtain ⟨⟨u0, u1⟩, -⟩ := twoC A0
  obtain ⟨⟨u2, u3⟩, -⟩ := twoC A1
  go_wp2_with fail
  go_cut [6] from 12 (fun pv w2 => GotZ wv (zadd (ZV.c ⟨a, b⟩) (ZV.c ⟨c, d⟩)) pv w2)
  case first =>
    refine wp_region_held_drew (S := (fun w' => w'.cell? ⟨w.heap.size, 0, none⟩ = some (.float .f64 a) ∧ w'.cell? ⟨w.heap.size, 1, none⟩ = some (.float .f64 b) ∧ w'.cell? ⟨w.heap.size + 1, 0, none⟩ = some (.float .f64 c) ∧ w'.cell? ⟨w.heap.size + 1, 1, none⟩ = some (.float .f64 d))) (by kernel_rfl) ?_ (fun hHeld => ?_)
    · go_keep
    have B0 : Below wv.heap.size wv wv.drew := (Below.refl _ _).drew
    generalize wv.drew = wd at *
    refine wpAnyH_take (i := 0) (v := .agg #[.float .f64 a, .float .f64 b]) rfl (by kernel_rfl) (by kernel_rfl) (by kernel_rfl) (fun _ _ _ h => h) (Or.inl ⟨by kernel_rfl, fun w hS => by (obtain ⟨hS0, hS1, hS2, hS3⟩ := hS; go_simp)⟩) hHeld ?_
    change wpAnyH _ _ _ _ _ _ _ { tmps := List.toArray (_ :: _ :: _ :: _ :: _ :: _ :: _ :: _ :: _ :: _ :: _ :: _ :: .agg #[.float .f64 a, .float .f64 b] :: _ :: _ :: _ :: _ :: _ :: _ :: _ :: _ :: []), defers := [] } _
    refine wpAnyH_take (i := 2) (v := .agg #[.float .f64 c, .float .f64 d]) rfl (by kernel_rfl) (by kernel_rfl) (by kernel_rfl) (fun _ _ _ h => h) (Or.inl ⟨by kernel_rfl, fun w hS => by (obtain ⟨hS0, hS1, hS2, hS3⟩ := hS; go_simp)⟩) hHeld ?_
    change wpAnyH _ _ _ _ _ _ _ { tmps := List.toArray (_ :: _ :: _ :: _ :: _ :: _ :: _ :: _ :: _ :: _ :: _ :: _ :: .agg #[.float .f64 a, .float .f64 b] :: _ :: .agg #[.float .f64 c, .float .f64 d] :: _ :: _ :: _ :: _ :: _ :: _ :: []), defers := [] } _
    refine wpAnyH_ready (rs := [1, 5]) (by kernel_rfl) (by simp) ?_
    refine (AllReadyH.cons rfl (fun KK hK => ?_) (AllReadyH.cons rfl (fun KK hK => ?_) AllReadyH.nil))
    · skip
      go_simp
      refine (cToZ2 a b _).mono ?_
      rintro e w1 ⟨rfl, hb⟩
      have B1 := btrans B0 hb
      clear hb
      go_wp2_with fail
      clear hHeld
      refine hK.out _ _ (by obtain ⟨⟨k0, k1⟩, -⟩ := twoC (keepB B1 A0); obtain ⟨⟨k2, k3⟩, -⟩ := twoC (keepB B1 A1); exact ⟨k0, k1, k2, k3⟩) (fun hHeld => ?_)
      clear hK KK
      change wpAnyH _ _ _ _ _ _ _ { tmps := List.toArray (_ :: _ :: _ :: _ :: _ :: _ :: _ :: _ :: _ :: _ :: _ :: _ :: .agg #[.float .f64 a, .float .f64 b] :: .agg #[.float .f64 a, .float .f64 b] :: .agg #[.float .f64 c, .float .f64 d] :: _ :: _ :: _ :: _ :: _ :: _ :: []), defers := [] } _
      refine wpAnyH_ready (rs := [3, 5]) (by kernel_rfl) (by simp) ?_
      refine (AllReadyH.cons rfl (fun KK hK => ?_) (AllReadyH.cons rfl (fun KK hK => ?_) AllReadyH.nil))
      · skip
        go_simp
        refine (cToZ2 c d _).mono ?_
        rintro e w2 ⟨rfl, hb⟩
        have B2 := btrans B1 hb
        clear hb
        go_wp2_with fail
        clear hHeld
        refine hK.out _ _ (by obtain ⟨⟨k0, k1⟩, -⟩ := twoC (keepB B2 A0); obtain ⟨⟨k2, k3⟩, -⟩ := twoC (keepB B2 A1); exact ⟨k0, k1, k2, k3⟩) (fun hHeld => ?_)
        clear hK KK
        change wpAnyH _ _ _ _ _ _ _ { tmps := List.toArray (_ :: _ :: _ :: _ :: _ :: _ :: _ :: _ :: _ :: _ :: _ :: _ :: .agg #[.float .f64 a, .float .f64 b] :: .agg #[.float .f64 a, .float .f64 b] :: .agg #[.float .f64 c, .float .f64 d] :: .agg #[.float .f64 c, .float .f64 d] :: _ :: _ :: _ :: _ :: _ :: []), defers := [] } _
        refine wpAnyH_ready (rs := [4, 5]) (by kernel_rfl) (by simp) ?_
        refine (AllReadyH.cons rfl (fun KK hK => ?_) (AllReadyH.cons rfl (fun KK hK => ?_) AllReadyH.nil))
        · skip
          go_simp
          refine (cZAddI2 a b c d _).mono ?_
          rintro e w3 ⟨p, q, rfl, hC, hb⟩
          have B3 := btrans B2 hb
          clear hb
          go_wp2_with fail
          clear hHeld
          refine hK.out _ _ (by obtain ⟨⟨k0, k1⟩, -⟩ := twoC (keepB B3 A0); obtain ⟨⟨k2, k3⟩, -⟩ := twoC (keepB B3 A1); exact ⟨k0, k1, k2, k3⟩) (fun hHeld => ?_)
          clear hK KK
          change wpAnyH _ _ _ _ _ _ _ { tmps := List.toArray (_ :: _ :: _ :: _ :: _ :: _ :: _ :: _ :: _ :: _ :: _ :: _ :: .agg #[.float .f64 a, .float .f64 b] :: .agg #[.float .f64 a, .float .f64 b] :: .agg #[.float .f64 c, .float .f64 d] :: .agg #[.float .f64 c, .float .f64 d] :: .agg #[.float .f64 p, .float .f64 q] :: _ :: _ :: _ :: _ :: []), defers := [] } _
          refine wpAnyH_ready (rs := [5]) (by kernel_rfl) (by simp) ?_
          refine (AllReadyH.cons rfl (fun KK hK => ?_) AllReadyH.nil)
          go_simp
          have Ba := btrans B3 (balloc w3 (.cells #[.float .f64 0, .float .f64 0] 26))
          have zB : (w3.alloc (.cells #[.float .f64 0, .float .f64 0] 26)).heap[w3.heap.size]? = some (.cells #[.float .f64 0, .float .f64 0] 26 (0, 0)) := one_block w3 _
          have zlo : wv.heap.size ≤ w3.heap.size := B3.size
          clear hHeld
          refine hK.out _ _ (by obtain ⟨⟨k0, k1⟩, -⟩ := twoC (keepB Ba A0); obtain ⟨⟨k2, k3⟩, -⟩ := twoC (keepB Ba A1); exact ⟨k0, k1, k2, k3⟩) (fun hHeld => ?_)
          clear hK KK
          change wpAnyH _ _ _ _ _ _ _ { tmps := List.toArray (_ :: _ :: _ :: _ :: _ :: _ :: .pointer (some ⟨w3.heap.size, 0, none⟩) :: _ :: _ :: _ :: _ :: _ :: .agg #[.float .f64 a, .float .f64 b] :: .agg #[.float .f64 a, .float .f64 b] :: .agg #[.float .f64 c, .float .f64 d] :: .agg #[.float .f64 c, .float .f64 d] :: .agg #[.float .f64 p, .float .f64 q] :: _ :: _ :: _ :: _ :: []), defers := [] } _
          refine wpAnyH_ready (rs := [6]) (by kernel_rfl) (by simp) ?_
          refine (AllReadyH.cons rfl (fun KK hK => ?_) AllReadyH.nil)
          have Bs := btrans B3 (balloc w3 (.cells #[.float .f64 p, .float .f64 q] 26))
          go_simp
          clear hHeld
          refine hK.out _ _ (by obtain ⟨⟨k0, k1⟩, -⟩ := twoC (keepB Bs A0); obtain ⟨⟨k2, k3⟩, -⟩ := twoC (keepB Bs A1); exact ⟨k0, k1, k2, k3⟩) (fun hHeld => ?_)
          clear hK KK
          change wpAnyH _ _ _ _ _ _ _ { tmps := List.toArray (_ :: _ :: _ :: _ :: _ :: _ :: .pointer (some ⟨w3.heap.size, 0, none⟩) :: _ :: _ :: _ :: _ :: _ :: .agg #[.float .f64 a, .float .f64 b] :: .agg #[.float .f64 a, .float .f64 b] :: .agg #[.float .f64 c, .float .f64 d] :: .agg #[.float .f64 c, .float .f64 d] :: .agg #[.float .f64 p, .float .f64 q] :: _ :: _ :: _ :: _ :: []), defers := [] } _
          refine wpAnyH_done (by kernel_rfl) ?_ _
          go_wp2_with fail
          go_meet
          exact gotN B3 hC
        · skip
          go_simp
          have Ba := btrans B2 (balloc w2 (.cells #[.float .f64 0, .float .f64 0] 26))
          have zB : (w2.alloc (.cells #[.float .f64 0, .float .f64 0] 26)).heap[w2.heap.size]? = some (.cells #[.float .f64 0, .float .f64 0] 26 (0, 0)) := one_block w2 _
          have zlo : wv.heap.size ≤ w2.heap.size := B2.size
          clear hHeld
          refine hK.out _ _ (by obtain ⟨⟨k0, k1⟩, -⟩ := twoC (keepB Ba A0); obtain ⟨⟨k2, k3⟩, -⟩ := twoC (keepB Ba A1); exact ⟨k0, k1, k2, k3⟩) (fun hHeld => ?_)
          clear hK KK
          change wpAnyH _ _ _ _ _ _ _ { tmps := List.toArray (_ :: _ :: _ :: _ :: _ :: _ :: .pointer (some ⟨w2.heap.size, 0, none⟩) :: _ :: _ :: _ :: _ :: _ :: .agg #[.float .f64 a, .float .f64 b] :: .agg #[.float .f64 a, .float .f64 b] :: .agg #[.float .f64 c, .float .f64 d] :: .agg #[.float .f64 c, .float .f64 d] :: _ :: _ :: _ :: _ :: _ :: []), defers := [] } _
          refine wpAnyH_ready (rs := [4]) (by kernel_rfl) (by simp) ?_
          refine (AllReadyH.cons rfl (fun KK hK => ?_) AllReadyH.nil)
          go_simp
          refine (cZAddI2 a b c d _).mono ?_
          rintro e w3 ⟨p, q, rfl, hC, hb⟩
          have B3 := btrans Ba hb
          have zB := keepB hb zB
          clear hb
          go_wp2_with fail
          clear hHeld
          refine hK.out _ _ (by obtain ⟨⟨k0, k1⟩, -⟩ := twoC (keepB B3 A0); obtain ⟨⟨k2, k3⟩, -⟩ := twoC (keepB B3 A1); exact ⟨k0, k1, k2, k3⟩) (fun hHeld => ?_)
          clear hK KK
          change wpAnyH _ _ _ _ _ _ _ { tmps := List.toArray (_ :: _ :: _ :: _ :: _ :: _ :: .pointer (some ⟨w2.heap.size, 0, none⟩) :: _ :: _ :: _ :: _ :: _ :: .agg #[.float .f64 a, .float .f64 b] :: .agg #[.float .f64 a, .float .f64 b] :: .agg #[.float .f64 c, .float .f64 d] :: .agg #[.float .f64 c, .float .f64 d] :: .agg #[.float .f64 p, .float .f64 q] :: _ :: _ :: _ :: _ :: []), defers := [] } _
          refine wpAnyH_ready (rs := [6]) (by kernel_rfl) (by simp) ?_
          refine (AllReadyH.cons rfl (fun KK hK => ?_) AllReadyH.nil)
          obtain ⟨⟨z0, z1⟩, y0, y1⟩ := twoC zB
          have Bs : Below wv.heap.size wv ((w3.setCell ⟨w2.heap.size, 0, none⟩ (.float .f64 p)).setCell ⟨w2.heap.size, 1, none⟩ (.float .f64 q)) := below_set zlo (below_set zlo B3)
          go_simp
          clear hHeld
          refine hK.out _ _ (by obtain ⟨⟨k0, k1⟩, -⟩ := twoC (keepB Bs A0); obtain ⟨⟨k2, k3⟩, -⟩ := twoC (keepB Bs A1); exact ⟨k0, k1, k2, k3⟩) (fun hHeld => ?_)
          clear hK KK
          change wpAnyH _ _ _ _ _ _ _ { tmps := List.toArray (_ :: _ :: _ :: _ :: _ :: _ :: .pointer (some ⟨w2.heap.size, 0, none⟩) :: _ :: _ :: _ :: _ :: _ :: .agg #[.float .f64 a, .float .f64 b] :: .agg #[.float .f64 a, .float .f64 b] :: .agg #[.float .f64 c, .float .f64 d] :: .agg #[.float .f64 c, .float .f64 d] :: .agg #[.float .f64 p, .float .f64 q] :: _ :: _ :: _ :: _ :: []), defers := [] } _
          refine wpAnyH_done (by kernel_rfl) ?_ _
          go_wp2_with fail
          go_meet
          exact gotS B3 zB zlo hC
      · skip
        go_simp
        have Ba := btrans B1 (balloc w1 (.cells #[.float .f64 0, .float .f64 0] 26))
        have zB : (w1.alloc (.cells #[.float .f64 0, .float .f64 0] 26)).heap[w1.heap.size]? = some (.cells #[.float .f64 0, .float .f64 0] 26 (0, 0)) := one_block w1 _
        have zlo : wv.heap.size ≤ w1.heap.size := B1.size
        clear hHeld
        refine hK.out _ _ (by obtain ⟨⟨k0, k1⟩, -⟩ := twoC (keepB Ba A0); obtain ⟨⟨k2, k3⟩, -⟩ := twoC (keepB Ba A1); exact ⟨k0, k1, k2, k3⟩) (fun hHeld => ?_)
        clear hK KK
        change wpAnyH _ _ _ _ _ _ _ { tmps := List.toArray (_ :: _ :: _ :: _ :: _ :: _ :: .pointer (some ⟨w1.heap.size, 0, none⟩) :: _ :: _ :: _ :: _ :: _ :: .agg #[.float .f64 a, .float .f64 b] :: .agg #[.float .f64 a, .float .f64 b] :: .agg #[.float .f64 c, .float .f64 d] :: _ :: _ :: _ :: _ :: _ :: _ :: []), defers := [] } _
        refine wpAnyH_ready (rs := [3]) (by kernel_rfl) (by simp) ?_
        refine (AllReadyH.cons rfl (fun KK hK => ?_) AllReadyH.nil)
        go_simp
        refine (cToZ2 c d _).mono ?_
        rintro e w2 ⟨rfl, hb⟩
        have B2 := btrans Ba hb
        have zB := keepB hb zB
        clear hb
        go_wp2_with fail
        clear hHeld
        refine hK.out _ _ (by obtain ⟨⟨k0, k1⟩, -⟩ := twoC (keepB B2 A0); obtain ⟨⟨k2, k3⟩, -⟩ := twoC (keepB B2 A1); exact ⟨k0, k1, k2, k3⟩) (fun hHeld => ?_)
        clear hK KK
        change wpAnyH _ _ _ _ _ _ _ { tmps := List.toArray (_ :: _ :: _ :: _ :: _ :: _ :: .pointer (some ⟨w1.heap.size, 0, none⟩) :: _ :: _ :: _ :: _ :: _ :: .agg #[.float .f64 a, .float .f64 b] :: .agg #[.float .f64 a, .float .f64 b] :: .agg #[.float .f64 c, .float .f64 d] :: .agg #[.float .f64 c, .float .f64 d] :: _ :: _ :: _ :: _ :: _ :: []), defers := [] } _
        refine wpAnyH_ready (rs := [4]) (by kernel_rfl) (by simp) ?_
        refine (AllReadyH.cons rfl (fun KK hK => ?_) AllReadyH.nil)
        go_simp
        refine (cZAddI2 a b c d _).mono ?_
        rintro e w3 ⟨p, q, rfl, hC, hb⟩
        have B3 := btrans B2 hb
        have zB := keepB hb zB
        clear hb
        go_wp2_with fail
        clear hHeld
        refine hK.out _ _ (by obtain ⟨⟨k0, k1⟩, -⟩ := twoC (keepB B3 A0); obtain ⟨⟨k2, k3⟩, -⟩ := twoC (keepB B3 A1); exact ⟨k0, k1, k2, k3⟩) (fun hHeld => ?_)
        clear hK KK
        change wpAnyH _ _ _ _ _ _ _ { tmps := List.toArray (_ :: _ :: _ :: _ :: _ :: _ :: .pointer (some ⟨w1.heap.size, 0, none⟩) :: _ :: _ :: _ :: _ :: _ :: .agg #[.float .f64 a, .float .f64 b] :: .agg #[.float .f64 a, .float .f64 b] :: .agg #[.float .f64 c, .float .f64 d] :: .agg #[.float .f64 c, .float .f64 d] :: .agg #[.float .f64 p, .float .f64 q] :: _ :: _ :: _ :: _ :: []), defers := [] } _
        refine wpAnyH_ready (rs := [6]) (by kernel_rfl) (by simp) ?_
        refine (AllReadyH.cons rfl (fun KK hK => ?_) AllReadyH.nil)
        obtain ⟨⟨z0, z1⟩, y0, y1⟩ := twoC zB
        have Bs : Below wv.heap.size wv ((w3.setCell ⟨w1.heap.size, 0, none⟩ (.float .f64 p)).setCell ⟨w1.heap.size, 1, none⟩ (.float .f64 q)) := below_set zlo (below_set zlo B3)
        go_simp
        clear hHeld
        refine hK.out _ _ (by obtain ⟨⟨k0, k1⟩, -⟩ := twoC (keepB Bs A0); obtain ⟨⟨k2, k3⟩, -⟩ := twoC (keepB Bs A1); exact ⟨k0, k1, k2, k3⟩) (fun hHeld => ?_)
        clear hK KK
        change wpAnyH _ _ _ _ _ _ _ { tmps := List.toArray (_ :: _ :: _ :: _ :: _ :: _ :: .pointer (some ⟨w1.heap.size, 0, none⟩) :: _ :: _ :: _ :: _ :: _ :: .agg #[.float .f64 a, .float .f64 b] :: .agg #[.float .f64 a, .float .f64 b] :: .agg #[.float .f64 c, .float .f64 d] :: .agg #[.float .f64 c, .float .f64 d] :: .agg #[.float .f64 p, .float .f64 q] :: _ :: _ :: _ :: _ :: []), defers := [] } _
        refine wpAnyH_done (by kernel_rfl) ?_ _
        go_wp2_with fail
        go_meet
        exact gotS B3 zB zlo hC
    · skip
      go_simp
      have Ba := btrans B0 (balloc wd (.cells #[.float .f64 0, .float .f64 0] 26))
      have zB : (wd.alloc (.cells #[.float .f64 0, .float .f64 0] 26)).heap[wd.heap.size]? = some (.cells #[.float .f64 0, .float .f64 0] 26 (0, 0)) := one_block wd _
      have zlo : wv.heap.size ≤ wd.heap.size := B0.size
      clear hHeld
      refine hK.out _ _ (by obtain ⟨⟨k0, k1⟩, -⟩ := twoC (keepB Ba A0); obtain ⟨⟨k2, k3⟩, -⟩ := twoC (keepB Ba A1); exact ⟨k0, k1, k2, k3⟩) (fun hHeld => ?_)
      clear hK KK
      change wpAnyH _ _ _ _ _ _ _ { tmps := List.toArray (_ :: _ :: _ :: _ :: _ :: _ :: .pointer (some ⟨wd.heap.size, 0, none⟩) :: _ :: _ :: _ :: _ :: _ :: .agg #[.float .f64 a, .float .f64 b] :: _ :: .agg #[.float .f64 c, .float .f64 d] :: _ :: _ :: _ :: _ :: _ :: _ :: []), defers := [] } _
      refine wpAnyH_ready (rs := [1]) (by kernel_rfl) (by simp) ?_
      refine (AllReadyH.cons rfl (fun KK hK => ?_) AllReadyH.nil)
      go_simp
      refine (cToZ2 a b _).mono ?_
      rintro e w1 ⟨rfl, hb⟩
      have B1 := btrans Ba hb
      have zB := keepB hb zB
      clear hb
      go_wp2_with fail
      clear hHeld
      refine hK.out _ _ (by obtain ⟨⟨k0, k1⟩, -⟩ := twoC (keepB B1 A0); obtain ⟨⟨k2, k3⟩, -⟩ := twoC (keepB B1 A1); exact ⟨k0, k1, k2, k3⟩) (fun hHeld => ?_)
      clear hK KK
      change wpAnyH _ _ _ _ _ _ _ { tmps := List.toArray (_ :: _ :: _ :: _ :: _ :: _ :: .pointer (some ⟨wd.heap.size, 0, none⟩) :: _ :: _ :: _ :: _ :: _ :: .agg #[.float .f64 a, .float .f64 b] :: .agg #[.float .f64 a, .float .f64 b] :: .agg #[.float .f64 c, .float .f64 d] :: _ :: _ :: _ :: _ :: _ :: _ :: []), defers := [] } _
      refine wpAnyH_ready (rs := [3]) (by kernel_rfl) (by simp) ?_
      refine (AllReadyH.cons rfl (fun KK hK => ?_) AllReadyH.nil)
      go_simp
      refine (cToZ2 c d _).mono ?_
      rintro e w2 ⟨rfl, hb⟩
      have B2 := btrans B1 hb
      have zB := keepB hb zB
      clear hb
      go_wp2_with fail
      clear hHeld
      refine hK.out _ _ (by obtain ⟨⟨k0, k1⟩, -⟩ := twoC (keepB B2 A0); obtain ⟨⟨k2, k3⟩, -⟩ := twoC (keepB B2 A1); exact ⟨k0, k1, k2, k3⟩) (fun hHeld => ?_)
      clear hK KK
      change wpAnyH _ _ _ _ _ _ _ { tmps := List.toArray (_ :: _ :: _ :: _ :: _ :: _ :: .pointer (some ⟨wd.heap.size, 0, none⟩) :: _ :: _ :: _ :: _ :: _ :: .agg #[.float .f64 a, .float .f64 b] :: .agg #[.float .f64 a, .float .f64 b] :: .agg #[.float .f64 c, .float .f64 d] :: .agg #[.float .f64 c, .float .f64 d] :: _ :: _ :: _ :: _ :: _ :: []), defers := [] } _
      refine wpAnyH_ready (rs := [4]) (by kernel_rfl) (by simp) ?_
      refine (AllReadyH.cons rfl (fun KK hK => ?_) AllReadyH.nil)
      go_simp
      refine (cZAddI2 a b c d _).mono ?_
      rintro e w3 ⟨p, q, rfl, hC, hb⟩
      have B3 := btrans B2 hb
      have zB := keepB hb zB
      clear hb
      go_wp2_with fail
      clear hHeld
      refine hK.out _ _ (by obtain ⟨⟨k0, k1⟩, -⟩ := twoC (keepB B3 A0); obtain ⟨⟨k2, k3⟩, -⟩ := twoC (keepB B3 A1); exact ⟨k0, k1, k2, k3⟩) (fun hHeld => ?_)
      clear hK KK
      change wpAnyH _ _ _ _ _ _ _ { tmps := List.toArray (_ :: _ :: _ :: _ :: _ :: _ :: .pointer (some ⟨wd.heap.size, 0, none⟩) :: _ :: _ :: _ :: _ :: _ :: .agg #[.float .f64 a, .float .f64 b] :: .agg #[.float .f64 a, .float .f64 b] :: .agg #[.float .f64 c, .float .f64 d] :: .agg #[.float .f64 c, .float .f64 d] :: .agg #[.float .f64 p, .float .f64 q] :: _ :: _ :: _ :: _ :: []), defers := [] } _
      refine wpAnyH_ready (rs := [6]) (by kernel_rfl) (by simp) ?_
      refine (AllReadyH.cons rfl (fun KK hK => ?_) AllReadyH.nil)
      obtain ⟨⟨z0, z1⟩, y0, y1⟩ := twoC zB
      have Bs : Below wv.heap.size wv ((w3.setCell ⟨wd.heap.size, 0, none⟩ (.float .f64 p)).setCell ⟨wd.heap.size, 1, none⟩ (.float .f64 q)) := below_set zlo (below_set zlo B3)
      go_simp
      clear hHeld
      refine hK.out _ _ (by obtain ⟨⟨k0, k1⟩, -⟩ := twoC (keepB Bs A0); obtain ⟨⟨k2, k3⟩, -⟩ := twoC (keepB Bs A1); exact ⟨k0, k1, k2, k3⟩) (fun hHeld => ?_)
      clear hK KK
      change wpAnyH _ _ _ _ _ _ _ { tmps := List.toArray (_ :: _ :: _ :: _ :: _ :: _ :: .pointer (some ⟨wd.heap.size, 0, none⟩) :: _ :: _ :: _ :: _ :: _ :: .agg #[.float .f64 a, .float .f64 b] :: .agg #[.float .f64 a, .float .f64 b] :: .agg #[.float .f64 c, .float .f64 d] :: .agg #[.float .f64 c, .float .f64 d] :: .agg #[.float .f64 p, .float .f64 q] :: _ :: _ :: _ :: _ :: []), defers := [] } _
      refine wpAnyH_done (by kernel_rfl) ?_ _
      go_wp2_with fail
      go_meet
      exact gotS B3 zB zlo hC
  case rest =>
  obtain ⟨⟨b2, p2, q2, rfl, K2, hC2, -⟩, hb⟩ := hcut
  replace HB := btrans HB hb
  replace K1 := keepB hb K1
  clear hb u0 u1 u2 u3 A0 A1
  obtain ⟨⟨u0, u1⟩, -⟩ := twoC K1
  obtain ⟨⟨u2, u3⟩, -⟩ := twoC K2
  go_wp2_with fail
  refine (cEqZ2 p2 q2 p1 q1 _ (hC2.trans hC1.symm)).mono ?_
  rintro e w3 ⟨rfl, hb⟩
  replace HB := btrans HB hb
  go_wp2
  go_ret
  exact ⟨rfl, HB⟩

set_option maxRecDepth 20000 in
set_option maxHeartbeats 6400000 in
theorem walkZMul (x y : ZV) (w : World) : Calls Try.prog 7 #[x.val, y.val] w fun e w' => e = .returned (.bool true) ∧ Below w.heap.size w w' := by
  obtain ⟨a, b⟩ := x
  obtain ⟨c, d⟩ := y
  unfold ZV.val
  have HB := btrans (balloc w (.cells #[.float .f64 a, .float .f64 b] 44)) (balloc _ (.cells #[.float .f64 c, .float .f64 d] 44))
  obtain ⟨A0, A1⟩ := twoB w (.cells #[.float .f64 a, .float .f64 b] 44) (.cells #[.float .f64 c, .float .f64 d] 44)
  go_enter Try.func7, Try.ntmps7
  go_wp2_with fail
  generalize (w.alloc (.cells #[.float .f64 a, .float .f64 b] 44)).alloc (.cells #[.float .f64 c, .float .f64 d] 44) = v at *
  obtain ⟨⟨u0, u1⟩, -⟩ := twoC A0
  obtain ⟨⟨u2, u3⟩, -⟩ := twoC A1
  go_cut [5] from 7 (fun pv wc => GotZ v (zmul (ZV.c ⟨a, b⟩) (ZV.c ⟨c, d⟩)) pv wc)
  case first =>
    refine wp_region_held_drew (S := (fun w' => w'.cell? ⟨w.heap.size, 0, none⟩ = some (.float .f64 a) ∧ w'.cell? ⟨w.heap.size, 1, none⟩ = some (.float .f64 b) ∧ w'.cell? ⟨w.heap.size + 1, 0, none⟩ = some (.float .f64 c) ∧ w'.cell? ⟨w.heap.size + 1, 1, none⟩ = some (.float .f64 d))) (by kernel_rfl) ?_ (fun hHeld => ?_)
    · go_keep
    have B0 : Below v.heap.size v v.drew := (Below.refl _ _).drew
    generalize v.drew = wd at *
    refine wpAnyH_take (i := 0) (v := .agg #[.float .f64 a, .float .f64 b]) rfl (by kernel_rfl) (by kernel_rfl) (by kernel_rfl) (fun _ _ _ h => h) (Or.inl ⟨by kernel_rfl, fun w hS => by (obtain ⟨hS0, hS1, hS2, hS3⟩ := hS; go_simp)⟩) hHeld ?_
    change wpAnyH _ _ _ _ _ _ _ { tmps := List.toArray (_ :: _ :: _ :: _ :: _ :: _ :: _ :: .agg #[.float .f64 a, .float .f64 b] :: _ :: _ :: _ :: _ :: _ :: _ :: _ :: _ :: _ :: _ :: _ :: _ :: _ :: []), defers := [] } _
    refine wpAnyH_take (i := 2) (v := .agg #[.float .f64 c, .float .f64 d]) rfl (by kernel_rfl) (by kernel_rfl) (by kernel_rfl) (fun _ _ _ h => h) (Or.inl ⟨by kernel_rfl, fun w hS => by (obtain ⟨hS0, hS1, hS2, hS3⟩ := hS; go_simp)⟩) hHeld ?_
    change wpAnyH _ _ _ _ _ _ _ { tmps := List.toArray (_ :: _ :: _ :: _ :: _ :: _ :: _ :: .agg #[.float .f64 a, .float .f64 b] :: _ :: .agg #[.float .f64 c, .float .f64 d] :: _ :: _ :: _ :: _ :: _ :: _ :: _ :: _ :: _ :: _ :: _ :: []), defers := [] } _
    refine wpAnyH_ready (rs := [1, 5]) (by kernel_rfl) (by simp) ?_
    refine (AllReadyH.cons rfl (fun KK hK => ?_) (AllReadyH.cons rfl (fun KK hK => ?_) AllReadyH.nil))
    · skip
      go_simp
      refine (cToZ2 a b _).mono ?_
      rintro e w1 ⟨rfl, hb⟩
      have B1 := btrans B0 hb
      clear hb
      go_wp2_with fail
      clear hHeld
      refine hK.out _ _ (by obtain ⟨⟨k0, k1⟩, -⟩ := twoC (keepB B1 A0); obtain ⟨⟨k2, k3⟩, -⟩ := twoC (keepB B1 A1); exact ⟨k0, k1, k2, k3⟩) (fun hHeld => ?_)
      clear hK KK
      change wpAnyH _ _ _ _ _ _ _ { tmps := List.toArray (_ :: _ :: _ :: _ :: _ :: _ :: _ :: .agg #[.float .f64 a, .float .f64 b] :: .agg #[.float .f64 a, .float .f64 b] :: .agg #[.float .f64 c, .float .f64 d] :: _ :: _ :: _ :: _ :: _ :: _ :: _ :: _ :: _ :: _ :: _ :: []), defers := [] } _
      refine wpAnyH_ready (rs := [3, 5]) (by kernel_rfl) (by simp) ?_
      refine (AllReadyH.cons rfl (fun KK hK => ?_) (AllReadyH.cons rfl (fun KK hK => ?_) AllReadyH.nil))
      · skip
        go_simp
        refine (cToZ2 c d _).mono ?_
        rintro e w2 ⟨rfl, hb⟩
        have B2 := btrans B1 hb
        clear hb
        go_wp2_with fail
        clear hHeld
        refine hK.out _ _ (by obtain ⟨⟨k0, k1⟩, -⟩ := twoC (keepB B2 A0); obtain ⟨⟨k2, k3⟩, -⟩ := twoC (keepB B2 A1); exact ⟨k0, k1, k2, k3⟩) (fun hHeld => ?_)
        clear hK KK
        change wpAnyH _ _ _ _ _ _ _ { tmps := List.toArray (_ :: _ :: _ :: _ :: _ :: _ :: _ :: .agg #[.float .f64 a, .float .f64 b] :: .agg #[.float .f64 a, .float .f64 b] :: .agg #[.float .f64 c, .float .f64 d] :: .agg #[.float .f64 c, .float .f64 d] :: _ :: _ :: _ :: _ :: _ :: _ :: _ :: _ :: _ :: _ :: []), defers := [] } _
        refine wpAnyH_ready (rs := [4, 5]) (by kernel_rfl) (by simp) ?_
        refine (AllReadyH.cons rfl (fun KK hK => ?_) (AllReadyH.cons rfl (fun KK hK => ?_) AllReadyH.nil))
        · skip
          go_simp
          refine (cZMulS2 a b c d _).mono ?_
          rintro e w3 ⟨p, q, rfl, hC, hb⟩
          have B3 := btrans B2 hb
          clear hb
          go_wp2_with fail
          clear hHeld
          refine hK.out _ _ (by obtain ⟨⟨k0, k1⟩, -⟩ := twoC (keepB B3 A0); obtain ⟨⟨k2, k3⟩, -⟩ := twoC (keepB B3 A1); exact ⟨k0, k1, k2, k3⟩) (fun hHeld => ?_)
          clear hK KK
          change wpAnyH _ _ _ _ _ _ _ { tmps := List.toArray (_ :: _ :: _ :: _ :: _ :: _ :: _ :: .agg #[.float .f64 a, .float .f64 b] :: .agg #[.float .f64 a, .float .f64 b] :: .agg #[.float .f64 c, .float .f64 d] :: .agg #[.float .f64 c, .float .f64 d] :: .agg #[.float .f64 p, .float .f64 q] :: _ :: _ :: _ :: _ :: _ :: _ :: _ :: _ :: _ :: []), defers := [] } _
          refine wpAnyH_ready (rs := [5]) (by kernel_rfl) (by simp) ?_
          refine (AllReadyH.cons rfl (fun KK hK => ?_) AllReadyH.nil)
          go_simp
          have Ba := btrans B3 (balloc w3 (.cells #[.float .f64 0, .float .f64 0] 26))
          have zB : (w3.alloc (.cells #[.float .f64 0, .float .f64 0] 26)).heap[w3.heap.size]? = some (.cells #[.float .f64 0, .float .f64 0] 26 (0, 0)) := one_block w3 _
          have zlo : v.heap.size ≤ w3.heap.size := B3.size
          clear hHeld
          refine hK.out _ _ (by obtain ⟨⟨k0, k1⟩, -⟩ := twoC (keepB Ba A0); obtain ⟨⟨k2, k3⟩, -⟩ := twoC (keepB Ba A1); exact ⟨k0, k1, k2, k3⟩) (fun hHeld => ?_)
          clear hK KK
          change wpAnyH _ _ _ _ _ _ _ { tmps := List.toArray (_ :: _ :: _ :: _ :: _ :: .pointer (some ⟨w3.heap.size, 0, none⟩) :: _ :: .agg #[.float .f64 a, .float .f64 b] :: .agg #[.float .f64 a, .float .f64 b] :: .agg #[.float .f64 c, .float .f64 d] :: .agg #[.float .f64 c, .float .f64 d] :: .agg #[.float .f64 p, .float .f64 q] :: _ :: _ :: _ :: _ :: _ :: _ :: _ :: _ :: _ :: []), defers := [] } _
          refine wpAnyH_ready (rs := [6]) (by kernel_rfl) (by simp) ?_
          refine (AllReadyH.cons rfl (fun KK hK => ?_) AllReadyH.nil)
          have Bs := btrans B3 (balloc w3 (.cells #[.float .f64 p, .float .f64 q] 26))
          go_simp
          clear hHeld
          refine hK.out _ _ (by obtain ⟨⟨k0, k1⟩, -⟩ := twoC (keepB Bs A0); obtain ⟨⟨k2, k3⟩, -⟩ := twoC (keepB Bs A1); exact ⟨k0, k1, k2, k3⟩) (fun hHeld => ?_)
          clear hK KK
          change wpAnyH _ _ _ _ _ _ _ { tmps := List.toArray (_ :: _ :: _ :: _ :: _ :: .pointer (some ⟨w3.heap.size, 0, none⟩) :: _ :: .agg #[.float .f64 a, .float .f64 b] :: .agg #[.float .f64 a, .float .f64 b] :: .agg #[.float .f64 c, .float .f64 d] :: .agg #[.float .f64 c, .float .f64 d] :: .agg #[.float .f64 p, .float .f64 q] :: _ :: _ :: _ :: _ :: _ :: _ :: _ :: _ :: _ :: []), defers := [] } _
          refine wpAnyH_done (by kernel_rfl) ?_ _
          go_wp2_with fail
          go_meet
          exact gotN B3 hC
        · skip
          go_simp
          have Ba := btrans B2 (balloc w2 (.cells #[.float .f64 0, .float .f64 0] 26))
          have zB : (w2.alloc (.cells #[.float .f64 0, .float .f64 0] 26)).heap[w2.heap.size]? = some (.cells #[.float .f64 0, .float .f64 0] 26 (0, 0)) := one_block w2 _
          have zlo : v.heap.size ≤ w2.heap.size := B2.size
          clear hHeld
          refine hK.out _ _ (by obtain ⟨⟨k0, k1⟩, -⟩ := twoC (keepB Ba A0); obtain ⟨⟨k2, k3⟩, -⟩ := twoC (keepB Ba A1); exact ⟨k0, k1, k2, k3⟩) (fun hHeld => ?_)
          clear hK KK
          change wpAnyH _ _ _ _ _ _ _ { tmps := List.toArray (_ :: _ :: _ :: _ :: _ :: .pointer (some ⟨w2.heap.size, 0, none⟩) :: _ :: .agg #[.float .f64 a, .float .f64 b] :: .agg #[.float .f64 a, .float .f64 b] :: .agg #[.float .f64 c, .float .f64 d] :: .agg #[.float .f64 c, .float .f64 d] :: _ :: _ :: _ :: _ :: _ :: _ :: _ :: _ :: _ :: _ :: []), defers := [] } _
          refine wpAnyH_ready (rs := [4]) (by kernel_rfl) (by simp) ?_
          refine (AllReadyH.cons rfl (fun KK hK => ?_) AllReadyH.nil)
          go_simp
          refine (cZMulS2 a b c d _).mono ?_
          rintro e w3 ⟨p, q, rfl, hC, hb⟩
          have B3 := btrans Ba hb
          have zB := keepB hb zB
          clear hb
          go_wp2_with fail
          clear hHeld
          refine hK.out _ _ (by obtain ⟨⟨k0, k1⟩, -⟩ := twoC (keepB B3 A0); obtain ⟨⟨k2, k3⟩, -⟩ := twoC (keepB B3 A1); exact ⟨k0, k1, k2, k3⟩) (fun hHeld => ?_)
          clear hK KK
          change wpAnyH _ _ _ _ _ _ _ { tmps := List.toArray (_ :: _ :: _ :: _ :: _ :: .pointer (some ⟨w2.heap.size, 0, none⟩) :: _ :: .agg #[.float .f64 a, .float .f64 b] :: .agg #[.float .f64 a, .float .f64 b] :: .agg #[.float .f64 c, .float .f64 d] :: .agg #[.float .f64 c, .float .f64 d] :: .agg #[.float .f64 p, .float .f64 q] :: _ :: _ :: _ :: _ :: _ :: _ :: _ :: _ :: _ :: []), defers := [] } _
          refine wpAnyH_ready (rs := [6]) (by kernel_rfl) (by simp) ?_
          refine (AllReadyH.cons rfl (fun KK hK => ?_) AllReadyH.nil)
          obtain ⟨⟨z0, z1⟩, y0, y1⟩ := twoC zB
          have Bs : Below v.heap.size v ((w3.setCell ⟨w2.heap.size, 0, none⟩ (.float .f64 p)).setCell ⟨w2.heap.size, 1, none⟩ (.float .f64 q)) := below_set zlo (below_set zlo B3)
          go_simp
          clear hHeld
          refine hK.out _ _ (by obtain ⟨⟨k0, k1⟩, -⟩ := twoC (keepB Bs A0); obtain ⟨⟨k2, k3⟩, -⟩ := twoC (keepB Bs A1); exact ⟨k0, k1, k2, k3⟩) (fun hHeld => ?_)
          clear hK KK
          change wpAnyH _ _ _ _ _ _ _ { tmps := List.toArray (_ :: _ :: _ :: _ :: _ :: .pointer (some ⟨w2.heap.size, 0, none⟩) :: _ :: .agg #[.float .f64 a, .float .f64 b] :: .agg #[.float .f64 a, .float .f64 b] :: .agg #[.float .f64 c, .float .f64 d] :: .agg #[.float .f64 c, .float .f64 d] :: .agg #[.float .f64 p, .float .f64 q] :: _ :: _ :: _ :: _ :: _ :: _ :: _ :: _ :: _ :: []), defers := [] } _
          refine wpAnyH_done (by kernel_rfl) ?_ _
          go_wp2_with fail
          go_meet
          exact gotS B3 zB zlo hC
      · skip
        go_simp
        have Ba := btrans B1 (balloc w1 (.cells #[.float .f64 0, .float .f64 0] 26))
        have zB : (w1.alloc (.cells #[.float .f64 0, .float .f64 0] 26)).heap[w1.heap.size]? = some (.cells #[.float .f64 0, .float .f64 0] 26 (0, 0)) := one_block w1 _
        have zlo : v.heap.size ≤ w1.heap.size := B1.size
        clear hHeld
        refine hK.out _ _ (by obtain ⟨⟨k0, k1⟩, -⟩ := twoC (keepB Ba A0); obtain ⟨⟨k2, k3⟩, -⟩ := twoC (keepB Ba A1); exact ⟨k0, k1, k2, k3⟩) (fun hHeld => ?_)
        clear hK KK
        change wpAnyH _ _ _ _ _ _ _ { tmps := List.toArray (_ :: _ :: _ :: _ :: _ :: .pointer (some ⟨w1.heap.size, 0, none⟩) :: _ :: .agg #[.float .f64 a, .float .f64 b] :: .agg #[.float .f64 a, .float .f64 b] :: .agg #[.float .f64 c, .float .f64 d] :: _ :: _ :: _ :: _ :: _ :: _ :: _ :: _ :: _ :: _ :: _ :: []), defers := [] } _
        refine wpAnyH_ready (rs := [3]) (by kernel_rfl) (by simp) ?_
        refine (AllReadyH.cons rfl (fun KK hK => ?_) AllReadyH.nil)
        go_simp
        refine (cToZ2 c d _).mono ?_
        rintro e w2 ⟨rfl, hb⟩
        have B2 := btrans Ba hb
        have zB := keepB hb zB
        clear hb
        go_wp2_with fail
        clear hHeld
        refine hK.out _ _ (by obtain ⟨⟨k0, k1⟩, -⟩ := twoC (keepB B2 A0); obtain ⟨⟨k2, k3⟩, -⟩ := twoC (keepB B2 A1); exact ⟨k0, k1, k2, k3⟩) (fun hHeld => ?_)
        clear hK KK
        change wpAnyH _ _ _ _ _ _ _ { tmps := List.toArray (_ :: _ :: _ :: _ :: _ :: .pointer (some ⟨w1.heap.size, 0, none⟩) :: _ :: .agg #[.float .f64 a, .float .f64 b] :: .agg #[.float .f64 a, .float .f64 b] :: .agg #[.float .f64 c, .float .f64 d] :: .agg #[.float .f64 c, .float .f64 d] :: _ :: _ :: _ :: _ :: _ :: _ :: _ :: _ :: _ :: _ :: []), defers := [] } _
        refine wpAnyH_ready (rs := [4]) (by kernel_rfl) (by simp) ?_
        refine (AllReadyH.cons rfl (fun KK hK => ?_) AllReadyH.nil)
        go_simp
        refine (cZMulS2 a b c d _).mono ?_
        rintro e w3 ⟨p, q, rfl, hC, hb⟩
        have B3 := btrans B2 hb
        have zB := keepB hb zB
        clear hb
        go_wp2_with fail
        clear hHeld
        refine hK.out _ _ (by obtain ⟨⟨k0, k1⟩, -⟩ := twoC (keepB B3 A0); obtain ⟨⟨k2, k3⟩, -⟩ := twoC (keepB B3 A1); exact ⟨k0, k1, k2, k3⟩) (fun hHeld => ?_)
        clear hK KK
        change wpAnyH _ _ _ _ _ _ _ { tmps := List.toArray (_ :: _ :: _ :: _ :: _ :: .pointer (some ⟨w1.heap.size, 0, none⟩) :: _ :: .agg #[.float .f64 a, .float .f64 b] :: .agg #[.float .f64 a, .float .f64 b] :: .agg #[.float .f64 c, .float .f64 d] :: .agg #[.float .f64 c, .float .f64 d] :: .agg #[.float .f64 p, .float .f64 q] :: _ :: _ :: _ :: _ :: _ :: _ :: _ :: _ :: _ :: []), defers := [] } _
        refine wpAnyH_ready (rs := [6]) (by kernel_rfl) (by simp) ?_
        refine (AllReadyH.cons rfl (fun KK hK => ?_) AllReadyH.nil)
        obtain ⟨⟨z0, z1⟩, y0, y1⟩ := twoC zB
        have Bs : Below v.heap.size v ((w3.setCell ⟨w1.heap.size, 0, none⟩ (.float .f64 p)).setCell ⟨w1.heap.size, 1, none⟩ (.float .f64 q)) := below_set zlo (below_set zlo B3)
        go_simp
        clear hHeld
        refine hK.out _ _ (by obtain ⟨⟨k0, k1⟩, -⟩ := twoC (keepB Bs A0); obtain ⟨⟨k2, k3⟩, -⟩ := twoC (keepB Bs A1); exact ⟨k0, k1, k2, k3⟩) (fun hHeld => ?_)
        clear hK KK
        change wpAnyH _ _ _ _ _ _ _ { tmps := List.toArray (_ :: _ :: _ :: _ :: _ :: .pointer (some ⟨w1.heap.size, 0, none⟩) :: _ :: .agg #[.float .f64 a, .float .f64 b] :: .agg #[.float .f64 a, .float .f64 b] :: .agg #[.float .f64 c, .float .f64 d] :: .agg #[.float .f64 c, .float .f64 d] :: .agg #[.float .f64 p, .float .f64 q] :: _ :: _ :: _ :: _ :: _ :: _ :: _ :: _ :: _ :: []), defers := [] } _
        refine wpAnyH_done (by kernel_rfl) ?_ _
        go_wp2_with fail
        go_meet
        exact gotS B3 zB zlo hC
    · skip
      go_simp
      have Ba := btrans B0 (balloc wd (.cells #[.float .f64 0, .float .f64 0] 26))
      have zB : (wd.alloc (.cells #[.float .f64 0, .float .f64 0] 26)).heap[wd.heap.size]? = some (.cells #[.float .f64 0, .float .f64 0] 26 (0, 0)) := one_block wd _
      have zlo : v.heap.size ≤ wd.heap.size := B0.size
      clear hHeld
      refine hK.out _ _ (by obtain ⟨⟨k0, k1⟩, -⟩ := twoC (keepB Ba A0); obtain ⟨⟨k2, k3⟩, -⟩ := twoC (keepB Ba A1); exact ⟨k0, k1, k2, k3⟩) (fun hHeld => ?_)
      clear hK KK
      change wpAnyH _ _ _ _ _ _ _ { tmps := List.toArray (_ :: _ :: _ :: _ :: _ :: .pointer (some ⟨wd.heap.size, 0, none⟩) :: _ :: .agg #[.float .f64 a, .float .f64 b] :: _ :: .agg #[.float .f64 c, .float .f64 d] :: _ :: _ :: _ :: _ :: _ :: _ :: _ :: _ :: _ :: _ :: _ :: []), defers := [] } _
      refine wpAnyH_ready (rs := [1]) (by kernel_rfl) (by simp) ?_
      refine (AllReadyH.cons rfl (fun KK hK => ?_) AllReadyH.nil)
      go_simp
      refine (cToZ2 a b _).mono ?_
      rintro e w1 ⟨rfl, hb⟩
      have B1 := btrans Ba hb
      have zB := keepB hb zB
      clear hb
      go_wp2_with fail
      clear hHeld
      refine hK.out _ _ (by obtain ⟨⟨k0, k1⟩, -⟩ := twoC (keepB B1 A0); obtain ⟨⟨k2, k3⟩, -⟩ := twoC (keepB B1 A1); exact ⟨k0, k1, k2, k3⟩) (fun hHeld => ?_)
      clear hK KK
      change wpAnyH _ _ _ _ _ _ _ { tmps := List.toArray (_ :: _ :: _ :: _ :: _ :: .pointer (some ⟨wd.heap.size, 0, none⟩) :: _ :: .agg #[.float .f64 a, .float .f64 b] :: .agg #[.float .f64 a, .float .f64 b] :: .agg #[.float .f64 c, .float .f64 d] :: _ :: _ :: _ :: _ :: _ :: _ :: _ :: _ :: _ :: _ :: _ :: []), defers := [] } _
      refine wpAnyH_ready (rs := [3]) (by kernel_rfl) (by simp) ?_
      refine (AllReadyH.cons rfl (fun KK hK => ?_) AllReadyH.nil)
      go_simp
      refine (cToZ2 c d _).mono ?_
      rintro e w2 ⟨rfl, hb⟩
      have B2 := btrans B1 hb
      have zB := keepB hb zB
      clear hb
      go_wp2_with fail
      clear hHeld
      refine hK.out _ _ (by obtain ⟨⟨k0, k1⟩, -⟩ := twoC (keepB B2 A0); obtain ⟨⟨k2, k3⟩, -⟩ := twoC (keepB B2 A1); exact ⟨k0, k1, k2, k3⟩) (fun hHeld => ?_)
      clear hK KK
      change wpAnyH _ _ _ _ _ _ _ { tmps := List.toArray (_ :: _ :: _ :: _ :: _ :: .pointer (some ⟨wd.heap.size, 0, none⟩) :: _ :: .agg #[.float .f64 a, .float .f64 b] :: .agg #[.float .f64 a, .float .f64 b] :: .agg #[.float .f64 c, .float .f64 d] :: .agg #[.float .f64 c, .float .f64 d] :: _ :: _ :: _ :: _ :: _ :: _ :: _ :: _ :: _ :: _ :: []), defers := [] } _
      refine wpAnyH_ready (rs := [4]) (by kernel_rfl) (by simp) ?_
      refine (AllReadyH.cons rfl (fun KK hK => ?_) AllReadyH.nil)
      go_simp
      refine (cZMulS2 a b c d _).mono ?_
      rintro e w3 ⟨p, q, rfl, hC, hb⟩
      have B3 := btrans B2 hb
      have zB := keepB hb zB
      clear hb
      go_wp2_with fail
      clear hHeld
      refine hK.out _ _ (by obtain ⟨⟨k0, k1⟩, -⟩ := twoC (keepB B3 A0); obtain ⟨⟨k2, k3⟩, -⟩ := twoC (keepB B3 A1); exact ⟨k0, k1, k2, k3⟩) (fun hHeld => ?_)
      clear hK KK
      change wpAnyH _ _ _ _ _ _ _ { tmps := List.toArray (_ :: _ :: _ :: _ :: _ :: .pointer (some ⟨wd.heap.size, 0, none⟩) :: _ :: .agg #[.float .f64 a, .float .f64 b] :: .agg #[.float .f64 a, .float .f64 b] :: .agg #[.float .f64 c, .float .f64 d] :: .agg #[.float .f64 c, .float .f64 d] :: .agg #[.float .f64 p, .float .f64 q] :: _ :: _ :: _ :: _ :: _ :: _ :: _ :: _ :: _ :: []), defers := [] } _
      refine wpAnyH_ready (rs := [6]) (by kernel_rfl) (by simp) ?_
      refine (AllReadyH.cons rfl (fun KK hK => ?_) AllReadyH.nil)
      obtain ⟨⟨z0, z1⟩, y0, y1⟩ := twoC zB
      have Bs : Below v.heap.size v ((w3.setCell ⟨wd.heap.size, 0, none⟩ (.float .f64 p)).setCell ⟨wd.heap.size, 1, none⟩ (.float .f64 q)) := below_set zlo (below_set zlo B3)
      go_simp
      clear hHeld
      refine hK.out _ _ (by obtain ⟨⟨k0, k1⟩, -⟩ := twoC (keepB Bs A0); obtain ⟨⟨k2, k3⟩, -⟩ := twoC (keepB Bs A1); exact ⟨k0, k1, k2, k3⟩) (fun hHeld => ?_)
      clear hK KK
      change wpAnyH _ _ _ _ _ _ _ { tmps := List.toArray (_ :: _ :: _ :: _ :: _ :: .pointer (some ⟨wd.heap.size, 0, none⟩) :: _ :: .agg #[.float .f64 a, .float .f64 b] :: .agg #[.float .f64 a, .float .f64 b] :: .agg #[.float .f64 c, .float .f64 d] :: .agg #[.float .f64 c, .float .f64 d] :: .agg #[.float .f64 p, .float .f64 q] :: _ :: _ :: _ :: _ :: _ :: _ :: _ :: _ :: _ :: []), defers := [] } _
      refine wpAnyH_done (by kernel_rfl) ?_ _
      go_wp2_with fail
      go_meet
      exact gotS B3 zB zlo hC
  case rest =>
  obtain ⟨⟨b1, p1, q1, rfl, K1, hC1, -⟩, hb⟩ := hcut
  replace HB := btrans HB hb
  replace A0 := keepB hb A0
  replace A1 := keepB hb A1
  clear hb u0 u1 u2 u3
  generalize wc = wv at *
  obtain ⟨⟨u0, u1⟩, -⟩ := twoC A0
  obtain ⟨⟨u2, u3⟩, -⟩ := twoC A1
  go_wp2_with fail
  go_cut [6] from 12 (fun pv w2 => GotZ wv (zmul (ZV.c ⟨a, b⟩) (ZV.c ⟨c, d⟩)) pv w2)
  case first =>
    refine wp_region_held_drew (S := (fun w' => w'.cell? ⟨w.heap.size, 0, none⟩ = some (.float .f64 a) ∧ w'.cell? ⟨w.heap.size, 1, none⟩ = some (.float .f64 b) ∧ w'.cell? ⟨w.heap.size + 1, 0, none⟩ = some (.float .f64 c) ∧ w'.cell? ⟨w.heap.size + 1, 1, none⟩ = some (.float .f64 d))) (by kernel_rfl) ?_ (fun hHeld => ?_)
    · go_keep
    have B0 : Below wv.heap.size wv wv.drew := (Below.refl _ _).drew
    generalize wv.drew = wd at *
    refine wpAnyH_take (i := 0) (v := .agg #[.float .f64 a, .float .f64 b]) rfl (by kernel_rfl) (by kernel_rfl) (by kernel_rfl) (fun _ _ _ h => h) (Or.inl ⟨by kernel_rfl, fun w hS => by (obtain ⟨hS0, hS1, hS2, hS3⟩ := hS; go_simp)⟩) hHeld ?_
    change wpAnyH _ _ _ _ _ _ _ { tmps := List.toArray (_ :: _ :: _ :: _ :: _ :: _ :: _ :: _ :: _ :: _ :: _ :: _ :: .agg #[.float .f64 a, .float .f64 b] :: _ :: _ :: _ :: _ :: _ :: _ :: _ :: _ :: []), defers := [] } _
    refine wpAnyH_take (i := 2) (v := .agg #[.float .f64 c, .float .f64 d]) rfl (by kernel_rfl) (by kernel_rfl) (by kernel_rfl) (fun _ _ _ h => h) (Or.inl ⟨by kernel_rfl, fun w hS => by (obtain ⟨hS0, hS1, hS2, hS3⟩ := hS; go_simp)⟩) hHeld ?_
    change wpAnyH _ _ _ _ _ _ _ { tmps := List.toArray (_ :: _ :: _ :: _ :: _ :: _ :: _ :: _ :: _ :: _ :: _ :: _ :: .agg #[.float .f64 a, .float .f64 b] :: _ :: .agg #[.float .f64 c, .float .f64 d] :: _ :: _ :: _ :: _ :: _ :: _ :: []), defers := [] } _
    refine wpAnyH_ready (rs := [1, 5]) (by kernel_rfl) (by simp) ?_
    refine (AllReadyH.cons rfl (fun KK hK => ?_) (AllReadyH.cons rfl (fun KK hK => ?_) AllReadyH.nil))
    · skip
      go_simp
      refine (cToZ2 a b _).mono ?_
      rintro e w1 ⟨rfl, hb⟩
      have B1 := btrans B0 hb
      clear hb
      go_wp2_with fail
      clear hHeld
      refine hK.out _ _ (by obtain ⟨⟨k0, k1⟩, -⟩ := twoC (keepB B1 A0); obtain ⟨⟨k2, k3⟩, -⟩ := twoC (keepB B1 A1); exact ⟨k0, k1, k2, k3⟩) (fun hHeld => ?_)
      clear hK KK
      change wpAnyH _ _ _ _ _ _ _ { tmps := List.toArray (_ :: _ :: _ :: _ :: _ :: _ :: _ :: _ :: _ :: _ :: _ :: _ :: .agg #[.float .f64 a, .float .f64 b] :: .agg #[.float .f64 a, .float .f64 b] :: .agg #[.float .f64 c, .float .f64 d] :: _ :: _ :: _ :: _ :: _ :: _ :: []), defers := [] } _
      refine wpAnyH_ready (rs := [3, 5]) (by kernel_rfl) (by simp) ?_
      refine (AllReadyH.cons rfl (fun KK hK => ?_) (AllReadyH.cons rfl (fun KK hK => ?_) AllReadyH.nil))
      · skip
        go_simp
        refine (cToZ2 c d _).mono ?_
        rintro e w2 ⟨rfl, hb⟩
        have B2 := btrans B1 hb
        clear hb
        go_wp2_with fail
        clear hHeld
        refine hK.out _ _ (by obtain ⟨⟨k0, k1⟩, -⟩ := twoC (keepB B2 A0); obtain ⟨⟨k2, k3⟩, -⟩ := twoC (keepB B2 A1); exact ⟨k0, k1, k2, k3⟩) (fun hHeld => ?_)
        clear hK KK
        change wpAnyH _ _ _ _ _ _ _ { tmps := List.toArray (_ :: _ :: _ :: _ :: _ :: _ :: _ :: _ :: _ :: _ :: _ :: _ :: .agg #[.float .f64 a, .float .f64 b] :: .agg #[.float .f64 a, .float .f64 b] :: .agg #[.float .f64 c, .float .f64 d] :: .agg #[.float .f64 c, .float .f64 d] :: _ :: _ :: _ :: _ :: _ :: []), defers := [] } _
        refine wpAnyH_ready (rs := [4, 5]) (by kernel_rfl) (by simp) ?_
        refine (AllReadyH.cons rfl (fun KK hK => ?_) (AllReadyH.cons rfl (fun KK hK => ?_) AllReadyH.nil))
        · skip
          go_simp
          refine (cZMulI2 a b c d _).mono ?_
          rintro e w3 ⟨p, q, rfl, hC, hb⟩
          have B3 := btrans B2 hb
          clear hb
          go_wp2_with fail
          clear hHeld
          refine hK.out _ _ (by obtain ⟨⟨k0, k1⟩, -⟩ := twoC (keepB B3 A0); obtain ⟨⟨k2, k3⟩, -⟩ := twoC (keepB B3 A1); exact ⟨k0, k1, k2, k3⟩) (fun hHeld => ?_)
          clear hK KK
          change wpAnyH _ _ _ _ _ _ _ { tmps := List.toArray (_ :: _ :: _ :: _ :: _ :: _ :: _ :: _ :: _ :: _ :: _ :: _ :: .agg #[.float .f64 a, .float .f64 b] :: .agg #[.float .f64 a, .float .f64 b] :: .agg #[.float .f64 c, .float .f64 d] :: .agg #[.float .f64 c, .float .f64 d] :: .agg #[.float .f64 p, .float .f64 q] :: _ :: _ :: _ :: _ :: []), defers := [] } _
          refine wpAnyH_ready (rs := [5]) (by kernel_rfl) (by simp) ?_
          refine (AllReadyH.cons rfl (fun KK hK => ?_) AllReadyH.nil)
          go_simp
          have Ba := btrans B3 (balloc w3 (.cells #[.float .f64 0, .float .f64 0] 26))
          have zB : (w3.alloc (.cells #[.float .f64 0, .float .f64 0] 26)).heap[w3.heap.size]? = some (.cells #[.float .f64 0, .float .f64 0] 26 (0, 0)) := one_block w3 _
          have zlo : wv.heap.size ≤ w3.heap.size := B3.size
          clear hHeld
          refine hK.out _ _ (by obtain ⟨⟨k0, k1⟩, -⟩ := twoC (keepB Ba A0); obtain ⟨⟨k2, k3⟩, -⟩ := twoC (keepB Ba A1); exact ⟨k0, k1, k2, k3⟩) (fun hHeld => ?_)
          clear hK KK
          change wpAnyH _ _ _ _ _ _ _ { tmps := List.toArray (_ :: _ :: _ :: _ :: _ :: _ :: .pointer (some ⟨w3.heap.size, 0, none⟩) :: _ :: _ :: _ :: _ :: _ :: .agg #[.float .f64 a, .float .f64 b] :: .agg #[.float .f64 a, .float .f64 b] :: .agg #[.float .f64 c, .float .f64 d] :: .agg #[.float .f64 c, .float .f64 d] :: .agg #[.float .f64 p, .float .f64 q] :: _ :: _ :: _ :: _ :: []), defers := [] } _
          refine wpAnyH_ready (rs := [6]) (by kernel_rfl) (by simp) ?_
          refine (AllReadyH.cons rfl (fun KK hK => ?_) AllReadyH.nil)
          have Bs := btrans B3 (balloc w3 (.cells #[.float .f64 p, .float .f64 q] 26))
          go_simp
          clear hHeld
          refine hK.out _ _ (by obtain ⟨⟨k0, k1⟩, -⟩ := twoC (keepB Bs A0); obtain ⟨⟨k2, k3⟩, -⟩ := twoC (keepB Bs A1); exact ⟨k0, k1, k2, k3⟩) (fun hHeld => ?_)
          clear hK KK
          change wpAnyH _ _ _ _ _ _ _ { tmps := List.toArray (_ :: _ :: _ :: _ :: _ :: _ :: .pointer (some ⟨w3.heap.size, 0, none⟩) :: _ :: _ :: _ :: _ :: _ :: .agg #[.float .f64 a, .float .f64 b] :: .agg #[.float .f64 a, .float .f64 b] :: .agg #[.float .f64 c, .float .f64 d] :: .agg #[.float .f64 c, .float .f64 d] :: .agg #[.float .f64 p, .float .f64 q] :: _ :: _ :: _ :: _ :: []), defers := [] } _
          refine wpAnyH_done (by kernel_rfl) ?_ _
          go_wp2_with fail
          go_meet
          exact gotN B3 hC
        · skip
          go_simp
          have Ba := btrans B2 (balloc w2 (.cells #[.float .f64 0, .float .f64 0] 26))
          have zB : (w2.alloc (.cells #[.float .f64 0, .float .f64 0] 26)).heap[w2.heap.size]? = some (.cells #[.float .f64 0, .float .f64 0] 26 (0, 0)) := one_block w2 _
          have zlo : wv.heap.size ≤ w2.heap.size := B2.size
          clear hHeld
          refine hK.out _ _ (by obtain ⟨⟨k0, k1⟩, -⟩ := twoC (keepB Ba A0); obtain ⟨⟨k2, k3⟩, -⟩ := twoC (keepB Ba A1); exact ⟨k0, k1, k2, k3⟩) (fun hHeld => ?_)
          clear hK KK
          change wpAnyH _ _ _ _ _ _ _ { tmps := List.toArray (_ :: _ :: _ :: _ :: _ :: _ :: .pointer (some ⟨w2.heap.size, 0, none⟩) :: _ :: _ :: _ :: _ :: _ :: .agg #[.float .f64 a, .float .f64 b] :: .agg #[.float .f64 a, .float .f64 b] :: .agg #[.float .f64 c, .float .f64 d] :: .agg #[.float .f64 c, .float .f64 d] :: _ :: _ :: _ :: _ :: _ :: []), defers := [] } _
          refine wpAnyH_ready (rs := [4]) (by kernel_rfl) (by simp) ?_
          refine (AllReadyH.cons rfl (fun KK hK => ?_) AllReadyH.nil)
          go_simp
          refine (cZMulI2 a b c d _).mono ?_
          rintro e w3 ⟨p, q, rfl, hC, hb⟩
          have B3 := btrans Ba hb
          have zB := keepB hb zB
          clear hb
          go_wp2_with fail
          clear hHeld
          refine hK.out _ _ (by obtain ⟨⟨k0, k1⟩, -⟩ := twoC (keepB B3 A0); obtain ⟨⟨k2, k3⟩, -⟩ := twoC (keepB B3 A1); exact ⟨k0, k1, k2, k3⟩) (fun hHeld => ?_)
          clear hK KK
          change wpAnyH _ _ _ _ _ _ _ { tmps := List.toArray (_ :: _ :: _ :: _ :: _ :: _ :: .pointer (some ⟨w2.heap.size, 0, none⟩) :: _ :: _ :: _ :: _ :: _ :: .agg #[.float .f64 a, .float .f64 b] :: .agg #[.float .f64 a, .float .f64 b] :: .agg #[.float .f64 c, .float .f64 d] :: .agg #[.float .f64 c, .float .f64 d] :: .agg #[.float .f64 p, .float .f64 q] :: _ :: _ :: _ :: _ :: []), defers := [] } _
          refine wpAnyH_ready (rs := [6]) (by kernel_rfl) (by simp) ?_
          refine (AllReadyH.cons rfl (fun KK hK => ?_) AllReadyH.nil)
          obtain ⟨⟨z0, z1⟩, y0, y1⟩ := twoC zB
          have Bs : Below wv.heap.size wv ((w3.setCell ⟨w2.heap.size, 0, none⟩ (.float .f64 p)).setCell ⟨w2.heap.size, 1, none⟩ (.float .f64 q)) := below_set zlo (below_set zlo B3)
          go_simp
          clear hHeld
          refine hK.out _ _ (by obtain ⟨⟨k0, k1⟩, -⟩ := twoC (keepB Bs A0); obtain ⟨⟨k2, k3⟩, -⟩ := twoC (keepB Bs A1); exact ⟨k0, k1, k2, k3⟩) (fun hHeld => ?_)
          clear hK KK
          change wpAnyH _ _ _ _ _ _ _ { tmps := List.toArray (_ :: _ :: _ :: _ :: _ :: _ :: .pointer (some ⟨w2.heap.size, 0, none⟩) :: _ :: _ :: _ :: _ :: _ :: .agg #[.float .f64 a, .float .f64 b] :: .agg #[.float .f64 a, .float .f64 b] :: .agg #[.float .f64 c, .float .f64 d] :: .agg #[.float .f64 c, .float .f64 d] :: .agg #[.float .f64 p, .float .f64 q] :: _ :: _ :: _ :: _ :: []), defers := [] } _
          refine wpAnyH_done (by kernel_rfl) ?_ _
          go_wp2_with fail
          go_meet
          exact gotS B3 zB zlo hC
      · skip
        go_simp
        have Ba := btrans B1 (balloc w1 (.cells #[.float .f64 0, .float .f64 0] 26))
        have zB : (w1.alloc (.cells #[.float .f64 0, .float .f64 0] 26)).heap[w1.heap.size]? = some (.cells #[.float .f64 0, .float .f64 0] 26 (0, 0)) := one_block w1 _
        have zlo : wv.heap.size ≤ w1.heap.size := B1.size
        clear hHeld
        refine hK.out _ _ (by obtain ⟨⟨k0, k1⟩, -⟩ := twoC (keepB Ba A0); obtain ⟨⟨k2, k3⟩, -⟩ := twoC (keepB Ba A1); exact ⟨k0, k1, k2, k3⟩) (fun hHeld => ?_)
        clear hK KK
        change wpAnyH _ _ _ _ _ _ _ { tmps := List.toArray (_ :: _ :: _ :: _ :: _ :: _ :: .pointer (some ⟨w1.heap.size, 0, none⟩) :: _ :: _ :: _ :: _ :: _ :: .agg #[.float .f64 a, .float .f64 b] :: .agg #[.float .f64 a, .float .f64 b] :: .agg #[.float .f64 c, .float .f64 d] :: _ :: _ :: _ :: _ :: _ :: _ :: []), defers := [] } _
        refine wpAnyH_ready (rs := [3]) (by kernel_rfl) (by simp) ?_
        refine (AllReadyH.cons rfl (fun KK hK => ?_) AllReadyH.nil)
        go_simp
        refine (cToZ2 c d _).mono ?_
        rintro e w2 ⟨rfl, hb⟩
        have B2 := btrans Ba hb
        have zB := keepB hb zB
        clear hb
        go_wp2_with fail
        clear hHeld
        refine hK.out _ _ (by obtain ⟨⟨k0, k1⟩, -⟩ := twoC (keepB B2 A0); obtain ⟨⟨k2, k3⟩, -⟩ := twoC (keepB B2 A1); exact ⟨k0, k1, k2, k3⟩) (fun hHeld => ?_)
        clear hK KK
        change wpAnyH _ _ _ _ _ _ _ { tmps := List.toArray (_ :: _ :: _ :: _ :: _ :: _ :: .pointer (some ⟨w1.heap.size, 0, none⟩) :: _ :: _ :: _ :: _ :: _ :: .agg #[.float .f64 a, .float .f64 b] :: .agg #[.float .f64 a, .float .f64 b] :: .agg #[.float .f64 c, .float .f64 d] :: .agg #[.float .f64 c, .float .f64 d] :: _ :: _ :: _ :: _ :: _ :: []), defers := [] } _
        refine wpAnyH_ready (rs := [4]) (by kernel_rfl) (by simp) ?_
        refine (AllReadyH.cons rfl (fun KK hK => ?_) AllReadyH.nil)
        go_simp
        refine (cZMulI2 a b c d _).mono ?_
        rintro e w3 ⟨p, q, rfl, hC, hb⟩
        have B3 := btrans B2 hb
        have zB := keepB hb zB
        clear hb
        go_wp2_with fail
        clear hHeld
        refine hK.out _ _ (by obtain ⟨⟨k0, k1⟩, -⟩ := twoC (keepB B3 A0); obtain ⟨⟨k2, k3⟩, -⟩ := twoC (keepB B3 A1); exact ⟨k0, k1, k2, k3⟩) (fun hHeld => ?_)
        clear hK KK
        change wpAnyH _ _ _ _ _ _ _ { tmps := List.toArray (_ :: _ :: _ :: _ :: _ :: _ :: .pointer (some ⟨w1.heap.size, 0, none⟩) :: _ :: _ :: _ :: _ :: _ :: .agg #[.float .f64 a, .float .f64 b] :: .agg #[.float .f64 a, .float .f64 b] :: .agg #[.float .f64 c, .float .f64 d] :: .agg #[.float .f64 c, .float .f64 d] :: .agg #[.float .f64 p, .float .f64 q] :: _ :: _ :: _ :: _ :: []), defers := [] } _
        refine wpAnyH_ready (rs := [6]) (by kernel_rfl) (by simp) ?_
        refine (AllReadyH.cons rfl (fun KK hK => ?_) AllReadyH.nil)
        obtain ⟨⟨z0, z1⟩, y0, y1⟩ := twoC zB
        have Bs : Below wv.heap.size wv ((w3.setCell ⟨w1.heap.size, 0, none⟩ (.float .f64 p)).setCell ⟨w1.heap.size, 1, none⟩ (.float .f64 q)) := below_set zlo (below_set zlo B3)
        go_simp
        clear hHeld
        refine hK.out _ _ (by obtain ⟨⟨k0, k1⟩, -⟩ := twoC (keepB Bs A0); obtain ⟨⟨k2, k3⟩, -⟩ := twoC (keepB Bs A1); exact ⟨k0, k1, k2, k3⟩) (fun hHeld => ?_)
        clear hK KK
        change wpAnyH _ _ _ _ _ _ _ { tmps := List.toArray (_ :: _ :: _ :: _ :: _ :: _ :: .pointer (some ⟨w1.heap.size, 0, none⟩) :: _ :: _ :: _ :: _ :: _ :: .agg #[.float .f64 a, .float .f64 b] :: .agg #[.float .f64 a, .float .f64 b] :: .agg #[.float .f64 c, .float .f64 d] :: .agg #[.float .f64 c, .float .f64 d] :: .agg #[.float .f64 p, .float .f64 q] :: _ :: _ :: _ :: _ :: []), defers := [] } _
        refine wpAnyH_done (by kernel_rfl) ?_ _
        go_wp2_with fail
        go_meet
        exact gotS B3 zB zlo hC
    · skip
      go_simp
      have Ba := btrans B0 (balloc wd (.cells #[.float .f64 0, .float .f64 0] 26))
      have zB : (wd.alloc (.cells #[.float .f64 0, .float .f64 0] 26)).heap[wd.heap.size]? = some (.cells #[.float .f64 0, .float .f64 0] 26 (0, 0)) := one_block wd _
      have zlo : wv.heap.size ≤ wd.heap.size := B0.size
      clear hHeld
      refine hK.out _ _ (by obtain ⟨⟨k0, k1⟩, -⟩ := twoC (keepB Ba A0); obtain ⟨⟨k2, k3⟩, -⟩ := twoC (keepB Ba A1); exact ⟨k0, k1, k2, k3⟩) (fun hHeld => ?_)
      clear hK KK
      change wpAnyH _ _ _ _ _ _ _ { tmps := List.toArray (_ :: _ :: _ :: _ :: _ :: _ :: .pointer (some ⟨wd.heap.size, 0, none⟩) :: _ :: _ :: _ :: _ :: _ :: .agg #[.float .f64 a, .float .f64 b] :: _ :: .agg #[.float .f64 c, .float .f64 d] :: _ :: _ :: _ :: _ :: _ :: _ :: []), defers := [] } _
      refine wpAnyH_ready (rs := [1]) (by kernel_rfl) (by simp) ?_
      refine (AllReadyH.cons rfl (fun KK hK => ?_) AllReadyH.nil)
      go_simp
      refine (cToZ2 a b _).mono ?_
      rintro e w1 ⟨rfl, hb⟩
      have B1 := btrans Ba hb
      have zB := keepB hb zB
      clear hb
      go_wp2_with fail
      clear hHeld
      refine hK.out _ _ (by obtain ⟨⟨k0, k1⟩, -⟩ := twoC (keepB B1 A0); obtain ⟨⟨k2, k3⟩, -⟩ := twoC (keepB B1 A1); exact ⟨k0, k1, k2, k3⟩) (fun hHeld => ?_)
      clear hK KK
      change wpAnyH _ _ _ _ _ _ _ { tmps := List.toArray (_ :: _ :: _ :: _ :: _ :: _ :: .pointer (some ⟨wd.heap.size, 0, none⟩) :: _ :: _ :: _ :: _ :: _ :: .agg #[.float .f64 a, .float .f64 b] :: .agg #[.float .f64 a, .float .f64 b] :: .agg #[.float .f64 c, .float .f64 d] :: _ :: _ :: _ :: _ :: _ :: _ :: []), defers := [] } _
      refine wpAnyH_ready (rs := [3]) (by kernel_rfl) (by simp) ?_
      refine (AllReadyH.cons rfl (fun KK hK => ?_) AllReadyH.nil)
      go_simp
      refine (cToZ2 c d _).mono ?_
      rintro e w2 ⟨rfl, hb⟩
      have B2 := btrans B1 hb
      have zB := keepB hb zB
      clear hb
      go_wp2_with fail
      clear hHeld
      refine hK.out _ _ (by obtain ⟨⟨k0, k1⟩, -⟩ := twoC (keepB B2 A0); obtain ⟨⟨k2, k3⟩, -⟩ := twoC (keepB B2 A1); exact ⟨k0, k1, k2, k3⟩) (fun hHeld => ?_)
      clear hK KK
      change wpAnyH _ _ _ _ _ _ _ { tmps := List.toArray (_ :: _ :: _ :: _ :: _ :: _ :: .pointer (some ⟨wd.heap.size, 0, none⟩) :: _ :: _ :: _ :: _ :: _ :: .agg #[.float .f64 a, .float .f64 b] :: .agg #[.float .f64 a, .float .f64 b] :: .agg #[.float .f64 c, .float .f64 d] :: .agg #[.float .f64 c, .float .f64 d] :: _ :: _ :: _ :: _ :: _ :: []), defers := [] } _
      refine wpAnyH_ready (rs := [4]) (by kernel_rfl) (by simp) ?_
      refine (AllReadyH.cons rfl (fun KK hK => ?_) AllReadyH.nil)
      go_simp
      refine (cZMulI2 a b c d _).mono ?_
      rintro e w3 ⟨p, q, rfl, hC, hb⟩
      have B3 := btrans B2 hb
      have zB := keepB hb zB
      clear hb
      go_wp2_with fail
      clear hHeld
      refine hK.out _ _ (by obtain ⟨⟨k0, k1⟩, -⟩ := twoC (keepB B3 A0); obtain ⟨⟨k2, k3⟩, -⟩ := twoC (keepB B3 A1); exact ⟨k0, k1, k2, k3⟩) (fun hHeld => ?_)
      clear hK KK
      change wpAnyH _ _ _ _ _ _ _ { tmps := List.toArray (_ :: _ :: _ :: _ :: _ :: _ :: .pointer (some ⟨wd.heap.size, 0, none⟩) :: _ :: _ :: _ :: _ :: _ :: .agg #[.float .f64 a, .float .f64 b] :: .agg #[.float .f64 a, .float .f64 b] :: .agg #[.float .f64 c, .float .f64 d] :: .agg #[.float .f64 c, .float .f64 d] :: .agg #[.float .f64 p, .float .f64 q] :: _ :: _ :: _ :: _ :: []), defers := [] } _
      refine wpAnyH_ready (rs := [6]) (by kernel_rfl) (by simp) ?_
      refine (AllReadyH.cons rfl (fun KK hK => ?_) AllReadyH.nil)
      obtain ⟨⟨z0, z1⟩, y0, y1⟩ := twoC zB
      have Bs : Below wv.heap.size wv ((w3.setCell ⟨wd.heap.size, 0, none⟩ (.float .f64 p)).setCell ⟨wd.heap.size, 1, none⟩ (.float .f64 q)) := below_set zlo (below_set zlo B3)
      go_simp
      clear hHeld
      refine hK.out _ _ (by obtain ⟨⟨k0, k1⟩, -⟩ := twoC (keepB Bs A0); obtain ⟨⟨k2, k3⟩, -⟩ := twoC (keepB Bs A1); exact ⟨k0, k1, k2, k3⟩) (fun hHeld => ?_)
      clear hK KK
      change wpAnyH _ _ _ _ _ _ _ { tmps := List.toArray (_ :: _ :: _ :: _ :: _ :: _ :: .pointer (some ⟨wd.heap.size, 0, none⟩) :: _ :: _ :: _ :: _ :: _ :: .agg #[.float .f64 a, .float .f64 b] :: .agg #[.float .f64 a, .float .f64 b] :: .agg #[.float .f64 c, .float .f64 d] :: .agg #[.float .f64 c, .float .f64 d] :: .agg #[.float .f64 p, .float .f64 q] :: _ :: _ :: _ :: _ :: []), defers := [] } _
      refine wpAnyH_done (by kernel_rfl) ?_ _
      go_wp2_with fail
      go_meet
      exact gotS B3 zB zlo hC
  case rest =>
  obtain ⟨⟨b2, p2, q2, rfl, K2, hC2, -⟩, hb⟩ := hcut
  replace HB := btrans HB hb
  replace K1 := keepB hb K1
  clear hb u0 u1 u2 u3 A0 A1
  obtain ⟨⟨u0, u1⟩, -⟩ := twoC K1
  obtain ⟨⟨u2, u3⟩, -⟩ := twoC K2
  go_wp2_with fail
  refine (cEqZ2 p2 q2 p1 q1 _ (hC2.trans hC1.symm)).mono ?_
  rintro e w3 ⟨rfl, hb⟩
  replace HB := btrans HB hb
  go_wp2
  go_ret
  exact ⟨rfl, HB⟩

set_option maxRecDepth 20000 in
set_option maxHeartbeats 6400000 in
theorem walkZDiv (x y : ZV) (w : World) : Calls Try.prog 9 #[x.val, y.val] w fun e w' => e = .returned (.bool true) ∧ Below w.heap.size w w' := by
  obtain ⟨a, b⟩ := x
  obtain ⟨c, d⟩ := y
  unfold ZV.val
  have HB := btrans (balloc w (.cells #[.float .f64 a, .float .f64 b] 44)) (balloc _ (.cells #[.float .f64 c, .float .f64 d] 44))
  obtain ⟨A0, A1⟩ := twoB w (.cells #[.float .f64 a, .float .f64 b] 44) (.cells #[.float .f64 c, .float .f64 d] 44)
  go_enter Try.func9, Try.ntmps9
  go_wp2_with fail
  generalize (w.alloc (.cells #[.float .f64 a, .float .f64 b] 44)).alloc (.cells #[.float .f64 c, .float .f64 d] 44) = v at *
  obtain ⟨⟨u0, u1⟩, -⟩ := twoC A0
  obtain ⟨⟨u2, u3⟩, -⟩ := twoC A1
  go_cut [5] from 7 (fun pv wc => GotZ v (zdiv (ZV.c ⟨a, b⟩) (ZV.c ⟨c, d⟩)) pv wc)
  case first =>
    refine wp_region_held_drew (S := (fun w' => w'.cell? ⟨w.heap.size, 0, none⟩ = some (.float .f64 a) ∧ w'.cell? ⟨w.heap.size, 1, none⟩ = some (.float .f64 b) ∧ w'.cell? ⟨w.heap.size + 1, 0, none⟩ = some (.float .f64 c) ∧ w'.cell? ⟨w.heap.size + 1, 1, none⟩ = some (.float .f64 d))) (by kernel_rfl) ?_ (fun hHeld => ?_)
    · go_keep
    have B0 : Below v.heap.size v v.drew := (Below.refl _ _).drew
    generalize v.drew = wd at *
    refine wpAnyH_take (i := 0) (v := .agg #[.float .f64 a, .float .f64 b]) rfl (by kernel_rfl) (by kernel_rfl) (by kernel_rfl) (fun _ _ _ h => h) (Or.inl ⟨by kernel_rfl, fun w hS => by (obtain ⟨hS0, hS1, hS2, hS3⟩ := hS; go_simp)⟩) hHeld ?_
    change wpAnyH _ _ _ _ _ _ _ { tmps := List.toArray (_ :: _ :: _ :: _ :: _ :: _ :: _ :: .agg #[.float .f64 a, .float .f64 b] :: _ :: _ :: _ :: _ :: _ :: _ :: _ :: _ :: _ :: _ :: _ :: _ :: _ :: []), defers := [] } _
    refine wpAnyH_take (i := 2) (v := .agg #[.float .f64 c, .float .f64 d]) rfl (by kernel_rfl) (by kernel_rfl) (by kernel_rfl) (fun _ _ _ h => h) (Or.inl ⟨by kernel_rfl, fun w hS => by (obtain ⟨hS0, hS1, hS2, hS3⟩ := hS; go_simp)⟩) hHeld ?_
    change wpAnyH _ _ _ _ _ _ _ { tmps := List.toArray (_ :: _ :: _ :: _ :: _ :: _ :: _ :: .agg #[.float .f64 a, .float .f64 b] :: _ :: .agg #[.float .f64 c, .float .f64 d] :: _ :: _ :: _ :: _ :: _ :: _ :: _ :: _ :: _ :: _ :: _ :: []), defers := [] } _
    refine wpAnyH_ready (rs := [1, 5]) (by kernel_rfl) (by simp) ?_
    refine (AllReadyH.cons rfl (fun KK hK => ?_) (AllReadyH.cons rfl (fun KK hK => ?_) AllReadyH.nil))
    · skip
      go_simp
      refine (cToZ2 a b _).mono ?_
      rintro e w1 ⟨rfl, hb⟩
      have B1 := btrans B0 hb
      clear hb
      go_wp2_with fail
      clear hHeld
      refine hK.out _ _ (by obtain ⟨⟨k0, k1⟩, -⟩ := twoC (keepB B1 A0); obtain ⟨⟨k2, k3⟩, -⟩ := twoC (keepB B1 A1); exact ⟨k0, k1, k2, k3⟩) (fun hHeld => ?_)
      clear hK KK
      change wpAnyH _ _ _ _ _ _ _ { tmps := List.toArray (_ :: _ :: _ :: _ :: _ :: _ :: _ :: .agg #[.float .f64 a, .float .f64 b] :: .agg #[.float .f64 a, .float .f64 b] :: .agg #[.float .f64 c, .float .f64 d] :: _ :: _ :: _ :: _ :: _ :: _ :: _ :: _ :: _ :: _ :: _ :: []), defers := [] } _
      refine wpAnyH_ready (rs := [3, 5]) (by kernel_rfl) (by simp) ?_
      refine (AllReadyH.cons rfl (fun KK hK => ?_) (AllReadyH.cons rfl (fun KK hK => ?_) AllReadyH.nil))
      · skip
        go_simp
        refine (cToZ2 c d _).mono ?_
        rintro e w2 ⟨rfl, hb⟩
        have B2 := btrans B1 hb
        clear hb
        go_wp2_with fail
        clear hHeld
        refine hK.out _ _ (by obtain ⟨⟨k0, k1⟩, -⟩ := twoC (keepB B2 A0); obtain ⟨⟨k2, k3⟩, -⟩ := twoC (keepB B2 A1); exact ⟨k0, k1, k2, k3⟩) (fun hHeld => ?_)
        clear hK KK
        change wpAnyH _ _ _ _ _ _ _ { tmps := List.toArray (_ :: _ :: _ :: _ :: _ :: _ :: _ :: .agg #[.float .f64 a, .float .f64 b] :: .agg #[.float .f64 a, .float .f64 b] :: .agg #[.float .f64 c, .float .f64 d] :: .agg #[.float .f64 c, .float .f64 d] :: _ :: _ :: _ :: _ :: _ :: _ :: _ :: _ :: _ :: _ :: []), defers := [] } _
        refine wpAnyH_ready (rs := [4, 5]) (by kernel_rfl) (by simp) ?_
        refine (AllReadyH.cons rfl (fun KK hK => ?_) (AllReadyH.cons rfl (fun KK hK => ?_) AllReadyH.nil))
        · skip
          go_simp
          refine (cZDivS2 a b c d _).mono ?_
          rintro e w3 ⟨p, q, rfl, hC, hb⟩
          have B3 := btrans B2 hb
          clear hb
          go_wp2_with fail
          clear hHeld
          refine hK.out _ _ (by obtain ⟨⟨k0, k1⟩, -⟩ := twoC (keepB B3 A0); obtain ⟨⟨k2, k3⟩, -⟩ := twoC (keepB B3 A1); exact ⟨k0, k1, k2, k3⟩) (fun hHeld => ?_)
          clear hK KK
          change wpAnyH _ _ _ _ _ _ _ { tmps := List.toArray (_ :: _ :: _ :: _ :: _ :: _ :: _ :: .agg #[.float .f64 a, .float .f64 b] :: .agg #[.float .f64 a, .float .f64 b] :: .agg #[.float .f64 c, .float .f64 d] :: .agg #[.float .f64 c, .float .f64 d] :: .agg #[.float .f64 p, .float .f64 q] :: _ :: _ :: _ :: _ :: _ :: _ :: _ :: _ :: _ :: []), defers := [] } _
          refine wpAnyH_ready (rs := [5]) (by kernel_rfl) (by simp) ?_
          refine (AllReadyH.cons rfl (fun KK hK => ?_) AllReadyH.nil)
          go_simp
          have Ba := btrans B3 (balloc w3 (.cells #[.float .f64 0, .float .f64 0] 26))
          have zB : (w3.alloc (.cells #[.float .f64 0, .float .f64 0] 26)).heap[w3.heap.size]? = some (.cells #[.float .f64 0, .float .f64 0] 26 (0, 0)) := one_block w3 _
          have zlo : v.heap.size ≤ w3.heap.size := B3.size
          clear hHeld
          refine hK.out _ _ (by obtain ⟨⟨k0, k1⟩, -⟩ := twoC (keepB Ba A0); obtain ⟨⟨k2, k3⟩, -⟩ := twoC (keepB Ba A1); exact ⟨k0, k1, k2, k3⟩) (fun hHeld => ?_)
          clear hK KK
          change wpAnyH _ _ _ _ _ _ _ { tmps := List.toArray (_ :: _ :: _ :: _ :: _ :: .pointer (some ⟨w3.heap.size, 0, none⟩) :: _ :: .agg #[.float .f64 a, .float .f64 b] :: .agg #[.float .f64 a, .float .f64 b] :: .agg #[.float .f64 c, .float .f64 d] :: .agg #[.float .f64 c, .float .f64 d] :: .agg #[.float .f64 p, .float .f64 q] :: _ :: _ :: _ :: _ :: _ :: _ :: _ :: _ :: _ :: []), defers := [] } _
          refine wpAnyH_ready (rs := [6]) (by kernel_rfl) (by simp) ?_
          refine (AllReadyH.cons rfl (fun KK hK => ?_) AllReadyH.nil)
          have Bs := btrans B3 (balloc w3 (.cells #[.float .f64 p, .float .f64 q] 26))
          go_simp
          clear hHeld
          refine hK.out _ _ (by obtain ⟨⟨k0, k1⟩, -⟩ := twoC (keepB Bs A0); obtain ⟨⟨k2, k3⟩, -⟩ := twoC (keepB Bs A1); exact ⟨k0, k1, k2, k3⟩) (fun hHeld => ?_)
          clear hK KK
          change wpAnyH _ _ _ _ _ _ _ { tmps := List.toArray (_ :: _ :: _ :: _ :: _ :: .pointer (some ⟨w3.heap.size, 0, none⟩) :: _ :: .agg #[.float .f64 a, .float .f64 b] :: .agg #[.float .f64 a, .float .f64 b] :: .agg #[.float .f64 c, .float .f64 d] :: .agg #[.float .f64 c, .float .f64 d] :: .agg #[.float .f64 p, .float .f64 q] :: _ :: _ :: _ :: _ :: _ :: _ :: _ :: _ :: _ :: []), defers := [] } _
          refine wpAnyH_done (by kernel_rfl) ?_ _
          go_wp2_with fail
          go_meet
          exact gotN B3 hC
        · skip
          go_simp
          have Ba := btrans B2 (balloc w2 (.cells #[.float .f64 0, .float .f64 0] 26))
          have zB : (w2.alloc (.cells #[.float .f64 0, .float .f64 0] 26)).heap[w2.heap.size]? = some (.cells #[.float .f64 0, .float .f64 0] 26 (0, 0)) := one_block w2 _
          have zlo : v.heap.size ≤ w2.heap.size := B2.size
          clear hHeld
          refine hK.out _ _ (by obtain ⟨⟨k0, k1⟩, -⟩ := twoC (keepB Ba A0); obtain ⟨⟨k2, k3⟩, -⟩ := twoC (keepB Ba A1); exact ⟨k0, k1, k2, k3⟩) (fun hHeld => ?_)
          clear hK KK
          change wpAnyH _ _ _ _ _ _ _ { tmps := List.toArray (_ :: _ :: _ :: _ :: _ :: .pointer (some ⟨w2.heap.size, 0, none⟩) :: _ :: .agg #[.float .f64 a, .float .f64 b] :: .agg #[.float .f64 a, .float .f64 b] :: .agg #[.float .f64 c, .float .f64 d] :: .agg #[.float .f64 c, .float .f64 d] :: _ :: _ :: _ :: _ :: _ :: _ :: _ :: _ :: _ :: _ :: []), defers := [] } _
          refine wpAnyH_ready (rs := [4]) (by kernel_rfl) (by simp) ?_
          refine (AllReadyH.cons rfl (fun KK hK => ?_) AllReadyH.nil)
          go_simp
          refine (cZDivS2 a b c d _).mono ?_
          rintro e w3 ⟨p, q, rfl, hC, hb⟩
          have B3 := btrans Ba hb
          have zB := keepB hb zB
          clear hb
          go_wp2_with fail
          clear hHeld
          refine hK.out _ _ (by obtain ⟨⟨k0, k1⟩, -⟩ := twoC (keepB B3 A0); obtain ⟨⟨k2, k3⟩, -⟩ := twoC (keepB B3 A1); exact ⟨k0, k1, k2, k3⟩) (fun hHeld => ?_)
          clear hK KK
          change wpAnyH _ _ _ _ _ _ _ { tmps := List.toArray (_ :: _ :: _ :: _ :: _ :: .pointer (some ⟨w2.heap.size, 0, none⟩) :: _ :: .agg #[.float .f64 a, .float .f64 b] :: .agg #[.float .f64 a, .float .f64 b] :: .agg #[.float .f64 c, .float .f64 d] :: .agg #[.float .f64 c, .float .f64 d] :: .agg #[.float .f64 p, .float .f64 q] :: _ :: _ :: _ :: _ :: _ :: _ :: _ :: _ :: _ :: []), defers := [] } _
          refine wpAnyH_ready (rs := [6]) (by kernel_rfl) (by simp) ?_
          refine (AllReadyH.cons rfl (fun KK hK => ?_) AllReadyH.nil)
          obtain ⟨⟨z0, z1⟩, y0, y1⟩ := twoC zB
          have Bs : Below v.heap.size v ((w3.setCell ⟨w2.heap.size, 0, none⟩ (.float .f64 p)).setCell ⟨w2.heap.size, 1, none⟩ (.float .f64 q)) := below_set zlo (below_set zlo B3)
          go_simp
          clear hHeld
          refine hK.out _ _ (by obtain ⟨⟨k0, k1⟩, -⟩ := twoC (keepB Bs A0); obtain ⟨⟨k2, k3⟩, -⟩ := twoC (keepB Bs A1); exact ⟨k0, k1, k2, k3⟩) (fun hHeld => ?_)
          clear hK KK
          change wpAnyH _ _ _ _ _ _ _ { tmps := List.toArray (_ :: _ :: _ :: _ :: _ :: .pointer (some ⟨w2.heap.size, 0, none⟩) :: _ :: .agg #[.float .f64 a, .float .f64 b] :: .agg #[.float .f64 a, .float .f64 b] :: .agg #[.float .f64 c, .float .f64 d] :: .agg #[.float .f64 c, .float .f64 d] :: .agg #[.float .f64 p, .float .f64 q] :: _ :: _ :: _ :: _ :: _ :: _ :: _ :: _ :: _ :: []), defers := [] } _
          refine wpAnyH_done (by kernel_rfl) ?_ _
          go_wp2_with fail
          go_meet
          exact gotS B3 zB zlo hC
      · skip
        go_simp
        have Ba := btrans B1 (balloc w1 (.cells #[.float .f64 0, .float .f64 0] 26))
        have zB : (w1.alloc (.cells #[.float .f64 0, .float .f64 0] 26)).heap[w1.heap.size]? = some (.cells #[.float .f64 0, .float .f64 0] 26 (0, 0)) := one_block w1 _
        have zlo : v.heap.size ≤ w1.heap.size := B1.size
        clear hHeld
        refine hK.out _ _ (by obtain ⟨⟨k0, k1⟩, -⟩ := twoC (keepB Ba A0); obtain ⟨⟨k2, k3⟩, -⟩ := twoC (keepB Ba A1); exact ⟨k0, k1, k2, k3⟩) (fun hHeld => ?_)
        clear hK KK
        change wpAnyH _ _ _ _ _ _ _ { tmps := List.toArray (_ :: _ :: _ :: _ :: _ :: .pointer (some ⟨w1.heap.size, 0, none⟩) :: _ :: .agg #[.float .f64 a, .float .f64 b] :: .agg #[.float .f64 a, .float .f64 b] :: .agg #[.float .f64 c, .float .f64 d] :: _ :: _ :: _ :: _ :: _ :: _ :: _ :: _ :: _ :: _ :: _ :: []), defers := [] } _
        refine wpAnyH_ready (rs := [3]) (by kernel_rfl) (by simp) ?_
        refine (AllReadyH.cons rfl (fun KK hK => ?_) AllReadyH.nil)
        go_simp
        refine (cToZ2 c d _).mono ?_
        rintro e w2 ⟨rfl, hb⟩
        have B2 := btrans Ba hb
        have zB := keepB hb zB
        clear hb
        go_wp2_with fail
        clear hHeld
        refine hK.out _ _ (by obtain ⟨⟨k0, k1⟩, -⟩ := twoC (keepB B2 A0); obtain ⟨⟨k2, k3⟩, -⟩ := twoC (keepB B2 A1); exact ⟨k0, k1, k2, k3⟩) (fun hHeld => ?_)
        clear hK KK
        change wpAnyH _ _ _ _ _ _ _ { tmps := List.toArray (_ :: _ :: _ :: _ :: _ :: .pointer (some ⟨w1.heap.size, 0, none⟩) :: _ :: .agg #[.float .f64 a, .float .f64 b] :: .agg #[.float .f64 a, .float .f64 b] :: .agg #[.float .f64 c, .float .f64 d] :: .agg #[.float .f64 c, .float .f64 d] :: _ :: _ :: _ :: _ :: _ :: _ :: _ :: _ :: _ :: _ :: []), defers := [] } _
        refine wpAnyH_ready (rs := [4]) (by kernel_rfl) (by simp) ?_
        refine (AllReadyH.cons rfl (fun KK hK => ?_) AllReadyH.nil)
        go_simp
        refine (cZDivS2 a b c d _).mono ?_
        rintro e w3 ⟨p, q, rfl, hC, hb⟩
        have B3 := btrans B2 hb
        have zB := keepB hb zB
        clear hb
        go_wp2_with fail
        clear hHeld
        refine hK.out _ _ (by obtain ⟨⟨k0, k1⟩, -⟩ := twoC (keepB B3 A0); obtain ⟨⟨k2, k3⟩, -⟩ := twoC (keepB B3 A1); exact ⟨k0, k1, k2, k3⟩) (fun hHeld => ?_)
        clear hK KK
        change wpAnyH _ _ _ _ _ _ _ { tmps := List.toArray (_ :: _ :: _ :: _ :: _ :: .pointer (some ⟨w1.heap.size, 0, none⟩) :: _ :: .agg #[.float .f64 a, .float .f64 b] :: .agg #[.float .f64 a, .float .f64 b] :: .agg #[.float .f64 c, .float .f64 d] :: .agg #[.float .f64 c, .float .f64 d] :: .agg #[.float .f64 p, .float .f64 q] :: _ :: _ :: _ :: _ :: _ :: _ :: _ :: _ :: _ :: []), defers := [] } _
        refine wpAnyH_ready (rs := [6]) (by kernel_rfl) (by simp) ?_
        refine (AllReadyH.cons rfl (fun KK hK => ?_) AllReadyH.nil)
        obtain ⟨⟨z0, z1⟩, y0, y1⟩ := twoC zB
        have Bs : Below v.heap.size v ((w3.setCell ⟨w1.heap.size, 0, none⟩ (.float .f64 p)).setCell ⟨w1.heap.size, 1, none⟩ (.float .f64 q)) := below_set zlo (below_set zlo B3)
        go_simp
        clear hHeld
        refine hK.out _ _ (by obtain ⟨⟨k0, k1⟩, -⟩ := twoC (keepB Bs A0); obtain ⟨⟨k2, k3⟩, -⟩ := twoC (keepB Bs A1); exact ⟨k0, k1, k2, k3⟩) (fun hHeld => ?_)
        clear hK KK
        change wpAnyH _ _ _ _ _ _ _ { tmps := List.toArray (_ :: _ :: _ :: _ :: _ :: .pointer (some ⟨w1.heap.size, 0, none⟩) :: _ :: .agg #[.float .f64 a, .float .f64 b] :: .agg #[.float .f64 a, .float .f64 b] :: .agg #[.float .f64 c, .float .f64 d] :: .agg #[.float .f64 c, .float .f64 d] :: .agg #[.float .f64 p, .float .f64 q] :: _ :: _ :: _ :: _ :: _ :: _ :: _ :: _ :: _ :: []), defers := [] } _
        refine wpAnyH_done (by kernel_rfl) ?_ _
        go_wp2_with fail
        go_meet
        exact gotS B3 zB zlo hC
    · skip
      go_simp
      have Ba := btrans B0 (balloc wd (.cells #[.float .f64 0, .float .f64 0] 26))
      have zB : (wd.alloc (.cells #[.float .f64 0, .float .f64 0] 26)).heap[wd.heap.size]? = some (.cells #[.float .f64 0, .float .f64 0] 26 (0, 0)) := one_block wd _
      have zlo : v.heap.size ≤ wd.heap.size := B0.size
      clear hHeld
      refine hK.out _ _ (by obtain ⟨⟨k0, k1⟩, -⟩ := twoC (keepB Ba A0); obtain ⟨⟨k2, k3⟩, -⟩ := twoC (keepB Ba A1); exact ⟨k0, k1, k2, k3⟩) (fun hHeld => ?_)
      clear hK KK
      change wpAnyH _ _ _ _ _ _ _ { tmps := List.toArray (_ :: _ :: _ :: _ :: _ :: .pointer (some ⟨wd.heap.size, 0, none⟩) :: _ :: .agg #[.float .f64 a, .float .f64 b] :: _ :: .agg #[.float .f64 c, .float .f64 d] :: _ :: _ :: _ :: _ :: _ :: _ :: _ :: _ :: _ :: _ :: _ :: []), defers := [] } _
      refine wpAnyH_ready (rs := [1]) (by kernel_rfl) (by simp) ?_
      refine (AllReadyH.cons rfl (fun KK hK => ?_) AllReadyH.nil)
      go_simp
      refine (cToZ2 a b _).mono ?_
      rintro e w1 ⟨rfl, hb⟩
      have B1 := btrans Ba hb
      have zB := keepB hb zB
      clear hb
      go_wp2_with fail
      clear hHeld
      refine hK.out _ _ (by obtain ⟨⟨k0, k1⟩, -⟩ := twoC (keepB B1 A0); obtain ⟨⟨k2, k3⟩, -⟩ := twoC (keepB B1 A1); exact ⟨k0, k1, k2, k3⟩) (fun hHeld => ?_)
      clear hK KK
      change wpAnyH _ _ _ _ _ _ _ { tmps := List.toArray (_ :: _ :: _ :: _ :: _ :: .pointer (some ⟨wd.heap.size, 0, none⟩) :: _ :: .agg #[.float .f64 a, .float .f64 b] :: .agg #[.float .f64 a, .float .f64 b] :: .agg #[.float .f64 c, .float .f64 d] :: _ :: _ :: _ :: _ :: _ :: _ :: _ :: _ :: _ :: _ :: _ :: []), defers := [] } _
      refine wpAnyH_ready (rs := [3]) (by kernel_rfl) (by simp) ?_
      refine (AllReadyH.cons rfl (fun KK hK => ?_) AllReadyH.nil)
      go_simp
      refine (cToZ2 c d _).mono ?_
      rintro e w2 ⟨rfl, hb⟩
      have B2 := btrans B1 hb
      have zB := keepB hb zB
      clear hb
      go_wp2_with fail
      clear hHeld
      refine hK.out _ _ (by obtain ⟨⟨k0, k1⟩, -⟩ := twoC (keepB B2 A0); obtain ⟨⟨k2, k3⟩, -⟩ := twoC (keepB B2 A1); exact ⟨k0, k1, k2, k3⟩) (fun hHeld => ?_)
      clear hK KK
      change wpAnyH _ _ _ _ _ _ _ { tmps := List.toArray (_ :: _ :: _ :: _ :: _ :: .pointer (some ⟨wd.heap.size, 0, none⟩) :: _ :: .agg #[.float .f64 a, .float .f64 b] :: .agg #[.float .f64 a, .float .f64 b] :: .agg #[.float .f64 c, .float .f64 d] :: .agg #[.float .f64 c, .float .f64 d] :: _ :: _ :: _ :: _ :: _ :: _ :: _ :: _ :: _ :: _ :: []), defers := [] } _
      refine wpAnyH_ready (rs := [4]) (by kernel_rfl) (by simp) ?_
      refine (AllReadyH.cons rfl (fun KK hK => ?_) AllReadyH.nil)
      go_simp
      refine (cZDivS2 a b c d _).mono ?_
      rintro e w3 ⟨p, q, rfl, hC, hb⟩
      have B3 := btrans B2 hb
      have zB := keepB hb zB
      clear hb
      go_wp2_with fail
      clear hHeld
      refine hK.out _ _ (by obtain ⟨⟨k0, k1⟩, -⟩ := twoC (keepB B3 A0); obtain ⟨⟨k2, k3⟩, -⟩ := twoC (keepB B3 A1); exact ⟨k0, k1, k2, k3⟩) (fun hHeld => ?_)
      clear hK KK
      change wpAnyH _ _ _ _ _ _ _ { tmps := List.toArray (_ :: _ :: _ :: _ :: _ :: .pointer (some ⟨wd.heap.size, 0, none⟩) :: _ :: .agg #[.float .f64 a, .float .f64 b] :: .agg #[.float .f64 a, .float .f64 b] :: .agg #[.float .f64 c, .float .f64 d] :: .agg #[.float .f64 c, .float .f64 d] :: .agg #[.float .f64 p, .float .f64 q] :: _ :: _ :: _ :: _ :: _ :: _ :: _ :: _ :: _ :: []), defers := [] } _
      refine wpAnyH_ready (rs := [6]) (by kernel_rfl) (by simp) ?_
      refine (AllReadyH.cons rfl (fun KK hK => ?_) AllReadyH.nil)
      obtain ⟨⟨z0, z1⟩, y0, y1⟩ := twoC zB
      have Bs : Below v.heap.size v ((w3.setCell ⟨wd.heap.size, 0, none⟩ (.float .f64 p)).setCell ⟨wd.heap.size, 1, none⟩ (.float .f64 q)) := below_set zlo (below_set zlo B3)
      go_simp
      clear hHeld
      refine hK.out _ _ (by obtain ⟨⟨k0, k1⟩, -⟩ := twoC (keepB Bs A0); obtain ⟨⟨k2, k3⟩, -⟩ := twoC (keepB Bs A1); exact ⟨k0, k1, k2, k3⟩) (fun hHeld => ?_)
      clear hK KK
      change wpAnyH _ _ _ _ _ _ _ { tmps := List.toArray (_ :: _ :: _ :: _ :: _ :: .pointer (some ⟨wd.heap.size, 0, none⟩) :: _ :: .agg #[.float .f64 a, .float .f64 b] :: .agg #[.float .f64 a, .float .f64 b] :: .agg #[.float .f64 c, .float .f64 d] :: .agg #[.float .f64 c, .float .f64 d] :: .agg #[.float .f64 p, .float .f64 q] :: _ :: _ :: _ :: _ :: _ :: _ :: _ :: _ :: _ :: []), defers := [] } _
      refine wpAnyH_done (by kernel_rfl) ?_ _
      go_wp2_with fail
      go_meet
      exact gotS B3 zB zlo hC
  case rest =>
  obtain ⟨⟨b1, p1, q1, rfl, K1, hC1, -⟩, hb⟩ := hcut
  replace HB := btrans HB hb
  replace A0 := keepB hb A0
  replace A1 := keepB hb A1
  clear hb u0 u1 u2 u3
  generalize wc = wv at *
  obtain ⟨⟨u0, u1⟩, -⟩ := twoC A0
  obtain ⟨⟨u2, u3⟩, -⟩ := twoC A1
  go_wp2_with fail
  go_cut [6] from 12 (fun pv w2 => GotZ wv (zdiv (ZV.c ⟨a, b⟩) (ZV.c ⟨c, d⟩)) pv w2)
  case first =>
    refine wp_region_held_drew (S := (fun w' => w'.cell? ⟨w.heap.size, 0, none⟩ = some (.float .f64 a) ∧ w'.cell? ⟨w.heap.size, 1, none⟩ = some (.float .f64 b) ∧ w'.cell? ⟨w.heap.size + 1, 0, none⟩ = some (.float .f64 c) ∧ w'.cell? ⟨w.heap.size + 1, 1, none⟩ = some (.float .f64 d))) (by kernel_rfl) ?_ (fun hHeld => ?_)
    · go_keep
    have B0 : Below wv.heap.size wv wv.drew := (Below.refl _ _).drew
    generalize wv.drew = wd at *
    refine wpAnyH_take (i := 0) (v := .agg #[.float .f64 a, .float .f64 b]) rfl (by kernel_rfl) (by kernel_rfl) (by kernel_rfl) (fun _ _ _ h => h) (Or.inl ⟨by kernel_rfl, fun w hS => by (obtain ⟨hS0, hS1, hS2, hS3⟩ := hS; go_simp)⟩) hHeld ?_
    change wpAnyH _ _ _ _ _ _ _ { tmps := List.toArray (_ :: _ :: _ :: _ :: _ :: _ :: _ :: _ :: _ :: _ :: _ :: _ :: .agg #[.float .f64 a, .float .f64 b] :: _ :: _ :: _ :: _ :: _ :: _ :: _ :: _ :: []), defers := [] } _
    refine wpAnyH_take (i := 2) (v := .agg #[.float .f64 c, .float .f64 d]) rfl (by kernel_rfl) (by kernel_rfl) (by kernel_rfl) (fun _ _ _ h => h) (Or.inl ⟨by kernel_rfl, fun w hS => by (obtain ⟨hS0, hS1, hS2, hS3⟩ := hS; go_simp)⟩) hHeld ?_
    change wpAnyH _ _ _ _ _ _ _ { tmps := List.toArray (_ :: _ :: _ :: _ :: _ :: _ :: _ :: _ :: _ :: _ :: _ :: _ :: .agg #[.float .f64 a, .float .f64 b] :: _ :: .agg #[.float .f64 c, .float .f64 d] :: _ :: _ :: _ :: _ :: _ :: _ :: []), defers := [] } _
    refine wpAnyH_ready (rs := [1, 5]) (by kernel_rfl) (by simp) ?_
    refine (AllReadyH.cons rfl (fun KK hK => ?_) (AllReadyH.cons rfl (fun KK hK => ?_) AllReadyH.nil))
    · skip
      go_simp
      refine (cToZ2 a b _).mono ?_
      rintro e w1 ⟨rfl, hb⟩
      have B1 := btrans B0 hb
      clear hb
      go_wp2_with fail
      clear hHeld
      refine hK.out _ _ (by obtain ⟨⟨k0, k1⟩, -⟩ := twoC (keepB B1 A0); obtain ⟨⟨k2, k3⟩, -⟩ := twoC (keepB B1 A1); exact ⟨k0, k1, k2, k3⟩) (fun hHeld => ?_)
      clear hK KK
      change wpAnyH _ _ _ _ _ _ _ { tmps := List.toArray (_ :: _ :: _ :: _ :: _ :: _ :: _ :: _ :: _ :: _ :: _ :: _ :: .agg #[.float .f64 a, .float .f64 b] :: .agg #[.float .f64 a, .float .f64 b] :: .agg #[.float .f64 c, .float .f64 d] :: _ :: _ :: _ :: _ :: _ :: _ :: []), defers := [] } _
      refine wpAnyH_ready (rs := [3, 5]) (by kernel_rfl) (by simp) ?_
      refine (AllReadyH.cons rfl (fun KK hK => ?_) (AllReadyH.cons rfl (fun KK hK => ?_) AllReadyH.nil))
      · skip
        go_simp
        refine (cToZ2 c d _).mono ?_
        rintro e w2 ⟨rfl, hb⟩
        have B2 := btrans B1 hb
        clear hb
        go_wp2_with fail
        clear hHeld
        refine hK.out _ _ (by obtain ⟨⟨k0, k1⟩, -⟩ := twoC (keepB B2 A0); obtain ⟨⟨k2, k3⟩, -⟩ := twoC (keepB B2 A1); exact ⟨k0, k1, k2, k3⟩) (fun hHeld => ?_)
        clear hK KK
        change wpAnyH _ _ _ _ _ _ _ { tmps := List.toArray (_ :: _ :: _ :: _ :: _ :: _ :: _ :: _ :: _ :: _ :: _ :: _ :: .agg #[.float .f64 a, .float .f64 b] :: .agg #[.float .f64 a, .float .f64 b] :: .agg #[.float .f64 c, .float .f64 d] :: .agg #[.float .f64 c, .float .f64 d] :: _ :: _ :: _ :: _ :: _ :: []), defers := [] } _
        refine wpAnyH_ready (rs := [4, 5]) (by kernel_rfl) (by simp) ?_
        refine (AllReadyH.cons rfl (fun KK hK => ?_) (AllReadyH.cons rfl (fun KK hK => ?_) AllReadyH.nil))
        · skip
          go_simp
          refine (cZDivI2 a b c d _).mono ?_
          rintro e w3 ⟨p, q, rfl, hC, hb⟩
          have B3 := btrans B2 hb
          clear hb
          go_wp2_with fail
          clear hHeld
          refine hK.out _ _ (by obtain ⟨⟨k0, k1⟩, -⟩ := twoC (keepB B3 A0); obtain ⟨⟨k2, k3⟩, -⟩ := twoC (keepB B3 A1); exact ⟨k0, k1, k2, k3⟩) (fun hHeld => ?_)
          clear hK KK
          change wpAnyH _ _ _ _ _ _ _ { tmps := List.toArray (_ :: _ :: _ :: _ :: _ :: _ :: _ :: _ :: _ :: _ :: _ :: _ :: .agg #[.float .f64 a, .float .f64 b] :: .agg #[.float .f64 a, .float .f64 b] :: .agg #[.float .f64 c, .float .f64 d] :: .agg #[.float .f64 c, .float .f64 d] :: .agg #[.float .f64 p, .float .f64 q] :: _ :: _ :: _ :: _ :: []), defers := [] } _
          refine wpAnyH_ready (rs := [5]) (by kernel_rfl) (by simp) ?_
          refine (AllReadyH.cons rfl (fun KK hK => ?_) AllReadyH.nil)
          go_simp
          have Ba := btrans B3 (balloc w3 (.cells #[.float .f64 0, .float .f64 0] 26))
          have zB : (w3.alloc (.cells #[.float .f64 0, .float .f64 0] 26)).heap[w3.heap.size]? = some (.cells #[.float .f64 0, .float .f64 0] 26 (0, 0)) := one_block w3 _
          have zlo : wv.heap.size ≤ w3.heap.size := B3.size
          clear hHeld
          refine hK.out _ _ (by obtain ⟨⟨k0, k1⟩, -⟩ := twoC (keepB Ba A0); obtain ⟨⟨k2, k3⟩, -⟩ := twoC (keepB Ba A1); exact ⟨k0, k1, k2, k3⟩) (fun hHeld => ?_)
          clear hK KK
          change wpAnyH _ _ _ _ _ _ _ { tmps := List.toArray (_ :: _ :: _ :: _ :: _ :: _ :: .pointer (some ⟨w3.heap.size, 0, none⟩) :: _ :: _ :: _ :: _ :: _ :: .agg #[.float .f64 a, .float .f64 b] :: .agg #[.float .f64 a, .float .f64 b] :: .agg #[.float .f64 c, .float .f64 d] :: .agg #[.float .f64 c, .float .f64 d] :: .agg #[.float .f64 p, .float .f64 q] :: _ :: _ :: _ :: _ :: []), defers := [] } _
          refine wpAnyH_ready (rs := [6]) (by kernel_rfl) (by simp) ?_
          refine (AllReadyH.cons rfl (fun KK hK => ?_) AllReadyH.nil)
          have Bs := btrans B3 (balloc w3 (.cells #[.float .f64 p, .float .f64 q] 26))
          go_simp
          clear hHeld
          refine hK.out _ _ (by obtain ⟨⟨k0, k1⟩, -⟩ := twoC (keepB Bs A0); obtain ⟨⟨k2, k3⟩, -⟩ := twoC (keepB Bs A1); exact ⟨k0, k1, k2, k3⟩) (fun hHeld => ?_)
          clear hK KK
          change wpAnyH _ _ _ _ _ _ _ { tmps := List.toArray (_ :: _ :: _ :: _ :: _ :: _ :: .pointer (some ⟨w3.heap.size, 0, none⟩) :: _ :: _ :: _ :: _ :: _ :: .agg #[.float .f64 a, .float .f64 b] :: .agg #[.float .f64 a, .float .f64 b] :: .agg #[.float .f64 c, .float .f64 d] :: .agg #[.float .f64 c, .float .f64 d] :: .agg #[.float .f64 p, .float .f64 q] :: _ :: _ :: _ :: _ :: []), defers := [] } _
          refine wpAnyH_done (by kernel_rfl) ?_ _
          go_wp2_with fail
          go_meet
          exact gotN B3 hC
        · skip
          go_simp
          have Ba := btrans B2 (balloc w2 (.cells #[.float .f64 0, .float .f64 0] 26))
          have zB : (w2.alloc (.cells #[.float .f64 0, .float .f64 0] 26)).heap[w2.heap.size]? = some (.cells #[.float .f64 0, .float .f64 0] 26 (0, 0)) := one_block w2 _
          have zlo : wv.heap.size ≤ w2.heap.size := B2.size
          clear hHeld
          refine hK.out _ _ (by obtain ⟨⟨k0, k1⟩, -⟩ := twoC (keepB Ba A0); obtain ⟨⟨k2, k3⟩, -⟩ := twoC (keepB Ba A1); exact ⟨k0, k1, k2, k3⟩) (fun hHeld => ?_)
          clear hK KK
          change wpAnyH _ _ _ _ _ _ _ { tmps := List.toArray (_ :: _ :: _ :: _ :: _ :: _ :: .pointer (some ⟨w2.heap.size, 0, none⟩) :: _ :: _ :: _ :: _ :: _ :: .agg #[.float .f64 a, .float .f64 b] :: .agg #[.float .f64 a, .float .f64 b] :: .agg #[.float .f64 c, .float .f64 d] :: .agg #[.float .f64 c, .float .f64 d] :: _ :: _ :: _ :: _ :: _ :: []), defers := [] } _
          refine wpAnyH_ready (rs := [4]) (by kernel_rfl) (by simp) ?_
          refine (AllReadyH.cons rfl (fun KK hK => ?_) AllReadyH.nil)
          go_simp
          refine (cZDivI2 a b c d _).mono ?_
          rintro e w3 ⟨p, q, rfl, hC, hb⟩
          have B3 := btrans Ba hb
          have zB := keepB hb zB
          clear hb
          go_wp2_with fail
          clear hHeld
          refine hK.out _ _ (by obtain ⟨⟨k0, k1⟩, -⟩ := twoC (keepB B3 A0); obtain ⟨⟨k2, k3⟩, -⟩ := twoC (keepB B3 A1); exact ⟨k0, k1, k2, k3⟩) (fun hHeld => ?_)
          clear hK KK
          change wpAnyH _ _ _ _ _ _ _ { tmps := List.toArray (_ :: _ :: _ :: _ :: _ :: _ :: .pointer (some ⟨w2.heap.size, 0, none⟩) :: _ :: _ :: _ :: _ :: _ :: .agg #[.float .f64 a, .float .f64 b] :: .agg #[.float .f64 a, .float .f64 b] :: .agg #[.float .f64 c, .float .f64 d] :: .agg #[.float .f64 c, .float .f64 d] :: .agg #[.float .f64 p, .float .f64 q] :: _ :: _ :: _ :: _ :: []), defers := [] } _
          refine wpAnyH_ready (rs := [6]) (by kernel_rfl) (by simp) ?_
          refine (AllReadyH.cons rfl (fun KK hK => ?_) AllReadyH.nil)
          obtain ⟨⟨z0, z1⟩, y0, y1⟩ := twoC zB
          have Bs : Below wv.heap.size wv ((w3.setCell ⟨w2.heap.size, 0, none⟩ (.float .f64 p)).setCell ⟨w2.heap.size, 1, none⟩ (.float .f64 q)) := below_set zlo (below_set zlo B3)
          go_simp
          clear hHeld
          refine hK.out _ _ (by obtain ⟨⟨k0, k1⟩, -⟩ := twoC (keepB Bs A0); obtain ⟨⟨k2, k3⟩, -⟩ := twoC (keepB Bs A1); exact ⟨k0, k1, k2, k3⟩) (fun hHeld => ?_)
          clear hK KK
          change wpAnyH _ _ _ _ _ _ _ { tmps := List.toArray (_ :: _ :: _ :: _ :: _ :: _ :: .pointer (some ⟨w2.heap.size, 0, none⟩) :: _ :: _ :: _ :: _ :: _ :: .agg #[.float .f64 a, .float .f64 b] :: .agg #[.float .f64 a, .float .f64 b] :: .agg #[.float .f64 c, .float .f64 d] :: .agg #[.float .f64 c, .float .f64 d] :: .agg #[.float .f64 p, .float .f64 q] :: _ :: _ :: _ :: _ :: []), defers := [] } _
          refine wpAnyH_done (by kernel_rfl) ?_ _
          go_wp2_with fail
          go_meet
          exact gotS B3 zB zlo hC
      · skip
        go_simp
        have Ba := btrans B1 (balloc w1 (.cells #[.float .f64 0, .float .f64 0] 26))
        have zB : (w1.alloc (.cells #[.float .f64 0, .float .f64 0] 26)).heap[w1.heap.size]? = some (.cells #[.float .f64 0, .float .f64 0] 26 (0, 0)) := one_block w1 _
        have zlo : wv.heap.size ≤ w1.heap.size := B1.size
        clear hHeld
        refine hK.out _ _ (by obtain ⟨⟨k0, k1⟩, -⟩ := twoC (keepB Ba A0); obtain ⟨⟨k2, k3⟩, -⟩ := twoC (keepB Ba A1); exact ⟨k0, k1, k2, k3⟩) (fun hHeld => ?_)
        clear hK KK
        change wpAnyH _ _ _ _ _ _ _ { tmps := List.toArray (_ :: _ :: _ :: _ :: _ :: _ :: .pointer (some ⟨w1.heap.size, 0, none⟩) :: _ :: _ :: _ :: _ :: _ :: .agg #[.float .f64 a, .float .f64 b] :: .agg #[.float .f64 a, .float .f64 b] :: .agg #[.float .f64 c, .float .f64 d] :: _ :: _ :: _ :: _ :: _ :: _ :: []), defers := [] } _
        refine wpAnyH_ready (rs := [3]) (by kernel_rfl) (by simp) ?_
        refine (AllReadyH.cons rfl (fun KK hK => ?_) AllReadyH.nil)
        go_simp
        refine (cToZ2 c d _).mono ?_
        rintro e w2 ⟨rfl, hb⟩
        have B2 := btrans Ba hb
        have zB := keepB hb zB
        clear hb
        go_wp2_with fail
        clear hHeld
        refine hK.out _ _ (by obtain ⟨⟨k0, k1⟩, -⟩ := twoC (keepB B2 A0); obtain ⟨⟨k2, k3⟩, -⟩ := twoC (keepB B2 A1); exact ⟨k0, k1, k2, k3⟩) (fun hHeld => ?_)
        clear hK KK
        change wpAnyH _ _ _ _ _ _ _ { tmps := List.toArray (_ :: _ :: _ :: _ :: _ :: _ :: .pointer (some ⟨w1.heap.size, 0, none⟩) :: _ :: _ :: _ :: _ :: _ :: .agg #[.float .f64 a, .float .f64 b] :: .agg #[.float .f64 a, .float .f64 b] :: .agg #[.float .f64 c, .float .f64 d] :: .agg #[.float .f64 c, .float .f64 d] :: _ :: _ :: _ :: _ :: _ :: []), defers := [] } _
        refine wpAnyH_ready (rs := [4]) (by kernel_rfl) (by simp) ?_
        refine (AllReadyH.cons rfl (fun KK hK => ?_) AllReadyH.nil)
        go_simp
        refine (cZDivI2 a b c d _).mono ?_
        rintro e w3 ⟨p, q, rfl, hC, hb⟩
        have B3 := btrans B2 hb
        have zB := keepB hb zB
        clear hb
        go_wp2_with fail
        clear hHeld
        refine hK.out _ _ (by obtain ⟨⟨k0, k1⟩, -⟩ := twoC (keepB B3 A0); obtain ⟨⟨k2, k3⟩, -⟩ := twoC (keepB B3 A1); exact ⟨k0, k1, k2, k3⟩) (fun hHeld => ?_)
        clear hK KK
        change wpAnyH _ _ _ _ _ _ _ { tmps := List.toArray (_ :: _ :: _ :: _ :: _ :: _ :: .pointer (some ⟨w1.heap.size, 0, none⟩) :: _ :: _ :: _ :: _ :: _ :: .agg #[.float .f64 a, .float .f64 b] :: .agg #[.float .f64 a, .float .f64 b] :: .agg #[.float .f64 c, .float .f64 d] :: .agg #[.float .f64 c, .float .f64 d] :: .agg #[.float .f64 p, .float .f64 q] :: _ :: _ :: _ :: _ :: []), defers := [] } _
        refine wpAnyH_ready (rs := [6]) (by kernel_rfl) (by simp) ?_
        refine (AllReadyH.cons rfl (fun KK hK => ?_) AllReadyH.nil)
        obtain ⟨⟨z0, z1⟩, y0, y1⟩ := twoC zB
        have Bs : Below wv.heap.size wv ((w3.setCell ⟨w1.heap.size, 0, none⟩ (.float .f64 p)).setCell ⟨w1.heap.size, 1, none⟩ (.float .f64 q)) := below_set zlo (below_set zlo B3)
        go_simp
        clear hHeld
        refine hK.out _ _ (by obtain ⟨⟨k0, k1⟩, -⟩ := twoC (keepB Bs A0); obtain ⟨⟨k2, k3⟩, -⟩ := twoC (keepB Bs A1); exact ⟨k0, k1, k2, k3⟩) (fun hHeld => ?_)
        clear hK KK
        change wpAnyH _ _ _ _ _ _ _ { tmps := List.toArray (_ :: _ :: _ :: _ :: _ :: _ :: .pointer (some ⟨w1.heap.size, 0, none⟩) :: _ :: _ :: _ :: _ :: _ :: .agg #[.float .f64 a, .float .f64 b] :: .agg #[.float .f64 a, .float .f64 b] :: .agg #[.float .f64 c, .float .f64 d] :: .agg #[.float .f64 c, .float .f64 d] :: .agg #[.float .f64 p, .float .f64 q] :: _ :: _ :: _ :: _ :: []), defers := [] } _
        refine wpAnyH_done (by kernel_rfl) ?_ _
        go_wp2_with fail
        go_meet
        exact gotS B3 zB zlo hC
    · skip
      go_simp
      have Ba := btrans B0 (balloc wd (.cells #[.float .f64 0, .float .f64 0] 26))
      have zB : (wd.alloc (.cells #[.float .f64 0, .float .f64 0] 26)).heap[wd.heap.size]? = some (.cells #[.float .f64 0, .float .f64 0] 26 (0, 0)) := one_block wd _
      have zlo : wv.heap.size ≤ wd.heap.size := B0.size
      clear hHeld
      refine hK.out _ _ (by obtain ⟨⟨k0, k1⟩, -⟩ := twoC (keepB Ba A0); obtain ⟨⟨k2, k3⟩, -⟩ := twoC (keepB Ba A1); exact ⟨k0, k1, k2, k3⟩) (fun hHeld => ?_)
      clear hK KK
      change wpAnyH _ _ _ _ _ _ _ { tmps := List.toArray (_ :: _ :: _ :: _ :: _ :: _ :: .pointer (some ⟨wd.heap.size, 0, none⟩) :: _ :: _ :: _ :: _ :: _ :: .agg #[.float .f64 a, .float .f64 b] :: _ :: .agg #[.float .f64 c, .float .f64 d] :: _ :: _ :: _ :: _ :: _ :: _ :: []), defers := [] } _
      refine wpAnyH_ready (rs := [1]) (by kernel_rfl) (by simp) ?_
      refine (AllReadyH.cons rfl (fun KK hK => ?_) AllReadyH.nil)
      go_simp
      refine (cToZ2 a b _).mono ?_
      rintro e w1 ⟨rfl, hb⟩
      have B1 := btrans Ba hb
      have zB := keepB hb zB
      clear hb
      go_wp2_with fail
      clear hHeld
      refine hK.out _ _ (by obtain ⟨⟨k0, k1⟩, -⟩ := twoC (keepB B1 A0); obtain ⟨⟨k2, k3⟩, -⟩ := twoC (keepB B1 A1); exact ⟨k0, k1, k2, k3⟩) (fun hHeld => ?_)
      clear hK KK
      change wpAnyH _ _ _ _ _ _ _ { tmps := List.toArray (_ :: _ :: _ :: _ :: _ :: _ :: .pointer (some ⟨wd.heap.size, 0, none⟩) :: _ :: _ :: _ :: _ :: _ :: .agg #[.float .f64 a, .float .f64 b] :: .agg #[.float .f64 a, .float .f64 b] :: .agg #[.float .f64 c, .float .f64 d] :: _ :: _ :: _ :: _ :: _ :: _ :: []), defers := [] } _
      refine wpAnyH_ready (rs := [3]) (by kernel_rfl) (by simp) ?_
      refine (AllReadyH.cons rfl (fun KK hK => ?_) AllReadyH.nil)
      go_simp
      refine (cToZ2 c d _).mono ?_
      rintro e w2 ⟨rfl, hb⟩
      have B2 := btrans B1 hb
      have zB := keepB hb zB
      clear hb
      go_wp2_with fail
      clear hHeld
      refine hK.out _ _ (by obtain ⟨⟨k0, k1⟩, -⟩ := twoC (keepB B2 A0); obtain ⟨⟨k2, k3⟩, -⟩ := twoC (keepB B2 A1); exact ⟨k0, k1, k2, k3⟩) (fun hHeld => ?_)
      clear hK KK
      change wpAnyH _ _ _ _ _ _ _ { tmps := List.toArray (_ :: _ :: _ :: _ :: _ :: _ :: .pointer (some ⟨wd.heap.size, 0, none⟩) :: _ :: _ :: _ :: _ :: _ :: .agg #[.float .f64 a, .float .f64 b] :: .agg #[.float .f64 a, .float .f64 b] :: .agg #[.float .f64 c, .float .f64 d] :: .agg #[.float .f64 c, .float .f64 d] :: _ :: _ :: _ :: _ :: _ :: []), defers := [] } _
      refine wpAnyH_ready (rs := [4]) (by kernel_rfl) (by simp) ?_
      refine (AllReadyH.cons rfl (fun KK hK => ?_) AllReadyH.nil)
      go_simp
      refine (cZDivI2 a b c d _).mono ?_
      rintro e w3 ⟨p, q, rfl, hC, hb⟩
      have B3 := btrans B2 hb
      have zB := keepB hb zB
      clear hb
      go_wp2_with fail
      clear hHeld
      refine hK.out _ _ (by obtain ⟨⟨k0, k1⟩, -⟩ := twoC (keepB B3 A0); obtain ⟨⟨k2, k3⟩, -⟩ := twoC (keepB B3 A1); exact ⟨k0, k1, k2, k3⟩) (fun hHeld => ?_)
      clear hK KK
      change wpAnyH _ _ _ _ _ _ _ { tmps := List.toArray (_ :: _ :: _ :: _ :: _ :: _ :: .pointer (some ⟨wd.heap.size, 0, none⟩) :: _ :: _ :: _ :: _ :: _ :: .agg #[.float .f64 a, .float .f64 b] :: .agg #[.float .f64 a, .float .f64 b] :: .agg #[.float .f64 c, .float .f64 d] :: .agg #[.float .f64 c, .float .f64 d] :: .agg #[.float .f64 p, .float .f64 q] :: _ :: _ :: _ :: _ :: []), defers := [] } _
      refine wpAnyH_ready (rs := [6]) (by kernel_rfl) (by simp) ?_
      refine (AllReadyH.cons rfl (fun KK hK => ?_) AllReadyH.nil)
      obtain ⟨⟨z0, z1⟩, y0, y1⟩ := twoC zB
      have Bs : Below wv.heap.size wv ((w3.setCell ⟨wd.heap.size, 0, none⟩ (.float .f64 p)).setCell ⟨wd.heap.size, 1, none⟩ (.float .f64 q)) := below_set zlo (below_set zlo B3)
      go_simp
      clear hHeld
      refine hK.out _ _ (by obtain ⟨⟨k0, k1⟩, -⟩ := twoC (keepB Bs A0); obtain ⟨⟨k2, k3⟩, -⟩ := twoC (keepB Bs A1); exact ⟨k0, k1, k2, k3⟩) (fun hHeld => ?_)
      clear hK KK
      change wpAnyH _ _ _ _ _ _ _ { tmps := List.toArray (_ :: _ :: _ :: _ :: _ :: _ :: .pointer (some ⟨wd.heap.size, 0, none⟩) :: _ :: _ :: _ :: _ :: _ :: .agg #[.float .f64 a, .float .f64 b] :: .agg #[.float .f64 a, .float .f64 b] :: .agg #[.float .f64 c, .float .f64 d] :: .agg #[.float .f64 c, .float .f64 d] :: .agg #[.float .f64 p, .float .f64 q] :: _ :: _ :: _ :: _ :: []), defers := [] } _
      refine wpAnyH_done (by kernel_rfl) ?_ _
      go_wp2_with fail
      go_meet
      exact gotS B3 zB zlo hC
  case rest =>
  obtain ⟨⟨b2, p2, q2, rfl, K2, hC2, -⟩, hb⟩ := hcut
  replace HB := btrans HB hb
  replace K1 := keepB hb K1
  clear hb u0 u1 u2 u3 A0 A1
  obtain ⟨⟨u0, u1⟩, -⟩ := twoC K1
  obtain ⟨⟨u2, u3⟩, -⟩ := twoC K2
  go_wp2_with fail
  refine (cEqZ2 p2 q2 p1 q1 _ (hC2.trans hC1.symm)).mono ?_
  rintro e w3 ⟨rfl, hb⟩
  replace HB := btrans HB hb
  go_wp2
  go_ret
  exact ⟨rfl, HB⟩

set_option maxRecDepth 20000 in
set_option maxHeartbeats 6400000 in
theorem walkZSize (x : ZV) (w : World) : Calls Try.prog 8 #[x.val] w fun e w' => e = .returned (.bool true) ∧ Below w.heap.size w w' := by
  obtain ⟨a, b⟩ := x
  unfold ZV.val
  have HB := balloc w (.cells #[.float .f64 a, .float .f64 b] 44)
  have A0 := one_block w (.cells #[.float .f64 a, .float .f64 b] 44)
  go_enter Try.func8, Try.ntmps8
  go_wp2_with fail
  generalize w.alloc (.cells #[.float .f64 a, .float .f64 b] 44) = v at *
  refine (cToZ2 a b _).mono ?_
  rintro e w1 ⟨rfl, hb⟩
  replace HB := btrans HB hb
  replace A0 := keepB hb A0
  clear hb
  go_wp2_with fail
  refine (cZSizeS ⟨a, b⟩ _).mono ?_
  rintro e w1 ⟨r1, rfl, h1, hb⟩
  replace HB := btrans HB hb
  replace A0 := keepB hb A0
  clear hb
  obtain ⟨⟨u0, u1⟩, -⟩ := twoC A0
  go_wp2_with fail
  refine (cToZ2 a b _).mono ?_
  rintro e w1 ⟨rfl, hb⟩
  replace HB := btrans HB hb
  clear hb u0 u1 A0
  go_wp2_with fail
  refine (cZSizeI ⟨a, b⟩ _).mono ?_
  rintro e w1 ⟨r2, rfl, h2, hb⟩
  replace HB := btrans HB hb
  clear hb
  go_wp2_with fail
  refine (cSameF r2 r1 _ (h2.trans h1.symm)).mono ?_
  rintro e w1 ⟨m, rfl, hw⟩
  subst w1
  go_wp2
  go_ret
  exact ⟨rfl, bdraw HB _⟩
end Go.Proofs.Ytapnidhokpkmdaa
