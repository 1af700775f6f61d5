/- The draw of a right net. -/
import Derived.Test.YtdjambejppanoaaDK
import Derived.Test.YtdjambejppanoaaBM
import Derived.Deep.AppendLies
import Derived.Deep.RegionLaw
import Derived.Deep.RegionHeld3
namespace Go.Proofs.Ytdjambejppanoaa
open Go.RowKit
/-- A net that is put together in its own block while a cursor moves on. -/
structure OutE (W0 wr : World) (cb n : Nat) (ao : Option Addr) (cp : Nat) (xs : List EdgeV) : Prop where
  gr : W0.grownBy wr (some cb)
  out : wr.heap[W0.heap.size]? = some (.cells #[.int .i64 (n : Nat), .slice ao xs.length cp] 26)
  own : wr.ownsRow (W0.heap.size + 1) 41 4 (.slice ao xs.length cp) xs.length (flatEdges xs)
theorem OutE.lt {W0 wr : World} {cb n : Nat} {ao : Option Addr} {cp : Nat} {xs : List EdgeV} (h : OutE W0 wr cb n ao cp xs) : W0.heap.size < wr.heap.size := lt_of_block h.out
theorem OutE.keep {W0 wr w2 : World} {cb n : Nat} {ao : Option Addr} {cp : Nat} {xs : List EdgeV} (h : OutE W0 wr cb n ao cp xs) (hb : Below wr.heap.size wr w2) : OutE W0 w2 cb n ao cp xs :=
  ⟨gtrans h.gr (gofr _ hb), blk_keep hb h.out, own_keep h.own hb⟩
theorem OutE.cur {W0 wr w2 : World} {cb n : Nat} {ao : Option Addr} {cp : Nat} {xs : List EdgeV} (h : OutE W0 wr cb n ao cp xs) (hcb : cb < W0.heap.size) (hg : wr.grownBy w2 (some cb)) : OutE W0 w2 cb n ao cp xs :=
  ⟨gtrans h.gr hg, far_blk hg h.out (fun j hj => by simp at hj; omega), own_far h.own hg (fun k hk e => by have := own_from h.own (Nat.le_refl _) k hk; simp at e; omega)⟩
theorem OutE.out2 {W0 wr wx w2 : World} {cb n : Nat} {ao : Option Addr} {cp : Nat} {xs : List EdgeV} (h : OutE W0 wr cb n ao cp xs) (hx : Below wr.heap.size wr wx) (hgrow : wx.grownBy w2 (Value.slice ao xs.length cp).ownBlock) :
    w2.heap[W0.heap.size]? = some (.cells #[.int .i64 (n : Nat), .slice ao xs.length cp] 26) :=
  far_blk hgrow (blk_keep hx h.out) (fun j hj => by have := own_from h.own (Nat.le_refl _) j hj; omega)
theorem OutE.push {W0 wr wx w2 : World} {cb n : Nat} {ao : Option Addr} {cp : Nat} {xs : List EdgeV} (h : OutE W0 wr cb n ao cp xs) {g cap : Nat} {x : EdgeV} (hx : Below wr.heap.size wr wx)
    (hown : w2.ownsRow (W0.heap.size + 1) 41 4 (.slice (some ⟨g, 0, none⟩) (xs.length + 1) cap) (xs.length + 1) (flatEdges xs ++ x.vs)) (hgrow : wx.grownBy w2 (Value.slice ao xs.length cp).ownBlock) :
    OutE W0 (w2.setCell ⟨W0.heap.size, 1, none⟩ (.slice (some ⟨g, 0, none⟩) (xs.length + 1) cap)) cb n (some ⟨g, 0, none⟩) cap (xs ++ [x]) := by
  have hge := own_from h.own (Nat.le_refl _)
  have g1 : W0.grownBy w2 (some cb) := grown_far (gtrans h.gr (gofr _ hx)) hgrow (fun k hk => by have := hge k hk; omega)
  have hout := h.out2 hx hgrow
  have hlen : (xs ++ [x]).length = xs.length + 1 := by simp
  refine ⟨grown_far g1 (grown_set _ _ _ _) (fun k hk => by simp at hk; omega), ?_, ?_⟩
  · have := blk_set (i := 1) (v := .slice (some ⟨g, 0, none⟩) (xs.length + 1) cap) hout
    rw [hlen]; simpa using this
  · rw [hlen, flatEdges_app]
    have e : flatEdges [x] = x.vs := by simp [flatEdges]
    rw [e]; exact own_set hown (fun k hk => by have := own_from hown (Nat.le_refl _) k hk; omega)
theorem undrewG {w w2 : World} {r : Option Nat} (h : w.drew.grownBy w2 r) : w.grownBy w2 r := ⟨h.os, h.tape, h.output, h.size, h.block⟩
theorem edge_ok {n : Nat} {x y l m : Int} (h0 : 0 ≤ x) (h1 : x < n) (h2 : 0 ≤ y) (h3 : y < n) (h4 : x ≠ y) (h5 : 1 ≤ l) (h6 : l ≤ 100000) (h7 : 1 ≤ m) (h8 : m ≤ 90) : edgeB (n : Int) ⟨x, y, l, m⟩ = true := by
  simp only [edgeB, nodeB, Bool.and_eq_true, Bool.not_eq_true', decide_eq_false_iff_not]
  exact ⟨inB_yes h0 (by omega), inB_yes h2 (by omega), h4, inB_yes h5 h6, inB_yes h7 h8⟩
theorem all_snoc {n : Int} {es : List EdgeV} {e : EdgeV} (h : es.all (edgeB n) = true) (g : edgeB n e = true) : (es ++ [e]).all (edgeB n) = true := by
  rw [List.all_append, h]; simp [g]
/-- A drawn right net. -/
def DrawnR (w : World) (cb cap : Nat) (a : Option Addr) (zs : List Int) (e : Ending) (w' : World) : Prop :=
  ∃ (n : Nat) (es : List EdgeV) (ao : Option Addr) (cp : Nat), e = .returned (.agg #[.int .i64 (n : Int), .slice ao es.length cp]) ∧ netB (n : Int) es = true ∧ 2 ≤ n ∧ w'.ownsRow w.heap.size 41 4 (.slice ao es.length cp) es.length (flatEdges es) ∧ Cur w' cb a cap zs ∧ w.grownBy w' (some cb)
set_option maxRecDepth 100000 in
set_option maxHeartbeats 6400000 in
theorem cDrawR (cb cap : Nat) (a : Option Addr) (zs : List Int) (w : World) (hc : Cur w cb a cap zs) (hl : zs.length ≤ 1048576) (hcb : cb < w.heap.size) :
    Calls Try.prog 34 #[.pointer (some ⟨cb, 0, none⟩), .int .i64 8] w (DrawnR w cb cap a zs) := by
  have hOn : ∀ k, OnCur cb a zs k → k < w.heap.size := fun k hk => hc.lt hk
  obtain ⟨i0, hi, hz0, hz1, hz2⟩ := info_parts infoEdges
  have hb0 := balloc w (.cells #[.int .i64 0, .slice none 0 0] 26)
  have K0 := one_block w (.cells #[.int .i64 0, .slice none 0 0] 26)
  go_enter Try.func34, Try.ntmps34
  go_wp2_with fail
  generalize w.alloc (.cells #[.int .i64 0, .slice none 0 0] 26) = V at *
  have hc0 := hc.below hb0
  have G0 := gofr (some cb) hb0
  clear hc hb0
  refine (cbelow cb cap a zs 7 _ hc0 hl (by omega) (by omega)).mono ?_
  rintro e w1 ⟨r, rfl, r0, r1, hc1, hg1⟩
  have G1 := gtrans G0 hg1
  have K1 := far_blk hg1 K0 (fun j hj => by simp at hj; omega)
  have hK1 := lt_of_block K1
  have hw1 : IntKind.i64.wrap (2 + r) = 2 + r := wrap_in _ (by omega) (by omega)
  obtain ⟨n, hN⟩ : ∃ n : Nat, 2 + r = (n : Int) := ⟨(2 + r).toNat, by omega⟩
  have n2 : 2 ≤ n := by omega
  have n5 : n ≤ 8 := by omega
  rw [hN] at hw1
  clear hg1 hc0 G0 K0
  have hcbw : cb < w1.heap.size := by omega
  have L0 : OutE w1 (w1.alloc (.cells #[.int .i64 (n : Nat), .slice none 0 0] 26)) cb n none 0 [] := ⟨grown_alloc _ _ _, one_block _ _, World.ownsRow_nil _ _ _ _⟩
  have hc2 := hc1.below (balloc w1 (.cells #[.int .i64 (n : Nat), .slice none 0 0] 26))
  go_wp2_with fail
  clear hN r0 r1 hw1
  generalize w1.alloc (.cells #[.int .i64 (n : Nat), .slice none 0 0] 26) = w2 at *
  go_loopw [6] (fun vi wr => ∃ (i : Nat) (es : List EdgeV) (ao : Option Addr) (cp : Nat), vi = .int .i64 (i : Int) ∧ 1 ≤ i ∧ i ≤ n ∧ es.length + 1 ≤ i ∧ Hid (es.all (edgeB (n : Int)) = true) ∧ OutE w1 wr cb n ao cp es ∧ Cur wr cb a cap zs) (fun vi _ => n - (intOf vi).toNat)
  case atStart => exact ⟨1, [], none, 0, rfl, by omega, by omega, by simp, hide rfl, L0, hc2⟩
  case round =>
    clear L0 hc1 hc2
    obtain ⟨i, es, ao, cp, rfl, hi1, hin, hes, hT, L, hC⟩ := hrel
    obtain ⟨⟨o0, o1⟩, f0, f1⟩ := blk2 L.out
    by_cases hlt : i < n
    · have hlt' : (i : Int) < (n : Int) := by omega
      have hLt := L.lt
      go_wp2_with fail
      refine (conce cb cap a zs 8 _ hC hl (by omega) (by omega)).mono ?_
      rintro e w3 ⟨q, rfl, C3, G3⟩
      have L3 := L.cur hcbw G3
      clear L hC G3 o0 o1 f0 f1
      obtain ⟨⟨o0, o1⟩, f0, f1⟩ := blk2 L3.out
      have hLt3 := L3.lt
      cases q
      · go_wp2_with fail
        go_region_law (first
          | (go_simp; go_at_call 53; with_reducible refine (cbelow cb cap a zs (i : Int) _ (C3.below (Below.refl _ _).drew) hl (by omega) (by omega)).mono ?_; rintro e w4 ⟨y, rfl, y0, y1, C4, G4d⟩; have G4 := undrewG G4d; clear G4d; have O4 := L3.cur hcbw G4; obtain ⟨⟨t0, t1⟩, m0, m1⟩ := blk2 O4.out; dsimp only)
          | (go_simp; go_at_call 53; with_reducible refine (cbelow cb cap a zs 9 _ C4 hl (by omega) (by omega)).mono ?_; rintro e w5 ⟨r, rfl, r0, r1, C5, G5⟩; have O5 := O4.cur hcbw G5; obtain ⟨⟨t0', t1'⟩, m0', m1'⟩ := blk2 O5.out; have v1 : IntKind.i64.wrap (1 + r) = 1 + r := wrap_in _ (by omega) (by omega); have v2 : IntKind.i64.wrap (100 * (1 + r)) = 100 * (1 + r) := wrap_in _ (by omega) (by omega); dsimp only)
          | (go_simp; go_at_call 53; with_reducible refine (cbelow cb cap a zs 40 _ C5 hl (by omega) (by omega)).mono ?_; rintro e w7 ⟨s, rfl, s0, s1, C7, G7⟩; have O7 := O5.cur hcbw G7; obtain ⟨⟨t0'', t1''⟩, m0'', m1''⟩ := blk2 O7.out; have v3 : IntKind.i64.wrap (5 + s) = 5 + s := wrap_in _ (by omega) (by omega); have hlt7 := O7.lt; dsimp only)
          | (refine step_append_lies _ (by rfl) _ _ _ (by rfl) (w1.heap.size + 1) 41 i0 _ 4 32 Try.underlying24 hi hz0 hz1 hz2 rfl (by decide) (.slice ao es.length cp) es.length (flatEdges es) (by rfl) (by exact O7.own.alloc _) ⟨w7.heap.size, 0, none⟩ 1 1 (EdgeV.vs ⟨(i : Int), y, 100 * (1 + r), 5 + s⟩) (by rfl) (by rfl) (World.news_of_block (cs := #[.int .i64 (i : Int), .int .i64 y, .int .i64 (100 * (1 + r)), .int .i64 (5 + s)]) (t := 41) (fr := (0, 0)) (heap_alloc_new w7 _)) (by simp [EdgeV.vs, Value.oneCell']) (by decide) (by unfold maxLen; omega) (by omega) (by simp; omega) (w7.heap.size + 1) (by simp) ?_; intro g cap2 w6 hown hgrow hat hlt2; obtain ⟨⟨u0, u1⟩, q0, q1⟩ := blk2 (O7.out2 (balloc _ _) hgrow)))
        all_goals (
          have L8 := O7.push (x := ⟨(i : Int), y, 100 * (1 + r), 5 + s⟩) (balloc _ _) hown hgrow
          have hge := own_from O7.own (Nat.le_refl _)
          have C6 : Cur w6 cb a cap zs := (C7.below (balloc _ _)).grow hOn hgrow (fun k hk => by have := hge k hk; omega)
          have C8 := C6.grow hOn (grown_set w6 w1.heap.size 1 (.slice (some ⟨g, 0, none⟩) (es.length + 1) cap2)) (fun k hk => by simp at hk; omega)
          have hT2 := hide (all_snoc hT.out (e := ⟨(i : Int), y, 100 * (1 + r), 5 + s⟩) (edge_ok (n := n) (by omega) (by omega) (by omega) (by omega) (by omega) (by omega) (by omega) (by omega) (by omega)))
          clear hown hgrow hat hlt2 u0 u1 q0 q1 C7 C6 O7 hge C5 O5 C4 O4 C3 L3 hT)
        all_goals go_wp2
        all_goals go_roundw
        all_goals first
          | exact ⟨i + 1, es ++ [⟨(i : Int), y, 100 * (1 + r), 5 + s⟩], some ⟨g, 0, none⟩, cap2, by go_num, by omega, by omega, by simp; omega, hT2, by simpa using L8, C8⟩
          | (simp [intOf]; omega)
      · go_wp2
        go_roundw
        case rel => exact ⟨i + 1, es, ao, cp, by go_num, by omega, by omega, by omega, hT, L3, C3⟩
        case measure => simp [intOf]; omega
    · have hout : ¬ (i : Int) < (n : Int) := by omega
      have hes7 : es.length ≤ 7 := by omega
      have hLt := L.lt
      go_wp2_with fail
      refine (cbelow cb cap a zs (n : Int) _ hC hl (by omega) (by omega)).mono ?_
      rintro e w3 ⟨k, rfl, k0, k1, C3, G3⟩
      have L3 := L.cur hcbw G3
      obtain ⟨j0, rfl⟩ : ∃ j0 : Nat, k = (j0 : Int) := ⟨k.toNat, by omega⟩
      have hj0 : es.length + j0 ≤ 14 := by omega
      clear L hC G3 o0 o1 f0 f1 hout hLt
      go_wp2
      go_loopw [7] (fun vi wr => ∃ (j : Nat) (es : List EdgeV) (ao : Option Addr) (cp : Nat), vi = .int .i64 (j : Int) ∧ es.length + j ≤ 14 ∧ Hid (es.all (edgeB (n : Int)) = true) ∧ OutE w1 wr cb n ao cp es ∧ Cur wr cb a cap zs) (fun vi _ => (intOf vi).toNat)
      case atStart => exact ⟨j0, es, ao, cp, rfl, hj0, hT, L3, C3⟩
      case round =>
        clear L3 C3 hj0 hT hes hes7 hi1 hin hlt k0 k1
        obtain ⟨j, es, ao, cp, rfl, hes, hT, L, hC⟩ := hrel
        obtain ⟨⟨o0, o1⟩, f0, f1⟩ := blk2 L.out
        have hLt := L.lt
        by_cases hj : 0 < j
        · have hj' : (0 : Int) < (j : Int) := by omega
          have hwj : IntKind.i64.wrap ((j : Int) - 1) = (j : Int) - 1 := wrap_in _ (by omega) (by omega)
          obtain ⟨j, rfl⟩ : ∃ j' : Nat, j = j' + 1 := ⟨j - 1, by omega⟩
          go_wp2_with fail
          go_region_held3 (fun w' => w'.cell? ⟨w1.heap.size, 0, none⟩ = some (.int .i64 (n : Nat))) (go_keep) (first
            | (go_at_call 53; with_reducible refine (cbelow cb cap a zs (n : Int) _ (hC.below (Below.refl _ _).drew) hl (by omega) (by omega)).mono ?_; rintro e w3 ⟨x, rfl, x0, x1, C3, G3d⟩; have G3 := undrewG G3d; clear G3d; have L3 := L.cur hcbw G3; obtain ⟨⟨t0, t1⟩, m0, m1⟩ := blk2 L3.out)
            | (go_at_call 53; with_reducible refine (cbelow cb cap a zs (n : Int) _ C3 hl (by omega) (by omega)).mono ?_; rintro e w4 ⟨y, rfl, y0, y1, C4, G4⟩; have L4 := L3.cur hcbw G4; obtain ⟨⟨t0', t1'⟩, m0', m1'⟩ := blk2 L4.out))
          have hLt4 := L4.lt
          clear L hC G3 G4 L3 C3 t0 t1 m0 m1 t0' t1' m0' m1' o0 o1 f0 f1
          obtain ⟨⟨o0, o1⟩, f0, f1⟩ := blk2 L4.out
          by_cases hxy : x = y
          · subst hxy
            go_wp2
            go_roundw
            case rel => exact ⟨j, es, ao, cp, by first | rfl | (simp; done) | (congr 1; simp; done) | (congr 1; omega) | (congr 1), by omega, hT, L4, C4⟩
            case measure => simp [intOf]
          · go_wp2_with fail
            go_region_law (first
              | (go_simp; go_at_call 53; with_reducible refine (cbelow cb cap a zs 12 _ (C4.below (Below.refl _ _).drew) hl (by omega) (by omega)).mono ?_; rintro e w5 ⟨r, rfl, r0, r1, C5, G5d⟩; have G5 := undrewG G5d; clear G5d; have O5 := L4.cur hcbw G5; obtain ⟨⟨t0', t1'⟩, m0', m1'⟩ := blk2 O5.out; have v1 : IntKind.i64.wrap (1 + r) = 1 + r := wrap_in _ (by omega) (by omega); have v2 : IntKind.i64.wrap (100 * (1 + r)) = 100 * (1 + r) := wrap_in _ (by omega) (by omega); dsimp only)
              | (go_simp; go_at_call 53; with_reducible refine (cbelow cb cap a zs 40 _ C5 hl (by omega) (by omega)).mono ?_; rintro e w7 ⟨s, rfl, s0, s1, C7, G7⟩; have O7 := O5.cur hcbw G7; obtain ⟨⟨t0'', t1''⟩, m0'', m1''⟩ := blk2 O7.out; have v3 : IntKind.i64.wrap (5 + s) = 5 + s := wrap_in _ (by omega) (by omega); have hlt7 := O7.lt; dsimp only)
              | (refine step_append_lies _ (by rfl) _ _ _ (by rfl) (w1.heap.size + 1) 41 i0 _ 4 32 Try.underlying24 hi hz0 hz1 hz2 rfl (by decide) (.slice ao es.length cp) es.length (flatEdges es) (by rfl) (by exact O7.own.alloc _) ⟨w7.heap.size, 0, none⟩ 1 1 (EdgeV.vs ⟨x, y, 100 * (1 + r), 5 + s⟩) (by rfl) (by rfl) (World.news_of_block (cs := #[.int .i64 x, .int .i64 y, .int .i64 (100 * (1 + r)), .int .i64 (5 + s)]) (t := 41) (fr := (0, 0)) (heap_alloc_new w7 _)) (by simp [EdgeV.vs, Value.oneCell']) (by decide) (by unfold maxLen; omega) (by omega) (by simp; omega) (w7.heap.size + 1) (by simp) ?_; intro g cap2 w6 hown hgrow hat hlt2; obtain ⟨⟨u0, u1⟩, q0, q1⟩ := blk2 (O7.out2 (balloc _ _) hgrow)))
            all_goals (
              have L8 := O7.push (x := ⟨x, y, 100 * (1 + r), 5 + s⟩) (balloc _ _) hown hgrow
              have hge := own_from O7.own (Nat.le_refl _)
              have C6 : Cur w6 cb a cap zs := (C7.below (balloc _ _)).grow hOn hgrow (fun k hk => by have := hge k hk; omega)
              have C8 := C6.grow hOn (grown_set w6 w1.heap.size 1 (.slice (some ⟨g, 0, none⟩) (es.length + 1) cap2)) (fun k hk => by simp at hk; omega)
              have hT2 := hide (all_snoc hT.out (e := ⟨x, y, 100 * (1 + r), 5 + s⟩) (edge_ok (n := n) (by omega) (by omega) (by omega) (by omega) (by omega) (by omega) (by omega) (by omega) (by omega)))
              clear hown hgrow hat hlt2 u0 u1 q0 q1 C7 C6 O7 hge C5 O5 C4 L4 hT)
            all_goals go_wp2
            all_goals go_roundw
            all_goals first
              | exact ⟨j, es ++ [⟨x, y, 100 * (1 + r), 5 + s⟩], some ⟨g, 0, none⟩, cap2, by first | rfl | (simp; done) | (congr 1; simp; done) | (congr 1; omega) | (congr 1), by simp; omega, hT2, by simpa using L8, C8⟩
              | (simp [intOf]; done)
        · obtain rfl : j = 0 := by omega
          have hR : netB (n : Int) es = true := by
            simp only [netB, goodTo_all, Bool.and_eq_true, decide_eq_true_eq]
            exact ⟨inB_yes (by omega) (by omega), by omega, hT.out⟩
          have K5 := far_blk L.gr K1 (fun j hj => by simp at hj; omega)
          obtain ⟨⟨k0, k1⟩, p0, p1⟩ := blk2 K5
          have G5 := gtrans G1 L.gr
          have hge5 := own_from L.own (Nat.le_refl _)
          have hgl := own_blk_lt L.own
          have hD : w.heap.size ≠ w1.heap.size := by omega
          go_wp2
          refine bodyPost_ret (v := .agg #[.int .i64 (n : Nat), .slice ao es.length cp]) (by simp [results, Try.results34, go_sem, k0, k1]) rfl ?_
          refine ⟨n, es, ao, cp, rfl, hR, n2, own_base (own_set (own_set L.own (fun k hk => by have := hge5 k hk; omega)) (fun k hk => by have := hge5 k hk; omega)) (by omega), (hC.grow hOn (grown_set _ _ _ _) (fun k hk => by simp at hk; omega)).grow hOn (grown_set _ _ _ _) (fun k hk => by simp at hk; omega), ?_⟩
          exact grown_far (grown_far G5 (grown_set _ _ _ _) (fun k hk => by simp at hk; omega)) (grown_set _ _ _ _) (fun k hk => by simp at hk; omega)
set_option maxRecDepth 100000 in
set_option maxHeartbeats 1600000 in
theorem cDrawNet (a : Option Addr) (cap : Nat) (zs : List Int) (w : World) (hz : Bytes w a zs) (hl : zs.length ≤ 1048576) :
    Calls Try.prog 11 #[.slice a zs.length cap] w fun e w' => ∃ (n : Nat) (es : List EdgeV) (ao : Option Addr) (cp : Nat), e = .returned (.agg #[.int .i64 (n : Int), .slice ao es.length cp]) ∧ netB (n : Int) es = true ∧ 2 ≤ n ∧ w'.ownsRow w.heap.size 41 4 (.slice ao es.length cp) es.length (flatEdges es) ∧ Below w.heap.size w w' := by
  have hb0 := balloc w (.cells #[.int .i64 0, .slice none 0 0] 26)
  have K0 := one_block w (.cells #[.int .i64 0, .slice none 0 0] 26)
  go_enter Try.func11, Try.ntmps11
  go_wp2_with fail
  generalize w.alloc (.cells #[.int .i64 0, .slice none 0 0] 26) = V at *
  refine (cnew a cap zs _ (hz.below hb0) hl).mono ?_
  rintro e w1 ⟨cb, rfl, hcb, hC, hb⟩
  have HB1 := btrans hb0 hb
  have K1 := blk_keep hb K0
  have hlt0 := lt_of_block K0
  have hcl := hC.lt (.inl rfl)
  clear hb hb0 K0
  go_wp2_with fail
  refine (cDrawR cb cap a zs _ hC hl hcl).mono ?_
  rintro e w2 ⟨n, es, ao, cp, rfl, hR, n2, hO, hC2, hg⟩
  have HB2 := HB1.grown hg HB1.size (fun j hj => by simp at hj; omega)
  have K2 := far_blk hg K1 (fun j hj => by simp at hj; omega)
  obtain ⟨⟨k0, k1⟩, p0, p1⟩ := blk2 K2
  have hge := own_from hO (Nat.le_refl _)
  have hs1 := lt_of_block K1
  clear hg hC hC2
  go_wp2
  refine bodyPost_ret (v := .agg #[.int .i64 (n : Nat), .slice ao es.length cp]) (by simp [results, Try.results11, go_sem, k0, k1]) rfl ?_
  refine ⟨n, es, ao, cp, rfl, hR, n2, own_base (own_set (own_set hO (fun k hk => by have := hge k hk; omega)) (fun k hk => by have := hge k hk; omega)) (by omega), ?_⟩
  exact below_set (Nat.le_refl _) (below_set (Nat.le_refl _) HB2)
end Go.Proofs.Ytdjambejppanoaa
