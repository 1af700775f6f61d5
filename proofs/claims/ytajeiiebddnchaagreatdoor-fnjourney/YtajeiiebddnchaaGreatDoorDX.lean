/- The draw of a right trip over four or five nodes. -/
import Derived.Test.YtajeiiebddnchaaGreatDoorDR
import Derived.Test.YtajeiiebddnchaaGreatDoorLP
import Derived.Deep.RegionHeld3
import Derived.Maps.AppendAt
import Derived.Test.YtajeiiebddnchaaGreatDoorRC
namespace Go.Proofs.YtajeiiebddnchaaGreatDoor
open Go.RowKit
/-- A drawn trip: right, its calls a row of its own. -/
def DrawnTrip (w : World) (cb cap : Nat) (a : Option Addr) (zs : List Int) (e : Ending) (w' : World) : Prop :=
  ∃ s cs ao cp, e = .returned (.agg #[.string s, .slice ao (List.length cs) cp]) ∧ tripB ⟨s, cs⟩ = true ∧ w'.ownsRow w.heap.size 33 3 (.slice ao cs.length cp) cs.length (flatHalts cs) ∧ Cur w' cb a cap zs ∧ w.grownBy w' (some cb)

set_option maxHeartbeats 1600000 in
theorem cDrawWayN (cb : Nat) (n at_ : Int) (w : World) :
    Calls Tryz.prog 50 #[.pointer (some ⟨cb, 0, none⟩), .agg #[.int .i64 n, .slice none 0 0], .int .i64 at_, .int .i64 1] w fun e w' => (∃ v c, e = .returned (.slice v 0 c)) ∧ Below w.heap.size w w' := by
  have hb := btrans (balloc w (.cells #[.int .i64 n, .slice none 0 0] 46)) (balloc _ (.cells #[] 3))
  have A0 := blk_keep (balloc _ (.cells #[] 3)) (one_block w (.cells #[.int .i64 n, .slice none 0 0] 46))
  go_enter Tryz.func50, Tryz.ntmps50
  go_wp2
  obtain ⟨⟨x0, x1⟩, -⟩ := blk2 A0
  generalize ((w.alloc (.cells #[.int .i64 n, .slice none 0 0] 46)).alloc (.cells #[] 3)) = W at *
  clear A0
  go_loopw [9, 11, 12, 13] (fun v i _ _ wr => ∃ k : Nat, k ≤ 1 ∧ i = .int .i64 k ∧ v = .slice (some ⟨w.heap.size + 1, 0, none⟩) 0 0 ∧ wr = W) (fun _ i _ _ _ => 1 - (intOf i).toNat)
  case atStart => exact ⟨0, by omega, rfl, rfl, rfl⟩
  case round =>
    obtain ⟨k, hk, rfl, rfl, hw⟩ := hrel
    subst wr
    by_cases h0 : k = 0
    · subst h0
      go_wp2_with fail
      refine (cBelow0 cb _).mono ?_
      rintro e w1 ⟨rfl, hw⟩
      subst w1
      go_wp2
      go_loopw [9, 13] (fun v i wr => v = .slice (some ⟨w.heap.size + 1, 0, none⟩) 0 0 ∧ i = .int .i64 0 ∧ wr = W) (fun _ _ _ => 0)
      case atStart => exact ⟨rfl, rfl, rfl⟩
      case round =>
        obtain ⟨rfl, rfl, hw⟩ := hrel
        subst wr
        go_wp2
        go_roundw
        case rel => exact ⟨1, by omega, by go_num, by trivial⟩
        case measure => simp [intOf]
    · obtain rfl : k = 1 := by omega
      go_wp2
      go_ret
      exact ⟨⟨_, _, rfl⟩, hb⟩
theorem next_ne4 (n r : Int) (r0 : 0 ≤ r) (r1 : r < 3) : 0 ≤ (n + 1 + r) % 4 ∧ (n + 1 + r) % 4 < 4 ∧ (n + 1 + r) % 4 ≠ n := by omega
theorem next_ne5 (n r : Int) (r0 : 0 ≤ r) (r1 : r < 4) : 0 ≤ (n + 1 + r) % 5 ∧ (n + 1 + r) % 5 < 5 ∧ (n + 1 + r) % 5 ≠ n := by omega
set_option maxRecDepth 100000 in
set_option maxHeartbeats 3200000 in
theorem cDrawTrip4 (cb cap : Nat) (a : Option Addr) (zs : List Int) (w : World) (hc : Cur w cb a cap zs) (hl : zs.length ≤ 1048576) (hcb : cb < w.heap.size) :
    Calls Tryz.prog 33 #[.pointer (some ⟨cb, 0, none⟩), .agg #[.int .i64 4, .slice none 0 0], .int .i64 4] w (DrawnTrip w cb cap a zs) := by
  have hOn : ∀ k, OnCur cb a zs k → k < w.heap.size := fun k hk => hc.lt hk
  have hb0 := btrans (balloc w (.cells #[.int .i64 4, .slice none 0 0] 46)) (balloc _ (.cells #[.string ⟨#[]⟩, .slice none 0 0] 36))
  have A0 := blk_keep (balloc _ (.cells #[.string ⟨#[]⟩, .slice none 0 0] 36)) (one_block w (.cells #[.int .i64 4, .slice none 0 0] 46))
  have K0 := one_block (w.alloc (.cells #[.int .i64 4, .slice none 0 0] 46)) (.cells #[.string ⟨#[]⟩, .slice none 0 0] 36)
  simp only [sz1] at K0
  go_enter Tryz.func33, Tryz.ntmps33
  go_wp2_with fail
  generalize ((w.alloc (.cells #[.int .i64 4, .slice none 0 0] 46)).alloc (.cells #[.string ⟨#[]⟩, .slice none 0 0] 36)) = V at *
  have hV := hb0.size
  have hV2 := lt_of_block K0
  refine (cDrawName cb cap a zs V (hc.below hb0) hl (by omega)).mono ?_
  rintro e w1 ⟨s, rfl, hnm, hc1, hg1⟩
  have G1 := gtrans (gofr (some cb) hb0) hg1
  replace A0 := far_blk hg1 A0 (fun j hj => by simp at hj; omega)
  replace K0 := far_blk hg1 K0 (fun j hj => by simp at hj; omega)
  have hW1 := hg1.size
  clear hb0 hg1 hc
  -- the struct's block
  have L0 : OutC w1 (w1.alloc (.cells #[.string s, .slice none 0 0] 36)) cb s none 0 [] := ⟨grown_alloc _ _ _, one_block _ _, World.ownsRow_nil _ _ _ _⟩
  have hcbw : cb < w1.heap.size := by omega
  have hb1 := balloc w1 (.cells #[.string s, .slice none 0 0] 36)
  have A1 := blk_keep hb1 A0
  have hc2 := hc1.below hb1
  obtain ⟨⟨x0, x1⟩, -⟩ := blk2 A1
  go_wp2_with fail
  clear x0 x1
  generalize w1.alloc (.cells #[.string s, .slice none 0 0] 36) = w2 at *
  refine (cbelow cb cap a zs 4 _ hc2 hl (by omega) (by omega)).mono ?_
  rintro e w3 ⟨nd, rfl, n0, n1, hc3, hg3⟩
  replace L0 := L0.cur hcbw hg3
  clear hg3 hc2 hb1 A1
  go_wp2_with fail
  refine (cbelow cb cap a zs 120 _ hc3 hl (by omega) (by omega)).mono ?_
  rintro e w4 ⟨m, rfl, m0, m1, hc4, hg4⟩
  replace L0 := L0.cur hcbw hg4
  clear hg4 hc3
  go_wp2_with fail
  refine (cbelow cb cap a zs 3 _ hc4 hl (by omega) (by omega)).mono ?_
  rintro e w5 ⟨q, rfl, q0, q1, hc5, hg5⟩
  replace L0 := L0.cur hcbw hg5
  clear hg5 hc4
  have hwq : IntKind.i64.wrap (2 + q) = 2 + q := wrap_in _ (by omega) (by omega)
  obtain ⟨N, hN⟩ : ∃ N : Nat, 2 + q = (N : Int) := ⟨(2 + q).toNat, by omega⟩
  have hN1 : 2 ≤ N := by omega
  have hN2 : N ≤ 5 := by omega
  rw [hN] at hwq
  have hn5 : nd ≤ 5 := by omega
  have hG0 : Good [] nd m := ⟨rfl, rfl, fun p hp => by simp at hp, n0, hn5, m0, by simp; omega⟩
  obtain ⟨i0, hi, hz0, hz1, hz2⟩ := info_parts infoHalts
  replace hN := hide hN
  go_wp2
  go_loopw [8, 9, 10] (fun vn vm vi wr => ∃ (j : Nat) (xs : List HaltV) (nd m : Int) (ao : Option Addr) (cp : Nat), j + xs.length = N ∧ vn = .int .i64 nd ∧ vm = .int .i64 m ∧ vi = .int .i64 j ∧ nd < 4 ∧ Good xs nd m ∧ OutC w1 wr cb s ao cp xs ∧ Cur wr cb a cap zs) (fun _ _ i _ => (intOf i).toNat)
  case atStart => exact ⟨N, [], nd, m, none, 0, by simp, rfl, rfl, by rw [hN.out], n1, hG0, L0, hc5⟩
  case round =>
    clear hG0 L0 hc5 n0 n1 m0 m1 q0 q1 hn5 hwq hN
    obtain ⟨j, xs, nd, m, ao, cp, hj, rfl, rfl, rfl, hnd, hG, L, hC⟩ := hrel
    have A1 := far_blk L.gr A0 (fun j hj => by simp at hj; omega)
    have hJ := hide hj
    have hxl : xs.length ≤ 5 := by omega
    have hjl : j ≤ 5 := by omega
    clear hj
    by_cases hj0 : 0 < j
    · have hj0' : (0 : Int) < (j : Int) := by omega
      have hm0 := hG.m0
      have hm1 := hG.m1
      have hn0 := hG.n0
      have hn1 := hG.n1
      have hm2 : m ≤ 300 := by omega
      clear hm1
      go_wp2_with fail
      refine (cbelow cb cap a zs 4 _ hC hl (by omega) (by omega)).mono ?_
      rintro e w6 ⟨q, rfl, q0, q1, hc6, hg6⟩
      replace L := L.cur hcbw hg6
      replace A1 := far_blk hg6 A1 (fun j hj => by simp at hj; omega)
      have hw1 : IntKind.i64.wrap (m + q) = m + q := wrap_in _ (by omega) (by omega)
      clear hC hg6
      have hx2 := balloc w6 (.cells #[.int .i64 nd, .int .i64 m, .int .i64 (m + q)] 33)
      have hB := one_block w6 (.cells #[.int .i64 nd, .int .i64 m, .int .i64 (m + q)] 33)
      have ho2 := own_keep L.own hx2
      have hLt := L.lt
      obtain ⟨⟨o0, o1⟩, f0, f1⟩ := blk2 L.out
      go_wp2_with (at_builtin; refine wpList_append_own _ rfl _ _ 34 rfl (w1.heap.size + 1) 33 i0 _ 3 24 Tryz.underlying34 hi hz0 hz1 hz2 rfl (by decide) _ _ _ rfl ho2 ⟨w6.heap.size, 0, none⟩ 1 1 (HaltV.vs ⟨nd, m, m + q⟩) rfl rfl ?c1 ?c2 ?c3 ?c4 ?c5 ?_)
      case c1 => exact World.news_of_block hB
      case c2 => simp [HaltV.vs, Value.oneCell']
      case c3 => unfold maxLen; omega
      case c4 => omega
      case c5 => simp; omega
      intro v2 w7 hown hgrow _
      rcases hown.2 with ⟨_, h0⟩ | ⟨g, cap2, cur, rfl, _⟩
      · simp at h0
      have L2 := L.push hx2 hown hgrow
      have hge := own_from L.own (Nat.le_refl _)
      have hout : w7.heap[w1.heap.size]? = some (.cells #[.string s, .slice ao xs.length cp] 36) := far_blk hgrow (blk_keep hx2 L.out) (fun j hj => by have := hge j hj; omega)
      have A2 : w7.heap[w.heap.size]? = some (.cells #[.int .i64 4, .slice none 0 0] 46) := far_blk hgrow (blk_keep hx2 A1) (fun j hj => by have := hge j hj; omega)
      have hc7 : Cur w7 cb a cap zs := (hc6.below hx2).grow hOn hgrow (fun k hk => by have := hge k hk; omega)
      obtain ⟨⟨u0, u1⟩, t0, t1⟩ := blk2 hout
      clear hown hgrow hB ho2 hx2 o0 o1 f0 f1 hge hout L A1 hc6
      have A3 := (Below.heap_setCell w7 ⟨w1.heap.size, 1, none⟩ (.slice (some ⟨g, 0, none⟩) (xs.length + 1) cap2) w.heap.size (by dsimp only; omega)).trans A2
      have hc8 : Cur (w7.setCell ⟨w1.heap.size, 1, none⟩ (.slice (some ⟨g, 0, none⟩) (xs.length + 1) cap2)) cb a cap zs := hc7.grow hOn (grown_set _ _ _ _) (fun k hk => by simp at hk; omega)
      clear A2 hc7
      go_wp2_with fail
      generalize (w7.setCell ⟨w1.heap.size, 1, none⟩ (.slice (some ⟨g, 0, none⟩) (xs.length + 1) cap2)) = w8 at *
      refine (cbelow cb cap a zs 14 _ hc8 hl (by omega) (by omega)).mono ?_
      rintro e w9 ⟨r, rfl, r0, r1, hc9, hg9⟩
      replace L2 := L2.cur hcbw hg9
      replace A3 := far_blk hg9 A3 (fun j hj => by simp at hj; omega)
      have hw2 : IntKind.i64.wrap (m + q + 2) = m + q + 2 := wrap_in _ (by omega) (by omega)
      have hw3 : IntKind.i64.wrap (m + q + 2 + r) = m + q + 2 + r := wrap_in _ (by omega) (by omega)
      have hw4 : IntKind.i64.wrap (nd + 1) = nd + 1 := wrap_in _ (by omega) (by omega)
      clear hg9 hc8 u0 u1 t0 t1
      obtain ⟨⟨x0, x1⟩, -⟩ := blk2 A3
      go_wp2_with fail
      go_region_held3 (fun w' => w'.cell? ⟨w.heap.size, 0, none⟩ = some (.int .i64 4) ∧ w'.cell? ⟨w.heap.size, 1, none⟩ = some (.slice none 0 0)) (go_keep) (first
        | (go_at_call 15; refine (cbelow cb cap a zs 3 _ (hc9.below (bdraw (Below.refl _ _) 1)) hl (by omega) (by omega)).mono ?_; rintro e wp ⟨r2, rfl, r20, r21, hcp, hgp⟩; have hgp2 := gtrans (gofr (some cb) (bdraw (Below.refl _ _) 1)) hgp; have A4 := far_blk hgp2 A3 (fun j hj => by simp at hj; omega); obtain ⟨⟨v0, v1⟩, -⟩ := blk2 A4; have hw5 : IntKind.i64.wrap (nd + 1 + r2) = nd + 1 + r2 := wrap_in _ (by omega) (by omega); have hw6 : (nd + 1 + r2).tmod 4 = (nd + 1 + r2) % 4 := Int.tmod_eq_emod_of_nonneg (by omega)))
      have L3 := L2.cur hcbw hgp2
      obtain ⟨e1, e2, e3⟩ := next_ne4 nd r2 r20 r21
      have hG2 := hG.next (by omega) q0 q1 r0 r1 e1 (by omega) e3
      clear e1 e3 L2 hgp hgp2 x0 x1 A3 hc9 hw5 hw6 hw4 hw3 hw2 hw1
      generalize (nd + 1 + r2) % 4 = nx at *
      go_wp2_with fail
      refine (cDrawWayN cb 4 nd _).mono ?_
      rintro e w10 ⟨⟨v, c, rfl⟩, hb10⟩
      have L4 := L3.keep hb10
      have hc10 := hcp.below hb10
      have hwj : IntKind.i64.wrap ((j : Int) - 1) = ((j - 1 : Nat) : Int) := by rw [wrap_in _ (by omega) (by omega)]; omega
      clear L3 hb10 hcp v0 v1 A4
      go_wp2
      go_roundw
      case rel => exact ⟨j - 1, xs ++ [⟨nd, m, m + q⟩], nx, m + q + 2 + r, some ⟨g, 0, none⟩, cap2, by have := hJ.out; simp; omega, rfl, rfl, by first | rfl | (congr 1; omega), e2, hG2, L4, hc10⟩
      case measure => simp [intOf]; omega
    · obtain rfl : j = 0 := by omega
      have hlen := hJ.out
      have hT : tripB ⟨s, xs⟩ = true := by
        simp only [tripB, hnm, hG.all, hG.chain, Bool.and_true, Bool.true_and]
        exact inB_yes (by omega) (by omega)
      replace hT := hide hT
      have K1 := far_blk L.gr K0 (fun j hj => by simp at hj; omega)
      obtain ⟨⟨y0, y1⟩, f0, f1⟩ := blk2 K1
      obtain ⟨⟨o0, o1⟩, -⟩ := blk2 L.out
      have G2 := gtrans G1 L.gr
      have hfr := own_from L.own (Nat.le_refl _)
      have hne3 : w.heap.size + 1 ≠ w1.heap.size := by omega
      have hwl : w.heap.size + 1 < w1.heap.size := by omega
      have ho := L.own
      clear hlen hJ A1 A0
      go_wp2
      refine bodyPost_ret (v := .agg #[.string s, .slice ao xs.length cp]) (by simp [results, Tryz.results33, go_sem, y0, y1]) rfl ?_
      refine ⟨s, xs, ao, cp, rfl, hT.out, own_base (own_set (own_set ho (fun k hk => by have := hfr k hk; omega)) (fun k hk => by have := hfr k hk; omega)) (by omega), ?_, ?_⟩
      · exact (hC.grow hOn (grown_set _ _ _ _) (fun k hk => by simp at hk; omega)).grow hOn (grown_set _ _ _ _) (fun k hk => by simp at hk; omega)
      · exact grown_far (grown_far G2 (grown_set _ _ _ _) (fun k hk => by simp at hk; omega)) (grown_set _ _ _ _) (fun k hk => by simp at hk; omega)

set_option maxRecDepth 100000 in
set_option maxHeartbeats 3200000 in
theorem cDrawTrip5 (cb cap : Nat) (a : Option Addr) (zs : List Int) (w : World) (hc : Cur w cb a cap zs) (hl : zs.length ≤ 1048576) (hcb : cb < w.heap.size) :
    Calls Tryz.prog 33 #[.pointer (some ⟨cb, 0, none⟩), .agg #[.int .i64 5, .slice none 0 0], .int .i64 4] w (DrawnTrip w cb cap a zs) := by
  have hOn : ∀ k, OnCur cb a zs k → k < w.heap.size := fun k hk => hc.lt hk
  have hb0 := btrans (balloc w (.cells #[.int .i64 5, .slice none 0 0] 46)) (balloc _ (.cells #[.string ⟨#[]⟩, .slice none 0 0] 36))
  have A0 := blk_keep (balloc _ (.cells #[.string ⟨#[]⟩, .slice none 0 0] 36)) (one_block w (.cells #[.int .i64 5, .slice none 0 0] 46))
  have K0 := one_block (w.alloc (.cells #[.int .i64 5, .slice none 0 0] 46)) (.cells #[.string ⟨#[]⟩, .slice none 0 0] 36)
  simp only [sz1] at K0
  go_enter Tryz.func33, Tryz.ntmps33
  go_wp2_with fail
  generalize ((w.alloc (.cells #[.int .i64 5, .slice none 0 0] 46)).alloc (.cells #[.string ⟨#[]⟩, .slice none 0 0] 36)) = V at *
  have hV := hb0.size
  have hV2 := lt_of_block K0
  refine (cDrawName cb cap a zs V (hc.below hb0) hl (by omega)).mono ?_
  rintro e w1 ⟨s, rfl, hnm, hc1, hg1⟩
  have G1 := gtrans (gofr (some cb) hb0) hg1
  replace A0 := far_blk hg1 A0 (fun j hj => by simp at hj; omega)
  replace K0 := far_blk hg1 K0 (fun j hj => by simp at hj; omega)
  have hW1 := hg1.size
  clear hb0 hg1 hc
  -- the struct's block
  have L0 : OutC w1 (w1.alloc (.cells #[.string s, .slice none 0 0] 36)) cb s none 0 [] := ⟨grown_alloc _ _ _, one_block _ _, World.ownsRow_nil _ _ _ _⟩
  have hcbw : cb < w1.heap.size := by omega
  have hb1 := balloc w1 (.cells #[.string s, .slice none 0 0] 36)
  have A1 := blk_keep hb1 A0
  have hc2 := hc1.below hb1
  obtain ⟨⟨x0, x1⟩, -⟩ := blk2 A1
  go_wp2_with fail
  clear x0 x1
  generalize w1.alloc (.cells #[.string s, .slice none 0 0] 36) = w2 at *
  refine (cbelow cb cap a zs 5 _ hc2 hl (by omega) (by omega)).mono ?_
  rintro e w3 ⟨nd, rfl, n0, n1, hc3, hg3⟩
  replace L0 := L0.cur hcbw hg3
  clear hg3 hc2 hb1 A1
  go_wp2_with fail
  refine (cbelow cb cap a zs 120 _ hc3 hl (by omega) (by omega)).mono ?_
  rintro e w4 ⟨m, rfl, m0, m1, hc4, hg4⟩
  replace L0 := L0.cur hcbw hg4
  clear hg4 hc3
  go_wp2_with fail
  refine (cbelow cb cap a zs 3 _ hc4 hl (by omega) (by omega)).mono ?_
  rintro e w5 ⟨q, rfl, q0, q1, hc5, hg5⟩
  replace L0 := L0.cur hcbw hg5
  clear hg5 hc4
  have hwq : IntKind.i64.wrap (2 + q) = 2 + q := wrap_in _ (by omega) (by omega)
  obtain ⟨N, hN⟩ : ∃ N : Nat, 2 + q = (N : Int) := ⟨(2 + q).toNat, by omega⟩
  have hN1 : 2 ≤ N := by omega
  have hN2 : N ≤ 5 := by omega
  rw [hN] at hwq
  have hn5 : nd ≤ 5 := by omega
  have hG0 : Good [] nd m := ⟨rfl, rfl, fun p hp => by simp at hp, n0, hn5, m0, by simp; omega⟩
  obtain ⟨i0, hi, hz0, hz1, hz2⟩ := info_parts infoHalts
  replace hN := hide hN
  go_wp2
  go_loopw [8, 9, 10] (fun vn vm vi wr => ∃ (j : Nat) (xs : List HaltV) (nd m : Int) (ao : Option Addr) (cp : Nat), j + xs.length = N ∧ vn = .int .i64 nd ∧ vm = .int .i64 m ∧ vi = .int .i64 j ∧ nd < 5 ∧ Good xs nd m ∧ OutC w1 wr cb s ao cp xs ∧ Cur wr cb a cap zs) (fun _ _ i _ => (intOf i).toNat)
  case atStart => exact ⟨N, [], nd, m, none, 0, by simp, rfl, rfl, by rw [hN.out], n1, hG0, L0, hc5⟩
  case round =>
    clear hG0 L0 hc5 n0 n1 m0 m1 q0 q1 hn5 hwq hN
    obtain ⟨j, xs, nd, m, ao, cp, hj, rfl, rfl, rfl, hnd, hG, L, hC⟩ := hrel
    have A1 := far_blk L.gr A0 (fun j hj => by simp at hj; omega)
    have hJ := hide hj
    have hxl : xs.length ≤ 5 := by omega
    have hjl : j ≤ 5 := by omega
    clear hj
    by_cases hj0 : 0 < j
    · have hj0' : (0 : Int) < (j : Int) := by omega
      have hm0 := hG.m0
      have hm1 := hG.m1
      have hn0 := hG.n0
      have hn1 := hG.n1
      have hm2 : m ≤ 300 := by omega
      clear hm1
      go_wp2_with fail
      refine (cbelow cb cap a zs 4 _ hC hl (by omega) (by omega)).mono ?_
      rintro e w6 ⟨q, rfl, q0, q1, hc6, hg6⟩
      replace L := L.cur hcbw hg6
      replace A1 := far_blk hg6 A1 (fun j hj => by simp at hj; omega)
      have hw1 : IntKind.i64.wrap (m + q) = m + q := wrap_in _ (by omega) (by omega)
      clear hC hg6
      have hx2 := balloc w6 (.cells #[.int .i64 nd, .int .i64 m, .int .i64 (m + q)] 33)
      have hB := one_block w6 (.cells #[.int .i64 nd, .int .i64 m, .int .i64 (m + q)] 33)
      have ho2 := own_keep L.own hx2
      have hLt := L.lt
      obtain ⟨⟨o0, o1⟩, f0, f1⟩ := blk2 L.out
      go_wp2_with (at_builtin; refine wpList_append_own _ rfl _ _ 34 rfl (w1.heap.size + 1) 33 i0 _ 3 24 Tryz.underlying34 hi hz0 hz1 hz2 rfl (by decide) _ _ _ rfl ho2 ⟨w6.heap.size, 0, none⟩ 1 1 (HaltV.vs ⟨nd, m, m + q⟩) rfl rfl ?c1 ?c2 ?c3 ?c4 ?c5 ?_)
      case c1 => exact World.news_of_block hB
      case c2 => simp [HaltV.vs, Value.oneCell']
      case c3 => unfold maxLen; omega
      case c4 => omega
      case c5 => simp; omega
      intro v2 w7 hown hgrow _
      rcases hown.2 with ⟨_, h0⟩ | ⟨g, cap2, cur, rfl, _⟩
      · simp at h0
      have L2 := L.push hx2 hown hgrow
      have hge := own_from L.own (Nat.le_refl _)
      have hout : w7.heap[w1.heap.size]? = some (.cells #[.string s, .slice ao xs.length cp] 36) := far_blk hgrow (blk_keep hx2 L.out) (fun j hj => by have := hge j hj; omega)
      have A2 : w7.heap[w.heap.size]? = some (.cells #[.int .i64 5, .slice none 0 0] 46) := far_blk hgrow (blk_keep hx2 A1) (fun j hj => by have := hge j hj; omega)
      have hc7 : Cur w7 cb a cap zs := (hc6.below hx2).grow hOn hgrow (fun k hk => by have := hge k hk; omega)
      obtain ⟨⟨u0, u1⟩, t0, t1⟩ := blk2 hout
      clear hown hgrow hB ho2 hx2 o0 o1 f0 f1 hge hout L A1 hc6
      have A3 := (Below.heap_setCell w7 ⟨w1.heap.size, 1, none⟩ (.slice (some ⟨g, 0, none⟩) (xs.length + 1) cap2) w.heap.size (by dsimp only; omega)).trans A2
      have hc8 : Cur (w7.setCell ⟨w1.heap.size, 1, none⟩ (.slice (some ⟨g, 0, none⟩) (xs.length + 1) cap2)) cb a cap zs := hc7.grow hOn (grown_set _ _ _ _) (fun k hk => by simp at hk; omega)
      clear A2 hc7
      go_wp2_with fail
      generalize (w7.setCell ⟨w1.heap.size, 1, none⟩ (.slice (some ⟨g, 0, none⟩) (xs.length + 1) cap2)) = w8 at *
      refine (cbelow cb cap a zs 14 _ hc8 hl (by omega) (by omega)).mono ?_
      rintro e w9 ⟨r, rfl, r0, r1, hc9, hg9⟩
      replace L2 := L2.cur hcbw hg9
      replace A3 := far_blk hg9 A3 (fun j hj => by simp at hj; omega)
      have hw2 : IntKind.i64.wrap (m + q + 2) = m + q + 2 := wrap_in _ (by omega) (by omega)
      have hw3 : IntKind.i64.wrap (m + q + 2 + r) = m + q + 2 + r := wrap_in _ (by omega) (by omega)
      have hw4 : IntKind.i64.wrap (nd + 1) = nd + 1 := wrap_in _ (by omega) (by omega)
      clear hg9 hc8 u0 u1 t0 t1
      obtain ⟨⟨x0, x1⟩, -⟩ := blk2 A3
      go_wp2_with fail
      go_region_held3 (fun w' => w'.cell? ⟨w.heap.size, 0, none⟩ = some (.int .i64 5) ∧ w'.cell? ⟨w.heap.size, 1, none⟩ = some (.slice none 0 0)) (go_keep) (first
        | (go_at_call 15; refine (cbelow cb cap a zs 4 _ (hc9.below (bdraw (Below.refl _ _) 1)) hl (by omega) (by omega)).mono ?_; rintro e wp ⟨r2, rfl, r20, r21, hcp, hgp⟩; have hgp2 := gtrans (gofr (some cb) (bdraw (Below.refl _ _) 1)) hgp; have A4 := far_blk hgp2 A3 (fun j hj => by simp at hj; omega); obtain ⟨⟨v0, v1⟩, -⟩ := blk2 A4; have hw5 : IntKind.i64.wrap (nd + 1 + r2) = nd + 1 + r2 := wrap_in _ (by omega) (by omega); have hw6 : (nd + 1 + r2).tmod 5 = (nd + 1 + r2) % 5 := Int.tmod_eq_emod_of_nonneg (by omega)))
      have L3 := L2.cur hcbw hgp2
      obtain ⟨e1, e2, e3⟩ := next_ne5 nd r2 r20 r21
      have hG2 := hG.next (by omega) q0 q1 r0 r1 e1 (by omega) e3
      clear e1 e3 L2 hgp hgp2 x0 x1 A3 hc9 hw5 hw6 hw4 hw3 hw2 hw1
      generalize (nd + 1 + r2) % 5 = nx at *
      go_wp2_with fail
      refine (cDrawWayN cb 5 nd _).mono ?_
      rintro e w10 ⟨⟨v, c, rfl⟩, hb10⟩
      have L4 := L3.keep hb10
      have hc10 := hcp.below hb10
      have hwj : IntKind.i64.wrap ((j : Int) - 1) = ((j - 1 : Nat) : Int) := by rw [wrap_in _ (by omega) (by omega)]; omega
      clear L3 hb10 hcp v0 v1 A4
      go_wp2
      go_roundw
      case rel => exact ⟨j - 1, xs ++ [⟨nd, m, m + q⟩], nx, m + q + 2 + r, some ⟨g, 0, none⟩, cap2, by have := hJ.out; simp; omega, rfl, rfl, by first | rfl | (congr 1; omega), e2, hG2, L4, hc10⟩
      case measure => simp [intOf]; omega
    · obtain rfl : j = 0 := by omega
      have hlen := hJ.out
      have hT : tripB ⟨s, xs⟩ = true := by
        simp only [tripB, hnm, hG.all, hG.chain, Bool.and_true, Bool.true_and]
        exact inB_yes (by omega) (by omega)
      replace hT := hide hT
      have K1 := far_blk L.gr K0 (fun j hj => by simp at hj; omega)
      obtain ⟨⟨y0, y1⟩, f0, f1⟩ := blk2 K1
      obtain ⟨⟨o0, o1⟩, -⟩ := blk2 L.out
      have G2 := gtrans G1 L.gr
      have hfr := own_from L.own (Nat.le_refl _)
      have hne3 : w.heap.size + 1 ≠ w1.heap.size := by omega
      have hwl : w.heap.size + 1 < w1.heap.size := by omega
      have ho := L.own
      clear hlen hJ A1 A0
      go_wp2
      refine bodyPost_ret (v := .agg #[.string s, .slice ao xs.length cp]) (by simp [results, Tryz.results33, go_sem, y0, y1]) rfl ?_
      refine ⟨s, xs, ao, cp, rfl, hT.out, own_base (own_set (own_set ho (fun k hk => by have := hfr k hk; omega)) (fun k hk => by have := hfr k hk; omega)) (by omega), ?_, ?_⟩
      · exact (hC.grow hOn (grown_set _ _ _ _) (fun k hk => by simp at hk; omega)).grow hOn (grown_set _ _ _ _) (fun k hk => by simp at hk; omega)
      · exact grown_far (grown_far G2 (grown_set _ _ _ _) (fun k hk => by simp at hk; omega)) (grown_set _ _ _ _) (fun k hk => by simp at hk; omega)

end Go.Proofs.YtajeiiebddnchaaGreatDoor

/- The draw of a right timetable. -/
namespace Go.Proofs.YtajeiiebddnchaaGreatDoor
open Go.RowKit
/-- Each pair is a trip's two cells. -/
def TripsIn (w : World) (vs : List (Value × Value)) (ts : List TripV) : Prop := vs.length = ts.length ∧ ∀ i, (hi : i < vs.length) → TripIn w vs[i].1 vs[i].2 (ts.getD i TripV.zero)
theorem Trips.of_pairs {w : World} {base n c : Nat} {a : Option Addr} {vs : List (Value × Value)} {ts : List TripV} (h : w.ownsRow base 36 2 (.slice a n c) n (flatP vs)) (g : TripsIn w vs ts) : Trips w a ts := by
  have hl := h.1
  rw [flatP_len, g.1] at hl
  rcases h.2 with ⟨_, h0⟩ | ⟨gb, cap', cur, he, _⟩
  · left
    exact List.length_eq_zero_iff.1 (by omega)
  · simp only [Value.slice.injEq] at he
    obtain ⟨rfl, _, rfl⟩ := he
    refine .inr ⟨gb, 0, rfl, fun i hi => ?_⟩
    have hi' : i < vs.length := by have := g.1; omega
    obtain ⟨q1, q2⟩ := flatP_get vs i hi'
    refine ⟨_, _, ?_, ?_, g.2 i hi'⟩
    · rw [Nat.zero_add, h.cellAt _ (by omega)]; exact q1
    · rw [Nat.zero_add, h.cellAt _ (by omega)]; exact q2

theorem flatP_snoc (vs : List (Value × Value)) (q : Value × Value) : flatP (vs ++ [q]) = flatP vs ++ [q.1, q.2] := by simp [flatP]
def TakenAns (ts : List TripV) (s : ByteArray) (w : World) (e : Ending) (w' : World) : Prop := ∃ r, e = .returned (.bool r) ∧ (r = false → ∀ i, i < ts.length → nmA ts i ≠ s) ∧ w' = w
set_option maxHeartbeats 800000 in
theorem cTaken (a : Option Addr) (cap : Nat) (ts : List TripV) (s : ByteArray) (w : World) (hz : Trips w a ts) (hl : ts.length ≤ 1048576) :
    Calls Tryz.prog 34 #[.slice a ts.length cap, .string s] w (TakenAns ts s w) := by
  go_enter Tryz.func34, Tryz.ntmps34
  go_wp2
  go_loop [5] (fun i => ∃ k : Nat, k ≤ ts.length ∧ i = .int .i64 k ∧ Hid (∀ i, i < k → nmA ts i ≠ s)) (fun i => ts.length - (intOf i).toNat)
  case atStart => exact ⟨0, Nat.zero_le _, rfl, hide (fun i h => by omega)⟩
  case round =>
    obtain ⟨k, hk, rfl, hI⟩ := hrel
    by_cases hlt : k < ts.length
    · have hlt' : (k : Int) < (ts.length : Int) := by omega
      obtain ⟨b, off, n, cn, rfl, c1, c2, -, c3⟩ := hz.at hlt
      have hnm : Hid ((ts.getD k TripV.zero).name = nmA ts k) := rfl
      generalize (ts.getD k TripV.zero).name = x at *
      clear c2 c3
      by_cases he : x = s
      · subst he
        clear hnm
        go_wp2
        go_ret
        exact ⟨_, rfl, (fun h => absurd h (by simp)), rfl⟩
      · have hne := str_ne he
        have hI2 : Hid (∀ i, i < k + 1 → nmA ts i ≠ s) := by
          refine hide (fun i hi h => ?_)
          by_cases hik : i = k
          · subst hik; rw [← hnm.out] at h; exact he h
          · exact hI.out i (by omega) h
        clear hnm
        go_wp2
        go_round
        case rel => exact ⟨k + 1, by omega, by go_num, hI2⟩
        case measure => simp [intOf]; omega
    · obtain rfl : k = ts.length := by omega
      clear hz
      go_wp2
      go_ret
      exact ⟨_, rfl, fun _ => hI.out, rfl⟩

/-- What is drawn of a timetable so far: the list is a row of its own, and so are the calls of each trip, apart from it. -/
structure TabD (B : Nat) (wr : World) (v : Value) (vs : List (Value × Value)) (ts : List TripV) : Prop where
  own : wr.ownsRow B 36 2 v ts.length (flatP vs)
  len : vs.length = ts.length
  each : ∀ j, (hj : j < vs.length) → TripOwn wr B vs[j].1 vs[j].2 (ts.getD j TripV.zero)
  apart : ∀ j, (hj : j < vs.length) → ∀ k, vs[j].2.ownBlock = some k → v.ownBlock ≠ some k
  ok : ∀ j, j < ts.length → tripB (ts.getD j TripV.zero) = true
  names : ∀ i j, i < j → j < ts.length → nmA ts i ≠ nmA ts j
theorem TripOwn.far {w w' : World} {lo : Nat} {va vb : Value} {t : TripV} {r : Option Nat} (h : TripOwn w lo va vb t) (hg : w.grownBy w' r) (hne : ∀ k, vb.ownBlock = some k → r ≠ some k) : TripOwn w' lo va vb t := by
  obtain ⟨h1, a, c, h2, h3⟩ := h
  subst h2
  exact ⟨h1, a, c, rfl, own_far h3 hg (fun k hk e => hne k hk e.symm)⟩
theorem TripOwn.lt {w : World} {lo : Nat} {va vb : Value} {t : TripV} (h : TripOwn w lo va vb t) : ∀ k, vb.ownBlock = some k → lo ≤ k ∧ k < w.heap.size := by
  obtain ⟨h1, a, c, h2, h3⟩ := h
  subst h2
  intro k hk
  exact ⟨own_from h3 (Nat.le_refl _) k hk, own_blk_lt h3 k hk⟩
theorem TabD.below {B : Nat} {wr w2 : World} {v : Value} {vs : List (Value × Value)} {ts : List TripV} (h : TabD B wr v vs ts) (hb : Below wr.heap.size wr w2) : TabD B w2 v vs ts :=
  ⟨own_keep h.own hb, h.len, fun j hj => (h.each j hj).below hb, h.apart, h.ok, h.names⟩
theorem TabD.cur {B cb : Nat} {wr w2 : World} {v : Value} {vs : List (Value × Value)} {ts : List TripV} (h : TabD B wr v vs ts) (hcb : cb < B) (hg : wr.grownBy w2 (some cb)) : TabD B w2 v vs ts :=
  ⟨own_far h.own hg (fun k hk e => by have := own_from h.own (Nat.le_refl _) k hk; simp at e; omega), h.len, fun j hj => (h.each j hj).far hg (fun k hk e => by have := (h.each j hj).lt k hk; simp at e; omega), h.apart, h.ok, h.names⟩
theorem TabD.read {B : Nat} {wr : World} {v : Value} {vs : List (Value × Value)} {ts : List TripV} (h : TabD B wr v vs ts) : TripsIn wr vs ts := ⟨h.len, fun i hi => (h.each i hi).read⟩
theorem nmA_app {ts : List TripV} {t : TripV} {i : Nat} (h : i < ts.length) : nmA (ts ++ [t]) i = nmA ts i := by simp [nmA, List.getD, List.getElem?_append_left h]
theorem getD_app {ts : List TripV} {t : TripV} {i : Nat} (h : i < ts.length) : (ts ++ [t]).getD i TripV.zero = ts.getD i TripV.zero := by simp [List.getD, List.getElem?_append_left h]
theorem getD_end {ts : List TripV} {t : TripV} : (ts ++ [t]).getD ts.length TripV.zero = t := by simp [List.getD]
/-- One trip more. -/
theorem TabD.push {B : Nat} {wr wx w2 : World} {v v2 va vb : Value} {vs : List (Value × Value)} {ts : List TripV} {t : TripV} (h : TabD B wr v vs ts) (hx : Below wr.heap.size wr wx)
    (hown : w2.ownsRow B 36 2 v2 (ts.length + 1) (flatP vs ++ [va, vb])) (hgrow : wx.grownBy w2 v.ownBlock) (hwhere : v2.ownBlock = v.ownBlock ∨ v2.ownBlock = some wx.heap.size)
    (hT : TripOwn wx B va vb t) (hap : ∀ k, vb.ownBlock = some k → v.ownBlock ≠ some k) (h1 : tripB t = true) (h2 : ∀ i, i < ts.length → nmA ts i ≠ t.name) :
    TabD B w2 v2 (vs ++ [(va, vb)]) (ts ++ [t]) := by
  have hl := h.len
  have hx' := h.below hx
  have key : ∀ j, (hj : j < vs.length) → (vs ++ [(va, vb)])[j]'(by simp; omega) = vs[j] := fun j hj => List.getElem_append_left hj
  have keyE : (vs ++ [(va, vb)])[vs.length]'(by simp) = (va, vb) := by simp
  refine ⟨?_, by simp [hl], fun j hj => ?_, fun j hj k hk => ?_, fun j hj => ?_, fun i j hij hj => ?_⟩
  · rw [flatP_snoc]; simpa using hown
  · by_cases hjl : j < vs.length
    · rw [key j hjl, getD_app (by omega)]
      exact (hx'.each j hjl).far hgrow (hx'.apart j hjl)
    · obtain rfl : j = vs.length := by simp at hj; omega
      rw [keyE, hl, getD_end]
      exact hT.far hgrow hap
  · by_cases hjl : j < vs.length
    · rw [key j hjl] at hk
      rcases hwhere with hw | hw
      · rw [hw]; exact h.apart j hjl k hk
      · rw [hw]; intro e; have := ((hx'.each j hjl).lt k hk).2; simp at e; omega
    · obtain rfl : j = vs.length := by simp at hj; omega
      rw [keyE] at hk
      rcases hwhere with hw | hw
      · rw [hw]; exact hap k hk
      · rw [hw]; intro e; have := (hT.lt k hk).2; simp at e; omega
  · by_cases hjl : j < ts.length
    · rw [getD_app hjl]; exact h.ok j hjl
    · obtain rfl : j = ts.length := by simp at hj; omega
      rw [getD_end]; exact h1
  · by_cases hjl : j < ts.length
    · rw [nmA_app hjl, nmA_app (by omega)]; exact h.names i j hij hjl
    · obtain rfl : j = ts.length := by simp at hj; omega
      rw [nmA_app hij, show nmA (ts ++ [t]) ts.length = t.name by unfold nmA; rw [getD_end]]
      exact h2 i hij

/-- A drawn timetable: right, its memory its own. -/
def DrawnTab (w : World) (cb cap : Nat) (a : Option Addr) (zs : List Int) (e : Ending) (w' : World) : Prop :=
  ∃ ao cp vs ts, e = .returned (.slice ao (List.length ts) cp) ∧ TabD w.heap.size w' (.slice ao ts.length cp) vs ts ∧ ts.length ≤ 11 ∧ Cur w' cb a cap zs ∧ w.grownBy w' (some cb)
theorem TabD.mono {B B' : Nat} {wr : World} {v : Value} {vs : List (Value × Value)} {ts : List TripV} (h : TabD B wr v vs ts) (hB : B' ≤ B) : TabD B' wr v vs ts :=
  ⟨own_base h.own hB, h.len, fun j hj => by obtain ⟨h1, a, c, h2, h3⟩ := h.each j hj; exact ⟨h1, a, c, h2, own_base h3 hB⟩, h.apart, h.ok, h.names⟩

set_option maxRecDepth 100000 in
set_option maxHeartbeats 6400000 in
theorem cDrawTab (cb cap : Nat) (a : Option Addr) (zs : List Int) (n : Int) (CT : ∀ w, Cur w cb a cap zs → cb < w.heap.size → Calls Tryz.prog 33 #[.pointer (some ⟨cb, 0, none⟩), .agg #[.int .i64 n, .slice none 0 0], .int .i64 4] w (DrawnTrip w cb cap a zs)) (most : Int) (hm1 : 1 ≤ most) (hm6 : most ≤ 11) (w : World) (hc : Cur w cb a cap zs) (hl : zs.length ≤ 1048576) (hcb : cb < w.heap.size) :
    Calls Tryz.prog 14 #[.pointer (some ⟨cb, 0, none⟩), .agg #[.int .i64 n, .slice none 0 0], .int .i64 most] w (DrawnTab w cb cap a zs) := by
  have hOn : ∀ k, OnCur cb a zs k → k < w.heap.size := fun k hk => hc.lt hk
  obtain ⟨i0, hi, hz0, hz1, hz2⟩ := info_parts infoTrip
  have hb0 := btrans (balloc w (.cells #[.int .i64 n, .slice none 0 0] 46)) (balloc _ (.cells #[] 36))
  have A0 := blk_keep (balloc _ (.cells #[] 36)) (one_block w (.cells #[.int .i64 n, .slice none 0 0] 46))
  have hO := World.ownsRow_made (base := w.heap.size + 1) (e := 36) (size := 2) (w.alloc (.cells #[.int .i64 n, .slice none 0 0] 46)) #[] 0 (by simp) (by unfold maxLen; omega) rfl
  rw [sz1] at hO
  go_enter Tryz.func14, Tryz.ntmps14
  go_wp2_with fail
  generalize (w.alloc (.cells #[.int .i64 n, .slice none 0 0] 46)).alloc (.cells #[] 36) = V at *
  have T0 : TabD (w.heap.size + 1) V (.slice (some ⟨w.heap.size + 1, 0, none⟩) 0 0) [] [] := ⟨hO, rfl, fun j hj => by simp at hj, fun j hj => by simp at hj, fun j hj => by simp at hj, fun i j h hj => by simp at hj⟩
  have hc0 := hc.below hb0
  have G0 := gofr (some cb) hb0
  clear hc hb0 hO
  refine (cbelow cb cap a zs most _ hc0 hl (by omega) (by omega)).mono ?_
  rintro e w1 ⟨r, rfl, r0, r1, hc1, hg1⟩
  have G1 := gtrans G0 hg1
  have A1 := far_blk hg1 A0 (fun j hj => by simp at hj; omega)
  have T1 := T0.cur (by omega) hg1
  have hw1 : IntKind.i64.wrap (1 + r) = 1 + r := wrap_in _ (by omega) (by omega)
  obtain ⟨N, hN⟩ : ∃ N : Nat, 1 + r = (N : Int) := ⟨(1 + r).toNat, by omega⟩
  have hN6 : N ≤ 11 := by omega
  replace hN := hide hN
  clear hg1 hc0 G0 A0 T0
  go_wp2
  go_loopw [7, 8] (fun vo vi wr => ∃ (j : Nat) (vs : List (Value × Value)) (ts : List TripV), j + ts.length ≤ N ∧ vi = .int .i64 j ∧ TabD (w.heap.size + 1) wr vo vs ts ∧ wr.heap[w.heap.size]? = some (.cells #[.int .i64 n, .slice none 0 0] 46) ∧ Cur wr cb a cap zs ∧ w.grownBy wr (some cb)) (fun _ vi _ => (intOf vi).toNat)
  case atStart => exact ⟨N, [], [], by simp, by rw [hN.out], T1, A1, hc1, G1⟩
  case round =>
    clear T1 A1 hc1 G1 hw1 hN r0 r1
    obtain ⟨j, vs, ts, hj, rfl, T, A, hC, G⟩ := hrel
    obtain ⟨ao, cp, rfl⟩ := own_form T.own
    by_cases hj0 : 0 < j
    · have hj0' : (0 : Int) < (j : Int) := by omega
      obtain ⟨⟨x0, x1⟩, -⟩ := blk2 A
      have hAl := lt_of_block A
      go_wp2_with fail
      refine (CT _ hC (by omega)).mono ?_
      rintro e w2 ⟨s, cs, ca, cc, rfl, hok, ho, hc2, hg2⟩
      have G2 := gtrans G hg2
      have A2 := far_blk hg2 A (fun j hj => by simp at hj; omega)
      have T2 := T.cur (by omega) hg2
      have hws := hg2.size
      have hvlt := own_blk_lt T.own
      have hap : ∀ k, (Value.slice ca cs.length cc).ownBlock = some k → (Value.slice ao ts.length cp).ownBlock ≠ some k := fun k hk e => by
        have h1 := own_from ho (Nat.le_refl _) k hk
        have h2 := hvlt k e
        omega
      have hTo : TripOwn w2 (w.heap.size + 1) (.string s) (.slice ca cs.length cc) ⟨s, cs⟩ := ⟨rfl, ca, cc, rfl, own_base ho (by omega)⟩
      clear hC G A T hg2 x0 x1 hvlt ho
      have hx := balloc w2 (.cells #[.string s, .slice ca cs.length cc] 36)
      have B3 := one_block w2 (.cells #[.string s, .slice ca cs.length cc] 36)
      have T3 := T2.below hx
      have A3 := blk_keep hx A2
      have C3 := hc2.below hx
      have G3 := gtrans G2 (gofr (some cb) hx)
      have hTo3 := hTo.below hx
      have h3s := hx.size
      clear T2 A2 hc2 G2 hTo
      obtain ⟨⟨y0, y1⟩, -⟩ := blk2 B3
      go_wp2_with fail
      generalize w2.alloc (.cells #[.string s, .slice ca cs.length cc] 36) = w3 at *
      refine (cTaken ao cp ts s _ (Trips.of_pairs T3.own T3.read) (by omega)).mono ?_
      rintro e w4 ⟨r, rfl, hr, hw4⟩
      subst w4
      have hwj : IntKind.i64.wrap ((j : Int) - 1) = ((j - 1 : Nat) : Int) := by rw [wrap_in _ (by omega) (by omega)]; omega
      cases r
      · have hnm := hide (hr rfl)
        clear hr
        have hx4 := balloc w3 (.cells #[.string s, .slice ca cs.length cc] 36)
        have hB4 := one_block w3 (.cells #[.string s, .slice ca cs.length cc] 36)
        have o4 := own_keep T3.own hx4
        have hG3s := G3.size
        have h3l := lt_of_block A3
        go_wp2_with (at_builtin; refine wpList_append_own_at _ rfl _ _ 24 rfl (w.heap.size + 1) 36 i0 _ 2 40 Tryz.underlying24 hi hz0 hz1 hz2 rfl (by decide) _ _ _ rfl o4 ⟨w3.heap.size, 0, none⟩ 1 1 [.string s, .slice ca cs.length cc] rfl rfl ?c1 ?c2 ?c3 ?c4 ?c5 ?_)
        case c1 => exact World.news_of_block hB4
        case c2 => simp [Value.oneCell']
        case c3 => unfold maxLen; omega
        case c4 => omega
        case c5 => simp; omega
        intro v5 w5 hown hgrow _ hwhere
        have T5 := T3.push hx4 hown hgrow (by rw [sz1]; exact hwhere) (hTo3.below hx4) hap hok hnm.out
        have hge := own_from T3.own (Nat.le_refl _)
        have A5 := far_blk hgrow (blk_keep hx4 A3) (fun j hj => by have := hge j hj; omega)
        have C5 : Cur w5 cb a cap zs := (C3.below hx4).grow hOn hgrow (fun k hk => by have := hge k hk; omega)
        have G5 : w.grownBy w5 (some cb) := grown_far (gtrans G3 (gofr _ hx4)) hgrow (fun k hk => by have := hge k hk; omega)
        clear hown hgrow hwhere hx4 hB4 o4 hge T3 A3 C3 G3 hnm hTo3 hap hok
        go_wp2
        go_roundw
        case rel => exact ⟨j - 1, vs ++ [(.string s, .slice ca cs.length cc)], ts ++ [⟨s, cs⟩], by simp; omega, by first | rfl | (congr 1; omega), T5, A5, C5, G5⟩
        case measure => simp [intOf]; omega
      · clear hr
        go_wp2
        go_roundw
        case rel => exact ⟨j - 1, vs, ts, by omega, by first | rfl | (congr 1; omega), T3, A3, C3, G3⟩
        case measure => simp [intOf]; omega
    · obtain rfl : j = 0 := by omega
      go_wp2
      go_ret
      exact ⟨ao, cp, vs, ts, rfl, T.mono (by omega), by omega, hC, G⟩
end Go.Proofs.YtajeiiebddnchaaGreatDoor

/- The draw of a right question. -/
namespace Go.Proofs.YtajeiiebddnchaaGreatDoor
open Go.RowKit
theorem trip_small {t : TripV} (h : tripB t = true) : t.name.size ≤ 12 ∧ t.calls.length ≤ 12 := by
  obtain ⟨h1, h2, h3, _, _⟩ := trip_partsJ h
  simp only [nameB, Bool.and_eq_true] at h1
  have := inB_true h1.2
  omega
theorem TabD.small {B : Nat} {wr : World} {v : Value} {vs : List (Value × Value)} {ts : List TripV} (h : TabD B wr v vs ts) (h6 : ts.length ≤ 11) : Small ts := by
  refine ⟨by omega, fun t ht => ?_⟩
  obtain ⟨i, hi, rfl⟩ := List.mem_iff_getElem.1 ht
  have := h.ok i hi
  rw [show ts.getD i TripV.zero = ts[i] by simp [List.getD, hi]] at this
  have := trip_small this
  omega
/-- A drawn question: a right timetable, two nodes, a minute and a change. -/
def DrawnQ (w : World) (e : Ending) (w' : World) : Prop :=
  ∃ (ao : Option Addr) (cp : Nat) (ts : List TripV) (f u m ch : Int), e = .returned (.tuple #[.slice ao ts.length cp, .int .i64 f, .int .i64 u, .int .i64 m, .int .i64 ch]) ∧ Trips w' ao ts ∧ Small ts ∧ Table ts ∧ (0 ≤ f ∧ f < 5) ∧ (0 ≤ u ∧ u < 5) ∧ (0 ≤ m ∧ m < 60) ∧ (0 ≤ ch ∧ ch < 8) ∧ Below w.heap.size w w'

set_option maxRecDepth 100000 in
set_option maxHeartbeats 1600000 in
theorem cDrawQ (a : Option Addr) (cap : Nat) (zs : List Int) (w : World) (hz : Bytes w a zs) (hl : zs.length ≤ 1048576) :
    Calls Tryz.prog 5 #[.slice a zs.length cap] w (DrawnQ w) := by
  go_enter Tryz.func5, Tryz.ntmps5
  go_wp2_with fail
  refine (cnew a cap zs _ hz hl).mono ?_
  rintro e w1 ⟨cb, rfl, hcb, hc, HB⟩
  go_wp2_with fail
  refine (cbelow cb cap a zs 2 _ hc hl (by omega) (by omega)).mono ?_
  rintro e w2 ⟨r, rfl, hr0, hr1, hc2, hg⟩
  replace HB := HB.grown hg HB.size (fun k hk => by simp at hk; omega)
  have hcl := hc2.lt (k := cb) (.inl rfl)
  clear hg hc
  have CT : ∀ w, Cur w cb a cap zs → cb < w.heap.size → Calls Tryz.prog 33 #[.pointer (some ⟨cb, 0, none⟩), .agg #[.int .i64 (4 + r), .slice none 0 0], .int .i64 4] w (DrawnTrip w cb cap a zs) := by
    intro w hc hb
    have : r = 0 ∨ r = 1 := by omega
    rcases this with rfl | rfl
    · exact cDrawTrip4 cb cap a zs w hc hl hb
    · exact cDrawTrip5 cb cap a zs w hc hl hb
  have CTh := hide CT
  clear CT
  go_wp2_with fail
  refine (csize a zs.length cap 8 _ hl (by omega) (by omega)).mono ?_
  rintro e w' ⟨s, rfl, hs0, hs1, hw⟩
  subst w'
  go_wp2_with fail
  refine (cDrawTab cb cap a zs (4 + r) CTh.out (3 + s) (by omega) (by omega) _ hc2 hl hcl).mono ?_
  rintro e w3 ⟨ao, cp, vs, ts, rfl, hT, h11, hc3, hg⟩
  have hw2 := HB.size
  replace HB := HB.grown hg HB.size (fun k hk => by simp at hk; omega)
  replace hT := hide (hT.mono (Nat.le_refl _))
  have hTb : ts.length ≤ 1048576 := by omega
  clear hg hc2 CTh
  go_wp2_with fail
  refine (cbelow cb cap a zs 5 _ hc3 hl (by omega) (by omega)).mono ?_
  rintro e w4 ⟨f, rfl, hf0, hf1, hc4, hg⟩
  replace HB := HB.grown hg HB.size (fun k hk => by simp at hk; omega)
  replace hT := hide (hT.out.cur hcl hg)
  clear hg hc3
  go_wp2_with fail
  refine (cbelow cb cap a zs 5 _ hc4 hl (by omega) (by omega)).mono ?_
  rintro e w5 ⟨u, rfl, hu0, hu1, hc5, hg⟩
  replace HB := HB.grown hg HB.size (fun k hk => by simp at hk; omega)
  replace hT := hide (hT.out.cur hcl hg)
  clear hg hc4
  go_wp2_with fail
  refine (cbelow cb cap a zs 60 _ hc5 hl (by omega) (by omega)).mono ?_
  rintro e w6 ⟨m, rfl, hm0, hm1, hc6, hg⟩
  replace HB := HB.grown hg HB.size (fun k hk => by simp at hk; omega)
  replace hT := hide (hT.out.cur hcl hg)
  clear hg hc5
  go_wp2_with fail
  refine (cbelow cb cap a zs 8 _ hc6 hl (by omega) (by omega)).mono ?_
  rintro e w7 ⟨ch, rfl, hch0, hch1, hc7, hg⟩
  replace HB := HB.grown hg HB.size (fun k hk => by simp at hk; omega)
  replace hT := hide (hT.out.cur hcl hg)
  clear hg hc6 hc7
  go_wp2
  refine bodyPost_ret (v := .tuple #[.slice ao ts.length cp, .int .i64 f, .int .i64 u, .int .i64 m, .int .i64 ch]) (by simp [results, Tryz.results5, go_sem]) rfl ?_
  have T := hT.out
  exact ⟨ao, cp, ts, f, u, m, ch, rfl, Trips.of_pairs T.own T.read, T.small h11, ⟨by omega, T.ok, T.names⟩, ⟨hf0, hf1⟩, ⟨hu0, hu1⟩, ⟨hm0, hm1⟩, ⟨hch0, hch1⟩, HB⟩
end Go.Proofs.YtajeiiebddnchaaGreatDoor

