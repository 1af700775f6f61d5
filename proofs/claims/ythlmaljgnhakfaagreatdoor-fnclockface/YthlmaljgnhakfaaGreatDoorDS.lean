/- The draw of a right trip over six nodes. -/
import Derived.Test.YthlmaljgnhakfaaGreatDoorDR
import Derived.Test.YthlmaljgnhakfaaGreatDoorK
import Derived.Deep.RegionHeld3
namespace Go.Proofs.YthlmaljgnhakfaaGreatDoor
open Go.RowKit
/-- A drawn trip: right, its calls a row of its own. -/
def DrawnTrip (w : World) (cb cap : Nat) (a : Option Addr) (zs : List Int) (e : Ending) (w' : World) : Prop :=
  ∃ s cs ao cp, e = .returned (.agg #[.string s, .slice ao (List.length cs) cp]) ∧ tripB ⟨s, cs⟩ = true ∧ ((∀ p ∈ cs, p.d ≤ 400) ∧ s.size ≤ 4) ∧ w'.ownsRow w.heap.size 33 3 (.slice ao cs.length cp) cs.length (flatHalts cs) ∧ Cur w' cb a cap zs ∧ w.grownBy w' (some cb)

set_option maxRecDepth 100000 in
set_option maxHeartbeats 3200000 in
theorem cDrawTrip (cb cap : Nat) (a : Option Addr) (zs : List Int) (w : World) (hc : Cur w cb a cap zs) (hl : zs.length ≤ 1048576) (hcb : cb < w.heap.size) :
    Calls Tryz.prog 13 #[.pointer (some ⟨cb, 0, none⟩), .agg #[.int .i64 6, .slice none 0 0], .int .i64 5] w (DrawnTrip w cb cap a zs) := by
  have hOn : ∀ k, OnCur cb a zs k → k < w.heap.size := fun k hk => hc.lt hk
  have hb0 := btrans (balloc w (.cells #[.int .i64 6, .slice none 0 0] 43)) (balloc _ (.cells #[.string ⟨#[]⟩, .slice none 0 0] 26))
  have A0 := blk_keep (balloc _ (.cells #[.string ⟨#[]⟩, .slice none 0 0] 26)) (one_block w (.cells #[.int .i64 6, .slice none 0 0] 43))
  have K0 := one_block (w.alloc (.cells #[.int .i64 6, .slice none 0 0] 43)) (.cells #[.string ⟨#[]⟩, .slice none 0 0] 26)
  simp only [sz1] at K0
  go_enter Tryz.func13, Tryz.ntmps13
  go_wp2_with fail
  generalize ((w.alloc (.cells #[.int .i64 6, .slice none 0 0] 43)).alloc (.cells #[.string ⟨#[]⟩, .slice none 0 0] 26)) = V at *
  have hV := hb0.size
  have hV2 := lt_of_block K0
  refine (cDrawName cb cap a zs V (hc.below hb0) hl (by omega)).mono ?_
  rintro e w1 ⟨s, rfl, ⟨hnm, hsz4⟩, hc1, hg1⟩
  replace hsz4 := hide hsz4
  have G1 := gtrans (gofr (some cb) hb0) hg1
  replace A0 := far_blk hg1 A0 (fun j hj => by simp at hj; omega)
  replace K0 := far_blk hg1 K0 (fun j hj => by simp at hj; omega)
  have hW1 := hg1.size
  clear hb0 hg1 hc
  -- the struct's block
  have L0 : OutC w1 (w1.alloc (.cells #[.string s, .slice none 0 0] 26)) cb s none 0 [] := ⟨grown_alloc _ _ _, one_block _ _, World.ownsRow_nil _ _ _ _⟩
  have hcbw : cb < w1.heap.size := by omega
  have hb1 := balloc w1 (.cells #[.string s, .slice none 0 0] 26)
  have A1 := blk_keep hb1 A0
  have hc2 := hc1.below hb1
  obtain ⟨⟨x0, x1⟩, -⟩ := blk2 A1
  go_wp2_with fail
  clear x0 x1
  generalize w1.alloc (.cells #[.string s, .slice none 0 0] 26) = w2 at *
  refine (cbelow cb cap a zs 6 _ hc2 hl (by omega) (by omega)).mono ?_
  rintro e w3 ⟨nd, rfl, n0, n1, hc3, hg3⟩
  replace L0 := L0.cur hcbw hg3
  clear hg3 hc2 hb1 A1
  go_wp2_with fail
  refine (cbelow cb cap a zs 120 _ hc3 hl (by omega) (by omega)).mono ?_
  rintro e w4 ⟨m, rfl, m0, m1, hc4, hg4⟩
  replace L0 := L0.cur hcbw hg4
  clear hg4 hc3
  go_wp2_with fail
  refine (cbelow cb cap a zs 4 _ hc4 hl (by omega) (by omega)).mono ?_
  rintro e w5 ⟨q, rfl, q0, q1, hc5, hg5⟩
  replace L0 := L0.cur hcbw hg5
  clear hg5 hc4
  have hwq : IntKind.i64.wrap (2 + q) = 2 + q := wrap_in _ (by omega) (by omega)
  obtain ⟨N, hN⟩ : ∃ N : Nat, 2 + q = (N : Int) := ⟨(2 + q).toNat, by omega⟩
  have hN1 : 2 ≤ N := by omega
  have hN2 : N ≤ 5 := by omega
  rw [hN] at hwq
  have hn5 : nd ≤ 5 := by omega
  have hG0 : Good [] nd m := ⟨rfl, rfl, fun p hp => by simp at hp, n0, hn5, m0, by simp; omega, fun p hp => by simp at hp⟩
  obtain ⟨i0, hi, hz0, hz1, hz2⟩ := info_parts infoHalts
  replace hN := hide hN
  go_wp2
  go_loopw [8, 9, 10] (fun vn vm vi wr => ∃ (j : Nat) (xs : List HaltV) (nd m : Int) (ao : Option Addr) (cp : Nat), j + xs.length = N ∧ vn = .int .i64 nd ∧ vm = .int .i64 m ∧ vi = .int .i64 j ∧ Good xs nd m ∧ OutC w1 wr cb s ao cp xs ∧ Cur wr cb a cap zs) (fun _ _ i _ => (intOf i).toNat)
  case atStart => exact ⟨N, [], nd, m, none, 0, by simp, rfl, rfl, by rw [hN.out], hG0, L0, hc5⟩
  case round =>
    clear hG0 L0 hc5 n0 n1 m0 m1 q0 q1 hn5 hwq hN
    obtain ⟨j, xs, nd, m, ao, cp, hj, rfl, rfl, rfl, hG, L, hC⟩ := hrel
    have A1 := far_blk L.gr A0 (fun j hj => by simp at hj; omega)
    have hJ := hide hj
    have hxl : xs.length ≤ 5 := by omega
    have hjl : j ≤ 5 := by omega
    clear hj
    by_cases hj0 : 0 < j
    · have hj0' : (0 : Int) < (j : Int) := by omega
      have hm0 := hG.m0
      have hm1 := hG.m1
      have hn0 := hG.n0
      have hn1 := hG.n1
      have hm2 : m ≤ 300 := by omega
      clear hm1
      go_wp2_with fail
      refine (cbelow cb cap a zs 4 _ hC hl (by omega) (by omega)).mono ?_
      rintro e w6 ⟨q, rfl, q0, q1, hc6, hg6⟩
      replace L := L.cur hcbw hg6
      replace A1 := far_blk hg6 A1 (fun j hj => by simp at hj; omega)
      have hw1 : IntKind.i64.wrap (m + q) = m + q := wrap_in _ (by omega) (by omega)
      clear hC hg6
      have hx2 := balloc w6 (.cells #[.int .i64 nd, .int .i64 m, .int .i64 (m + q)] 33)
      have hB := one_block w6 (.cells #[.int .i64 nd, .int .i64 m, .int .i64 (m + q)] 33)
      have ho2 := own_keep L.own hx2
      have hLt := L.lt
      obtain ⟨⟨o0, o1⟩, f0, f1⟩ := blk2 L.out
      go_wp2_with (at_builtin; refine wpList_append_own _ rfl _ _ 24 rfl (w1.heap.size + 1) 33 i0 _ 3 24 Tryz.underlying24 hi hz0 hz1 hz2 rfl (by decide) _ _ _ rfl ho2 ⟨w6.heap.size, 0, none⟩ 1 1 (HaltV.vs ⟨nd, m, m + q⟩) rfl rfl ?c1 ?c2 ?c3 ?c4 ?c5 ?_)
      case c1 => exact World.news_of_block hB
      case c2 => simp [HaltV.vs, Value.oneCell']
      case c3 => unfold maxLen; omega
      case c4 => omega
      case c5 => simp; omega
      intro v2 w7 hown hgrow _
      rcases hown.2 with ⟨_, h0⟩ | ⟨g, cap2, cur, rfl, _⟩
      · simp at h0
      have L2 := L.push hx2 hown hgrow
      have hge := own_from L.own (Nat.le_refl _)
      have hout : w7.heap[w1.heap.size]? = some (.cells #[.string s, .slice ao xs.length cp] 26) := far_blk hgrow (blk_keep hx2 L.out) (fun j hj => by have := hge j hj; omega)
      have A2 : w7.heap[w.heap.size]? = some (.cells #[.int .i64 6, .slice none 0 0] 43) := far_blk hgrow (blk_keep hx2 A1) (fun j hj => by have := hge j hj; omega)
      have hc7 : Cur w7 cb a cap zs := (hc6.below hx2).grow hOn hgrow (fun k hk => by have := hge k hk; omega)
      obtain ⟨⟨u0, u1⟩, t0, t1⟩ := blk2 hout
      clear hown hgrow hB ho2 hx2 o0 o1 f0 f1 hge hout L A1 hc6
      have A3 := (Below.heap_setCell w7 ⟨w1.heap.size, 1, none⟩ (.slice (some ⟨g, 0, none⟩) (xs.length + 1) cap2) w.heap.size (by dsimp only; omega)).trans A2
      have hc8 : Cur (w7.setCell ⟨w1.heap.size, 1, none⟩ (.slice (some ⟨g, 0, none⟩) (xs.length + 1) cap2)) cb a cap zs := hc7.grow hOn (grown_set _ _ _ _) (fun k hk => by simp at hk; omega)
      clear A2 hc7
      go_wp2_with fail
      generalize (w7.setCell ⟨w1.heap.size, 1, none⟩ (.slice (some ⟨g, 0, none⟩) (xs.length + 1) cap2)) = w8 at *
      refine (cbelow cb cap a zs 14 _ hc8 hl (by omega) (by omega)).mono ?_
      rintro e w9 ⟨r, rfl, r0, r1, hc9, hg9⟩
      replace L2 := L2.cur hcbw hg9
      replace A3 := far_blk hg9 A3 (fun j hj => by simp at hj; omega)
      have hw2 : IntKind.i64.wrap (m + q + 2) = m + q + 2 := wrap_in _ (by omega) (by omega)
      have hw3 : IntKind.i64.wrap (m + q + 2 + r) = m + q + 2 + r := wrap_in _ (by omega) (by omega)
      have hw4 : IntKind.i64.wrap (nd + 1) = nd + 1 := wrap_in _ (by omega) (by omega)
      clear hg9 hc8 u0 u1 t0 t1
      obtain ⟨⟨x0, x1⟩, -⟩ := blk2 A3
      go_wp2_with fail
      go_region_held3 (fun w' => w'.cell? ⟨w.heap.size, 0, none⟩ = some (.int .i64 6) ∧ w'.cell? ⟨w.heap.size, 1, none⟩ = some (.slice none 0 0)) (go_keep) (first
        | (go_at_call 26; refine (cbelow cb cap a zs 5 _ (hc9.below (bdraw (Below.refl _ _) 1)) hl (by omega) (by omega)).mono ?_; rintro e wp ⟨r2, rfl, r20, r21, hcp, hgp⟩; have hgp2 := gtrans (gofr (some cb) (bdraw (Below.refl _ _) 1)) hgp; have A4 := far_blk hgp2 A3 (fun j hj => by simp at hj; omega); obtain ⟨⟨v0, v1⟩, -⟩ := blk2 A4; have hw5 : IntKind.i64.wrap (nd + 1 + r2) = nd + 1 + r2 := wrap_in _ (by omega) (by omega); have hw6 : (nd + 1 + r2).tmod 6 = (nd + 1 + r2) % 6 := Int.tmod_eq_emod_of_nonneg (by omega)))
      have L3 := L2.cur hcbw hgp2
      obtain ⟨e1, e2, e3⟩ := next_ne nd r2 r20 r21
      have hG2 := hG.next (by omega) q0 q1 r0 r1 e1 e2 e3
      clear e1 e2 e3 L2 hgp hgp2 x0 x1 A3 hc9 hw5 hw6 hw4 hw3 hw2 hw1
      generalize (nd + 1 + r2) % 6 = nx at *
      go_wp2_with fail
      refine (cDrawWay cb nd _).mono ?_
      rintro e w10 ⟨⟨v, c, rfl⟩, hb10⟩
      have L4 := L3.keep hb10
      have hc10 := hcp.below hb10
      have hwj : IntKind.i64.wrap ((j : Int) - 1) = ((j - 1 : Nat) : Int) := by rw [wrap_in _ (by omega) (by omega)]; omega
      clear L3 hb10 hcp v0 v1 A4
      go_wp2
      go_roundw
      case rel => exact ⟨j - 1, xs ++ [⟨nd, m, m + q⟩], nx, m + q + 2 + r, some ⟨g, 0, none⟩, cap2, by have := hJ.out; simp; omega, rfl, rfl, by first | rfl | (congr 1; omega), hG2, L4, hc10⟩
      case measure => simp [intOf]; omega
    · obtain rfl : j = 0 := by omega
      have hlen := hJ.out
      have hT : tripB ⟨s, xs⟩ = true := by
        simp only [tripB, hnm, hG.all, hG.chain, Bool.and_true, Bool.true_and]
        exact inB_yes (by omega) (by omega)
      replace hT := hide hT
      have K1 := far_blk L.gr K0 (fun j hj => by simp at hj; omega)
      obtain ⟨⟨y0, y1⟩, f0, f1⟩ := blk2 K1
      obtain ⟨⟨o0, o1⟩, -⟩ := blk2 L.out
      have G2 := gtrans G1 L.gr
      have hfr := own_from L.own (Nat.le_refl _)
      have hne3 : w.heap.size + 1 ≠ w1.heap.size := by omega
      have hwl : w.heap.size + 1 < w1.heap.size := by omega
      have ho := L.own
      clear hlen hJ A1 A0
      go_wp2
      refine bodyPost_ret (v := .agg #[.string s, .slice ao xs.length cp]) (by simp [results, Tryz.results13, go_sem, y0, y1]) rfl ?_
      refine ⟨s, xs, ao, cp, rfl, hT.out, ⟨hG.up, hsz4.out⟩, own_base (own_set (own_set ho (fun k hk => by have := hfr k hk; omega)) (fun k hk => by have := hfr k hk; omega)) (by omega), ?_, ?_⟩
      · exact (hC.grow hOn (grown_set _ _ _ _) (fun k hk => by simp at hk; omega)).grow hOn (grown_set _ _ _ _) (fun k hk => by simp at hk; omega)
      · exact grown_far (grown_far G2 (grown_set _ _ _ _) (fun k hk => by simp at hk; omega)) (grown_set _ _ _ _) (fun k hk => by simp at hk; omega)
end Go.Proofs.YthlmaljgnhakfaaGreatDoor
