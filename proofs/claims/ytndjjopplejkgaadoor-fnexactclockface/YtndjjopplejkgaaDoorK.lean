/- A trip moved: of the model. -/
import Derived.Test.YtndjjopplejkgaaDoorJ
namespace Go.Proofs.YtndjjopplejkgaaDoor
open Go.RowKit
theorem OutT.farG {W0 wr wx w2 : World} {s : ByteArray} {ao : Option Addr} {cp : Nat} {xs : List HaltV} (_h : OutT W0 wr s ao cp xs) (hx : Below wr.heap.size wr wx) (hgrow : wx.grownBy w2 (Value.slice ao xs.length cp).ownBlock)
    {b : Nat} (hb : b < wr.heap.size) (hne : ∀ k, (Value.slice ao xs.length cp).ownBlock = some k → k ≠ b) : w2.heap[b]? = wr.heap[b]? :=
  (hgrow.block _ (by have := hx.size; omega) (fun e => hne b e.symm rfl)).trans (hx.block _ hb)
theorem OutT.outG {W0 wr wx w2 : World} {s : ByteArray} {ao : Option Addr} {cp : Nat} {xs : List HaltV} (h : OutT W0 wr s ao cp xs) (hx : Below wr.heap.size wr wx) (hgrow : wx.grownBy w2 (Value.slice ao xs.length cp).ownBlock) :
    w2.heap[W0.heap.size]? = some (.cells #[.string s, .slice ao xs.length cp] 26) :=
  (h.farG hx hgrow h.lt (fun k hk e => by have := own_from h.own (Nat.le_refl _) k hk; omega)).trans h.out
theorem OutT.pushG {W0 wr wx w2 : World} {s : ByteArray} {ao : Option Addr} {cp : Nat} {xs : List HaltV} (h : OutT W0 wr s ao cp xs) {g cap : Nat} {x : HaltV} (hx : Below wr.heap.size wr wx)
    (hown : w2.ownsRow (W0.heap.size + 1) 36 3 (.slice (some ⟨g, 0, none⟩) (xs.length + 1) cap) (xs.length + 1) (flatHalts xs ++ x.vs)) (hgrow : wx.grownBy w2 (Value.slice ao xs.length cp).ownBlock) :
    OutT W0 (w2.setCell ⟨W0.heap.size, 1, none⟩ (.slice (some ⟨g, 0, none⟩) (xs.length + 1) cap)) s (some ⟨g, 0, none⟩) cap (xs ++ [x]) := by
  have hge := own_from h.own (Nat.le_refl _)
  have hbw := btrans h.bel hx
  have hbel : Below W0.heap.size W0 w2 := hbw.grown hgrow hbw.size (fun k e => by have := hge k e; omega)
  have hlen : (xs ++ [x]).length = xs.length + 1 := by simp
  refine ⟨hbel.setCell (by simp) _, ?_, ?_⟩
  · have := blk_set (i := 1) (v := .slice (some ⟨g, 0, none⟩) (xs.length + 1) cap) (h.outG hx hgrow)
    rw [hlen]; simpa using this
  · rw [hlen, flatHalts_app]
    have e : flatHalts [x] = x.vs := by simp [flatHalts]
    rw [e]; exact own_set hown (fun k hk => by have := own_from hown (Nat.le_refl _) k hk; omega)

set_option maxRecDepth 100000 in
set_option maxHeartbeats 3200000 in
theorem cMovedS (s : ByteArray) (a : Option Addr) (cap : Nat) (cs : List HaltV) (x : Int) (w : World) (hz : Halts w a cs) (hl : cs.length ≤ 1048576) (hs : s.size ≤ 1048576) :
    Calls Tryd.prog 43 #[.agg #[.string s, .slice a cs.length cap], .int .i64 x] w (AnsTrip w (movedT ⟨s, cs⟩ x)) := by
  have E : Hid (movedT ⟨s, cs⟩ x = (if tripB ⟨s, cs⟩ = true ∧ inB x (-100000) 100000 = true then ifOk ⟨s, movedL x cs⟩ else TripV.zero)) := rfl
  generalize movedT ⟨s, cs⟩ x = res at *
  have A0 := blk_keep (balloc _ (.cells #[.string ⟨#[]⟩, .slice none 0 0] 26)) (one_block w (.cells #[.string s, .slice a cs.length cap] 26))
  have K0 := one_block (w.alloc (.cells #[.string s, .slice a cs.length cap] 26)) (.cells #[.string ⟨#[]⟩, .slice none 0 0] 26)
  have HB := btrans (balloc w (.cells #[.string s, .slice a cs.length cap] 26)) (balloc _ (.cells #[.string ⟨#[]⟩, .slice none 0 0] 26))
  simp only [sz1] at K0
  go_enter Tryd.func43, Tryd.ntmps43
  go_wp2_with fail
  refine (cTripS s a cap cs _ (hz.below HB) hl hs).mono ?_
  rintro e w1 ⟨rfl, hb⟩
  replace HB := btrans HB hb
  replace A0 := blk_keep hb A0
  replace K0 := blk_keep hb K0
  clear hb
  cases hT : tripB ⟨s, cs⟩
  · have hq := hide (show res = TripV.zero by rw [E.out, hT, if_neg (by simp)])
    clear E hT
    obtain ⟨⟨y0, y1⟩, f0, f1⟩ := blk2 K0
    go_wp2
    refine bodyPost_ret (v := .agg #[.string ⟨#[]⟩, .slice none 0 0]) (by simp [results, Tryd.results43, go_sem, y0, y1]) rfl ?_
    rw [hq.out]
    exact ⟨none, 0, rfl, World.ownsRow_nil _ _ _ _, below_set (by omega) (below_set (by omega) HB)⟩
  go_wp2_with fail
  refine (cIn x (-100000) 100000 _).mono ?_
  rintro e w2 ⟨rfl, hw⟩
  subst w2
  cases hX : inB x (-100000) 100000
  · have hq := hide (show res = TripV.zero by rw [E.out, hX, if_neg (by simp)])
    clear E hT hX
    obtain ⟨⟨y0, y1⟩, f0, f1⟩ := blk2 K0
    go_wp2
    refine bodyPost_ret (v := .agg #[.string ⟨#[]⟩, .slice none 0 0]) (by simp [results, Tryd.results43, go_sem, y0, y1]) rfl ?_
    rw [hq.out]
    exact ⟨none, 0, rfl, World.ownsRow_nil _ _ _ _, below_set (by omega) (below_set (by omega) HB)⟩
  have hq := hide (show res = ifOk ⟨s, movedL x cs⟩ by rw [E.out, hT, hX, if_pos ⟨rfl, rfl⟩])
  obtain ⟨-, l1, l2, hall, -⟩ := trip_parts hT
  dsimp only at l1 l2 hall
  obtain ⟨x1, x2⟩ := inB_true hX
  clear E hT hX
  obtain ⟨⟨z0, z1⟩, -⟩ := blk2 A0
  obtain ⟨i0, hi, hz0, hz1, hz2⟩ := info_parts infoHalts
  have L0 : OutT w1 (w1.alloc (.cells #[.string s, .slice none 0 0] 26)) s none 0 (movedL x (cs.take 0)) := ⟨balloc _ _, one_block _ _, World.ownsRow_nil _ _ _ _⟩
  have hws := lt_of_block A0
  go_wp2
  go_loopw [6] (fun i wr => ∃ k : Nat, ∃ ao cp, k ≤ cs.length ∧ i = .int .i64 k ∧ OutT w1 wr s ao cp (movedL x (cs.take k))) (fun i _ => cs.length - (intOf i).toNat)
  case atStart => exact ⟨0, none, 0, by omega, rfl, L0⟩
  case round =>
    obtain ⟨k, ao, cp, hk, rfl, L⟩ := hrel
    clear L0
    by_cases hlt : k < cs.length
    · have S := hide (movedL_step x hlt)
      rcases hz with h | ⟨b, off, rfl, hc⟩
      · simp [h] at hlt
      obtain ⟨q0, q1, q2⟩ := hc k hlt
      have fin := btrans HB L.bel
      replace q0 := ble fin q0
      replace q1 := ble fin q1
      replace q2 := ble fin q2
      obtain ⟨-, ⟨b1, b2⟩, b3⟩ := call_parts (call_at hall hlt)
      generalize cs.getD k HaltV.zero = y at *
      obtain ⟨n, a, d⟩ := y
      dsimp only at *
      have hw1 : IntKind.i64.wrap (a + x) = a + x := wrap_in _ (by omega) (by omega)
      have hw2 : IntKind.i64.wrap (d + x) = d + x := wrap_in _ (by omega) (by omega)
      have hl2 : (movedL x (cs.take k)).length ≤ 12 := by rw [movedL_len]; simp; omega
      generalize hM : movedL x (cs.take k) = ms at *
      replace hM := hide hM
      have hob := own_blk_lt L.own
      have hLt := L.lt
      have hC := one_block wr (.cells #[.int .i64 n, .int .i64 a, .int .i64 d] 36)
      have L1 := L.keep (balloc wr (.cells #[.int .i64 n, .int .i64 a, .int .i64 d] 36))
      have hcl : wr.heap.size < (wr.alloc (.cells #[.int .i64 n, .int .i64 a, .int .i64 d] 36)).heap.size := by simp
      clear hc
      have hxl : w1.heap.size < wr.heap.size := hLt
      have A1 := blk_keep L.bel A0
      obtain ⟨⟨z0', z1'⟩, -⟩ := blk2 A1
      obtain ⟨⟨o0, o1⟩, f0, f1⟩ := blk2 L1.out
      have hwl : w.heap.size < wr.heap.size := lt_of_block A1
      have hbl : b < wr.heap.size := cell_lt q0
      have ho2 := own_keep L1.own (balloc _ (.cells #[.int .i64 n, .int .i64 (a + x), .int .i64 (d + x)] 36))
      have hx2 := balloc (wr.alloc (.cells #[.int .i64 n, .int .i64 a, .int .i64 d] 36)) (.cells #[.int .i64 n, .int .i64 (a + x), .int .i64 (d + x)] 36)
      have hN : ((wr.alloc (.cells #[.int .i64 n, .int .i64 a, .int .i64 d] 36)).alloc (.cells #[.int .i64 n, .int .i64 (a + x), .int .i64 (d + x)] 36)).heap[wr.heap.size + 1]? = some (.cells #[.int .i64 n, .int .i64 (a + x), .int .i64 (d + x)] 36) := by have := one_block (wr.alloc (.cells #[.int .i64 n, .int .i64 a, .int .i64 d] 36)) (.cells #[.int .i64 n, .int .i64 (a + x), .int .i64 (d + x)] 36); rw [sz1] at this; exact this
      clear z0 z1
      go_wp2_with (at_builtin; refine wpList_append_own _ rfl _ _ 24 rfl (w1.heap.size + 1) 36 i0 _ 3 24 Tryd.underlying24 hi hz0 hz1 hz2 rfl (by decide) _ _ _ rfl ho2 ⟨wr.heap.size + 1, 0, none⟩ 1 1 (HaltV.vs ⟨n, a + x, d + x⟩) rfl rfl ?c1 ?c2 ?c3 ?c4 ?c5 ?_)
      case c1 => exact World.news_of_block hN
      case c2 => simp [HaltV.vs, Value.oneCell']
      case c3 => unfold maxLen; omega
      case c4 => omega
      case c5 => simp; omega
      intro v2 w2 hown hgrow _
      rcases hown.2 with ⟨_, h0⟩ | ⟨g, cap2, cur, rfl, _⟩
      · simp at h0
      have L2 := L1.pushG hx2 hown hgrow
      obtain ⟨⟨u0, u1⟩, t0, t1⟩ := blk2 (L1.outG hx2 hgrow)
      rw [← S.out] at L2
      clear hown hgrow hN ho2 hx2 o0 o1 f0 f1 q0 q1 q2 z0' z1' L L1 hC hob
      go_wp2
      go_roundw
      case rel => exact ⟨k + 1, some ⟨g, 0, none⟩, cap2, by omega, by go_num, by simpa using L2⟩
      case measure => simp [intOf]; omega
    · obtain rfl : k = cs.length := by omega
      rw [List.take_length] at L
      have hlm : (movedL x cs).length ≤ 1048576 := by rw [movedL_len]; exact hl
      have fin := btrans HB L.bel
      have K1 := blk_keep L.bel K0
      have hws2 := lt_of_block K0
      have hq2 : Hid (ifOk ⟨s, movedL x cs⟩ = if tripB ⟨s, movedL x cs⟩ = true then ⟨s, movedL x cs⟩ else TripV.zero) := rfl
      generalize movedL x cs = ms at *
      clear hz hall K0
      have A1 := blk_keep L.bel A0
      obtain ⟨⟨z0', z1'⟩, -⟩ := blk2 A1
      obtain ⟨⟨o0, o1⟩, -⟩ := blk2 L.out
      clear z0 z1
      go_wp2_with fail
      refine (cTripS s ao cp ms _ (Halts.own L.own) hlm hs).mono ?_
      rintro e w3 ⟨rfl, hb⟩
      have fin2 := btrans fin hb
      have K2 := blk_keep hb K1
      have ho := own_keep L.own hb
      have O2 := blk_keep hb L.out
      clear hb fin K1 L A0 A1 z0' z1' o0 o1
      obtain ⟨⟨y0, y1⟩, f0, f1⟩ := blk2 K2
      obtain ⟨⟨o0, o1⟩, -⟩ := blk2 O2
      cases hT : tripB ⟨s, ms⟩
      · have hq3 := hide (show res = TripV.zero by rw [hq.out, hq2.out, hT, if_neg (by simp)])
        clear hq hq2 hT ho
        go_wp2
        refine bodyPost_ret (v := .agg #[.string ⟨#[]⟩, .slice none 0 0]) (by simp [results, Tryd.results43, go_sem, y0, y1]) rfl ?_
        rw [hq3.out]
        exact ⟨none, 0, rfl, World.ownsRow_nil _ _ _ _, below_set (by omega) (below_set (by omega) fin2)⟩
      · have hq3 := hide (show res = ⟨s, ms⟩ by rw [hq.out, hq2.out, hT, if_pos rfl])
        clear hq hq2 hT
        have hfr := own_from ho (Nat.le_refl _)
        have hne3 : w.heap.size + 1 ≠ w1.heap.size := by omega
        go_wp2
        refine bodyPost_ret (v := .agg #[.string s, .slice ao ms.length cp]) (by simp [results, Tryd.results43, go_sem, y0, y1]) rfl ?_
        rw [hq3.out]
        exact ⟨ao, cp, rfl, own_base (own_set (own_set ho (fun k hk => by have := hfr k hk; omega)) (fun k hk => by have := hfr k hk; omega)) (by omega), below_set (by omega) (below_set (by omega) fin2)⟩
theorem moved_small (s : ByteArray) (cs : List HaltV) (x : Int) (hl : cs.length ≤ 1048576) : (movedT ⟨s, cs⟩ x).calls.length ≤ 1048576 := by
  unfold movedT ifOk
  split
  · split
    · rw [movedL_len]; exact hl
    · exact Nat.zero_le _
  · exact Nat.zero_le _
end Go.Proofs.YtndjjopplejkgaaDoor
