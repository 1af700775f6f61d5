/- The model: a booking put in or taken out. -/
import Derived.Test.YtgnlcehpajbnoaaMW
import Derived.Deep.RegionHeld3
import Derived.Deep.AppendLies
namespace Go.Proofs.Ytgnlcehpajbnoaa
open Go.RowKit Go.Lib
theorem blocks4 (w : World) (o1 o2 o3 o4 : Obj) : ((((w.alloc o1).alloc o2).alloc o3).alloc o4).heap[w.heap.size]? = some o1 ∧ ((((w.alloc o1).alloc o2).alloc o3).alloc o4).heap[w.heap.size + 1]? = some o2 ∧ ((((w.alloc o1).alloc o2).alloc o3).alloc o4).heap[w.heap.size + 1 + 1]? = some o3 ∧ ((((w.alloc o1).alloc o2).alloc o3).alloc o4).heap[w.heap.size + 1 + 1 + 1]? = some o4 ∧ ((((w.alloc o1).alloc o2).alloc o3).alloc o4).heap.size = w.heap.size + 1 + 1 + 1 + 1 := by
  obtain ⟨h1, h2, h3⟩ := blocks3 w o1 o2 o3
  refine ⟨blk_keep (balloc _ _) h1, blk_keep (balloc _ _) h2, blk_keep (balloc _ _) h3, ?_, by simp⟩
  have h := heap_alloc_new (((w.alloc o1).alloc o2).alloc o3) o4
  rwa [blocks3b] at h
theorem unbV_snoc_no {l : List BkV} {x : BkV} {id : Int} (h : x.i = id) : unbV (l ++ [x]) id = unbV l id := by simp [unbV, h]
theorem unbV_snoc_yes {l : List BkV} {x : BkV} {id : Int} (h : x.i ≠ id) : unbV l id ++ [x] = unbV (l ++ [x]) id := by simp [unbV, h]

set_option maxRecDepth 20000 in
set_option maxHeartbeats 6400000 in
theorem cHeldOut (S P : Int) (a : Option Addr) (c : Nat) (hs : List BkV) (id : Int) (w : World) (hz : Bks w a hs) (hl : hs.length ≤ 1048576) :
    Calls Try.prog 66 #[.agg #[.int .i64 S, .int .i64 P, .slice a hs.length c], .int .i64 id, .agg #[.int .i64 0, .int .i64 0, .int .i64 0, .int .i64 0]] w (AnsR w S P (unbV hs id)) := by
  obtain ⟨i0, hi, hz0, hz1, hz2⟩ := info_parts infoBks
  obtain ⟨k0, k1, k2, k3, hs4⟩ := blocks4 w (Obj.cells #[.int .i64 S, .int .i64 P, .slice a hs.length c] 26) (Obj.cells #[.int .i64 0, .int .i64 0, .int .i64 0, .int .i64 0] 78) (Obj.cells #[.int .i64 0, .int .i64 0, .slice none 0 0] 26) (Obj.cells #[.int .i64 S, .int .i64 P, .slice none 0 0] 26)
  have hb4 := btrans (btrans (btrans (balloc w (Obj.cells #[.int .i64 S, .int .i64 P, .slice a hs.length c] 26)) (balloc _ (Obj.cells #[.int .i64 0, .int .i64 0, .int .i64 0, .int .i64 0] 78))) (balloc _ (Obj.cells #[.int .i64 0, .int .i64 0, .slice none 0 0] 26))) (balloc _ (Obj.cells #[.int .i64 S, .int .i64 P, .slice none 0 0] 26))
  go_enter Try.func66, Try.ntmps66
  go_wp2
  generalize (((w.alloc (Obj.cells #[.int .i64 S, .int .i64 P, .slice a hs.length c] 26)).alloc (Obj.cells #[.int .i64 0, .int .i64 0, .int .i64 0, .int .i64 0] 78)).alloc (Obj.cells #[.int .i64 0, .int .i64 0, .slice none 0 0] 26)).alloc (Obj.cells #[.int .i64 S, .int .i64 P, .slice none 0 0] 26) = W at *
  have L0 : OutR (w.heap.size + 1 + 1 + 1) (w.heap.size + 1 + 1 + 1) S P W (.slice none 0 0) [] := ⟨k3, World.ownsRow_nil _ _ _ _⟩
  go_loopw [8, 9] (fun pt i wr => ∃ k : Nat, ∃ v, pt = .bool true ∧ i = .int .i64 k ∧ k ≤ hs.length ∧ OutR (w.heap.size + 1 + 1 + 1) (w.heap.size + 1 + 1 + 1) S P wr v (unbV (hs.take k) id) ∧ Below (w.heap.size + 1 + 1 + 1) W wr) (fun _ i _ => hs.length - (intOf i).toNat)
  case atStart => exact ⟨0, _, rfl, rfl, Nat.zero_le _, by simpa [unbV] using L0, Below.refl _ _⟩
  case round =>
    obtain ⟨k, v, rfl, rfl, hk, L, hb⟩ := hrel
    clear L0
    have hbw : Below w.heap.size w wr := hb4.trans (hb.mono (by omega))
    have kt := (hb.block w.heap.size (by omega)).trans k0
    have ka := (hb.block (w.heap.size + 1) (by omega)).trans k1
    have kr := (hb.block (w.heap.size + 1 + 1) (by omega)).trans k2
    obtain ⟨⟨t0, t1, t2⟩, -⟩ := blk3 kt
    clear t0 t1
    by_cases hlt : k < hs.length
    · have htk : Hid (hs.take (k + 1) = hs.take k ++ [hs.getD k BkV.zero]) := hide (by rw [List.take_succ_eq_append_getElem hlt]; simp [List.getD, hlt])
      rcases hz with h | ⟨hb0, ho, rfl, hc⟩
      · simp [h] at hlt
      obtain ⟨q0, q1, q2, q3⟩ := hc k hlt
      replace q0 := ble hbw q0
      replace q1 := ble hbw q1
      replace q2 := ble hbw q2
      replace q3 := ble hbw q3
      have hhb : hb0 < wr.heap.size := cell_lt q0
      have hmsl : (unbV (hs.take k) id).length ≤ 1048577 := by have := unbV_len (hs.take k) id; rw [List.length_take] at this; omega
      have hts : w.heap.size < wr.heap.size := cell_lt t2
      clear hc kr ka
      generalize hs.getD k BkV.zero = x at *
      obtain ⟨xi, xs, xn, xf⟩ := x
      dsimp only at *
      go_wp2_with fail
      go_quiet (fail)
      by_cases hne : xi = id
      · have hU : Hid (unbV (hs.take (k + 1)) id = unbV (hs.take k) id) := hide (by rw [htk.out]; exact unbV_snoc_no hne)
        have hL2 : OutR (w.heap.size + 1 + 1 + 1) (w.heap.size + 1 + 1 + 1) S P (wr.drewN nq) v (unbV (hs.take (k + 1)) id) := by rw [hU.out]; exact L.below (bdraw (Below.refl _ _) nq)
        have hb2 : Below (w.heap.size + 1 + 1 + 1) W (wr.drewN nq) := bdraw hb nq
        subst hne
        clear L hb htk hU
        go_wp2
        go_roundw
        case rel => exact ⟨k + 1, v, rfl, by go_num, by omega, hL2, hb2⟩
        case measure => simp [intOf]; omega
      · have hstep : Hid (unbV (hs.take k) id ++ [⟨xi, xs, xn, xf⟩] = unbV (hs.take (k + 1)) id) := hide (by rw [htk.out]; exact unbV_snoc_yes hne)
        have hne' : (xi != id) = true := by simp [hne]
        replace L := L.below (bdraw (Below.refl _ wr) nq)
        replace hb := bdraw hb nq
        obtain ⟨wq, hwq⟩ : ∃ wq, wq = wr.drewN nq := ⟨_, rfl⟩
        have hcq : ∀ b o, wq.cell? ⟨b, o, none⟩ = wr.cell? ⟨b, o, none⟩ := by intro b o; rw [hwq]; rfl
        have hsq : wq.heap.size = wr.heap.size := by rw [hwq]; rfl
        rw [← hwq] at L hb ⊢
        rw [← hcq] at q0 q1 q2 q3 t2
        rw [← hsq] at hhb hts
        clear hcq hsq hwq hbw kt
        generalize unbV (hs.take k) id = ms at *
        obtain ⟨⟨o0, o1, o2⟩, g0, g1, g2⟩ := blk3 L.out
        obtain ⟨va, vc, hv⟩ := own_form L.own
        subst hv
        have hqs : w.heap.size + 1 + 1 + 1 < wq.heap.size := lt_of_block L.out
        have LA := L.below (balloc wq (.cells #[.int .i64 xi, .int .i64 xs, .int .i64 xn, .int .i64 xf] 78))
        have hbA : Below (w.heap.size + 1 + 1 + 1) W (wq.alloc (.cells #[.int .i64 xi, .int .i64 xs, .int .i64 xn, .int .i64 xf] 78)).drew := (hb.trans ((balloc wq _).mono (by have := hb.size; omega))).trans (bdraw (Below.refl _ _) 1)
        go_wp2_with fail
        go_region_law
          ((refine step_append_lies _ (by rfl) _ _ _ (by rfl) (w.heap.size + 1 + 1 + 1) 78 i0 _ 4 32 Try.underlying24 hi hz0 hz1 hz2 rfl (by omega) (.slice va ms.length vc) ms.length (flatBks ms) (by rfl) ((L.own.drew).alloc _)
              ⟨wq.heap.size, 0, none⟩ 1 1 (BkV.vs ⟨xi, xs, xn, xf⟩) (by rfl) (by rfl) (World.news_of_block (cs := #[.int .i64 xi, .int .i64 xs, .int .i64 xn, .int .i64 xf]) (t := 78) (fr := (0, 0)) (heap_alloc_new wq.drew _)) (by simp [BkV.vs, Value.oneCell'])
              (by omega) (by unfold maxLen; omega) (by omega) (by simp; omega) (wq.heap.size + 1) (by simp) ?_; intro g cap2 w2 hown hgrow hat hlt2; obtain ⟨U1, U2⟩ := (LA.below (bdraw (Below.refl _ _) 1)).push hown hgrow; obtain ⟨⟨u0, u1, u2⟩, f0, f1, f2⟩ := blk3 U2))
        all_goals have hbF := out_below (v2 := .slice (some ⟨g, 0, none⟩) (ms.length + 1) cap2) hbA (own_keep LA.own (bdraw (Below.refl _ _) 1)) (by omega) hgrow (Nat.le_refl _)
        all_goals rw [hstep.out] at U1
        all_goals clear hown hgrow hat u0 u1 u2 f0 f1 f2 U2 LA hbA
        all_goals go_wp2
        all_goals go_roundw
        all_goals first | exact ⟨k + 1, _, rfl, by go_num, by omega, U1, hbF⟩ | (simp [intOf]; omega)
    · obtain rfl : k = hs.length := by omega
      rw [List.take_length] at L
      generalize unbV hs id = ms at *
      obtain ⟨⟨o0, o1, o2⟩, -⟩ := blk3 L.out
      obtain ⟨⟨y0, y1, y2⟩, f0, f1, f2⟩ := blk3 kr
      obtain ⟨u1, u2⟩ := out_fin (r := w.heap.size + 1 + 1) L (by omega) (by omega) (by omega) hbw
      obtain ⟨va, vc, hv⟩ := own_form L.own
      subst hv
      have hqs : w.heap.size + 1 + 1 + 1 < wr.heap.size := lt_of_block L.out
      clear L hb kt kr ka hz k0 k1 k2 k3
      go_wp2
      refine bodyPost_ret (v := .agg #[.int .i64 S, .int .i64 P, .slice va ms.length vc]) (by simp [results, Try.results66, go_sem, y0, y1, y2]) rfl ⟨_, rfl, u1, u2⟩
end Go.Proofs.Ytgnlcehpajbnoaa
