/- The model: a booking put in. -/
import Derived.Test.YtgnlcehpajbnoaaMX
import Derived.Deep.RegionHeld3
import Derived.Deep.AppendLies
namespace Go.Proofs.Ytgnlcehpajbnoaa
open Go.RowKit Go.Lib
/-- Whether the new booking stands among the first k, and what they are then. -/
def PutI (hs : List BkV) (x : BkV) (k : Nat) (b : Bool) (ms : List BkV) : Prop :=
  (b = false ∧ ms = hs.take k ∧ ∀ y ∈ hs.take k, y.i ≤ x.i) ∨ (b = true ∧ ms = insB x (hs.take k) ∧ ∃ y ∈ hs.take k, x.i < y.i)
theorem blk4 {w : World} {g : Nat} {c0 c1 c2 c3 : Value} {t : TypeId} (h : w.heap[g]? = some (.cells #[c0, c1, c2, c3] t (0, 0))) :
    (w.cell? ⟨g, 0, none⟩ = some c0 ∧ w.cell? ⟨g, 1, none⟩ = some c1 ∧ w.cell? ⟨g, 2, none⟩ = some c2 ∧ w.cell? ⟨g, 3, none⟩ = some c3) ∧ (w.frozen? ⟨g, 0, none⟩ = false ∧ w.frozen? ⟨g, 1, none⟩ = false ∧ w.frozen? ⟨g, 2, none⟩ = false ∧ w.frozen? ⟨g, 3, none⟩ = false) :=
  ⟨⟨Go.Joins.cell_of_block h 0, Go.Joins.cell_of_block h 1, Go.Joins.cell_of_block h 2, Go.Joins.cell_of_block h 3⟩, ⟨Go.Joins.unfrozen_of_block h 0, Go.Joins.unfrozen_of_block h 1, Go.Joins.unfrozen_of_block h 2, Go.Joins.unfrozen_of_block h 3⟩⟩
theorem out_below0 {B : Nat} {W w w2 : World} {v : Value} {n : Nat} {xs : List Value} (hb : Below B W w) (ho : w.ownsRow B 78 4 v n xs) (hB : B ≤ W.heap.size) (hg : w.grownBy w2 v.ownBlock) : Below B W w2 :=
  ⟨hg.os.trans hb.os, hg.tape.trans hb.tape, hg.output.trans hb.output, Nat.le_trans hb.size hg.size, fun k hk => (hg.block k (by have := hb.size; omega) (fun e => by have := own_from ho (Nat.le_refl _) k e.symm; omega)).trans (hb.block k hk)⟩
theorem PutI.len {hs : List BkV} {x : BkV} {k : Nat} {b : Bool} {ms : List BkV} (h : PutI hs x k b ms) (hl : hs.length ≤ 1048576) : ms.length ≤ 1048577 := by
  rcases h with ⟨_, rfl, _⟩ | ⟨_, rfl, _⟩
  · rw [List.length_take]; omega
  · rw [insB_len, List.length_take]; omega
theorem PutI.past {hs : List BkV} {x y : BkV} {k : Nat} {ms : List BkV} (h : PutI hs x k true ms) (ht : hs.take (k + 1) = hs.take k ++ [y]) : PutI hs x (k + 1) true (ms ++ [y]) := by
  rcases h with ⟨h, _⟩ | ⟨_, rfl, z, hz, hlt⟩
  · cases h
  · refine .inr ⟨rfl, ?_, z, ?_, hlt⟩
    · rw [ht, insB_past _ ⟨z, hz, hlt⟩]
    · rw [ht]; simp [hz]
theorem PutI.low {hs : List BkV} {x y : BkV} {k : Nat} {ms : List BkV} (h : PutI hs x k false ms) (ht : hs.take (k + 1) = hs.take k ++ [y]) (hy : y.i ≤ x.i) : PutI hs x (k + 1) false (ms ++ [y]) := by
  rcases h with ⟨_, rfl, hz⟩ | ⟨h, _⟩
  · refine .inl ⟨rfl, ht.symm, fun z hz' => ?_⟩
    rw [ht] at hz'
    rcases List.mem_append.1 hz' with hz' | hz'
    · exact hz z hz'
    · simp at hz'; rw [hz']; exact hy
  · cases h
theorem PutI.here {hs : List BkV} {x y : BkV} {k : Nat} {ms : List BkV} (h : PutI hs x k false ms) (ht : hs.take (k + 1) = hs.take k ++ [y]) (hy : x.i < y.i) : PutI hs x (k + 1) true (ms ++ [x] ++ [y]) := by
  rcases h with ⟨_, rfl, hz⟩ | ⟨h, _⟩
  · refine .inr ⟨rfl, ?_, y, ?_, hy⟩
    · rw [ht, insB_at hy [] hz]; simp
    · rw [ht]; simp
  · cases h
theorem PutI.done {hs : List BkV} {x : BkV} {ms : List BkV} (h : PutI hs x hs.length true ms) : ms = insB x hs := by
  rcases h with ⟨h, _⟩ | ⟨_, rfl, _⟩
  · cases h
  · rw [List.take_length]
theorem PutI.last {hs : List BkV} {x : BkV} {ms : List BkV} (h : PutI hs x hs.length false ms) : ms ++ [x] = insB x hs := by
  rcases h with ⟨_, rfl, hz⟩ | ⟨h, _⟩
  · rw [List.take_length] at *
    rw [insB_low hz]
  · cases h

set_option maxRecDepth 20000 in
set_option maxHeartbeats 12800000 in
theorem cHeldIn (S P : Int) (a : Option Addr) (c : Nat) (hs : List BkV) (id s on off : Int) (w : World) (hz : Bks w a hs) (hl : hs.length ≤ 1048576) (hid : id ≠ 0) (hnz : ∀ j, j < hs.length → (hs.getD j BkV.zero).i ≠ 0) :
    Calls Try.prog 66 #[.agg #[.int .i64 S, .int .i64 P, .slice a hs.length c], .int .i64 0, .agg #[.int .i64 id, .int .i64 s, .int .i64 on, .int .i64 off]] w (AnsR w S P (insB ⟨id, s, on, off⟩ hs)) := by
  have hid' : (id == 0) = false := by simp [hid]
  replace hnz := hide hnz
  obtain ⟨i0, hi, hz0, hz1, hz2⟩ := info_parts infoBks
  obtain ⟨k0, k1, k2, k3, hs4⟩ := blocks4 w (Obj.cells #[.int .i64 S, .int .i64 P, .slice a hs.length c] 26) (Obj.cells #[.int .i64 id, .int .i64 s, .int .i64 on, .int .i64 off] 78) (Obj.cells #[.int .i64 0, .int .i64 0, .slice none 0 0] 26) (Obj.cells #[.int .i64 S, .int .i64 P, .slice none 0 0] 26)
  have hb4 := btrans (btrans (btrans (balloc w (Obj.cells #[.int .i64 S, .int .i64 P, .slice a hs.length c] 26)) (balloc _ (Obj.cells #[.int .i64 id, .int .i64 s, .int .i64 on, .int .i64 off] 78))) (balloc _ (Obj.cells #[.int .i64 0, .int .i64 0, .slice none 0 0] 26))) (balloc _ (Obj.cells #[.int .i64 S, .int .i64 P, .slice none 0 0] 26))
  go_enter Try.func66, Try.ntmps66
  go_wp2
  generalize (((w.alloc (Obj.cells #[.int .i64 S, .int .i64 P, .slice a hs.length c] 26)).alloc (Obj.cells #[.int .i64 id, .int .i64 s, .int .i64 on, .int .i64 off] 78)).alloc (Obj.cells #[.int .i64 0, .int .i64 0, .slice none 0 0] 26)).alloc (Obj.cells #[.int .i64 S, .int .i64 P, .slice none 0 0] 26) = W at *
  have L0 : OutR (w.heap.size + 1 + 1 + 1) (w.heap.size + 1 + 1 + 1) S P W (.slice none 0 0) [] := ⟨k3, World.ownsRow_nil _ _ _ _⟩
  go_loopw [8, 9] (fun pt i wr => ∃ k : Nat, ∃ v, ∃ bb : Bool, ∃ ms, pt = .bool bb ∧ i = .int .i64 k ∧ k ≤ hs.length ∧ OutR (w.heap.size + 1 + 1 + 1) (w.heap.size + 1 + 1 + 1) S P wr v ms ∧ Below (w.heap.size + 1 + 1 + 1) W wr ∧ Hid (PutI hs ⟨id, s, on, off⟩ k bb ms)) (fun _ i _ => hs.length - (intOf i).toNat)
  case atStart => exact ⟨0, _, false, [], rfl, rfl, Nat.zero_le _, L0, Below.refl _ _, hide (.inl ⟨rfl, rfl, fun y hy => by simp at hy⟩)⟩
  case round =>
    obtain ⟨k, v, bb, ms, rfl, rfl, hk, L, hb, hP⟩ := hrel
    clear L0
    have hbw : Below w.heap.size w wr := hb4.trans (hb.mono (by omega))
    have kt := (hb.block w.heap.size (by omega)).trans k0
    have ka := (hb.block (w.heap.size + 1) (by omega)).trans k1
    have kr := (hb.block (w.heap.size + 1 + 1) (by omega)).trans k2
    obtain ⟨⟨t0, t1, t2⟩, -⟩ := blk3 kt
    clear t0 t1
    have hmsl := hP.out.len hl
    obtain ⟨⟨a0, a1, a2, a3⟩, -⟩ := blk4 ka
    have has : w.heap.size + 1 < wr.heap.size := lt_of_block ka
    by_cases hlt : k < hs.length
    · have htk : Hid (hs.take (k + 1) = hs.take k ++ [hs.getD k BkV.zero]) := hide (by rw [List.take_succ_eq_append_getElem hlt]; simp [List.getD, hlt])
      rcases hz with h | ⟨hb0, ho, rfl, hc⟩
      · simp [h] at hlt
      obtain ⟨q0, q1, q2, q3⟩ := hc k hlt
      replace q0 := ble hbw q0
      replace q1 := ble hbw q1
      replace q2 := ble hbw q2
      replace q3 := ble hbw q3
      have hhb : hb0 < wr.heap.size := cell_lt q0
      have hQ := hide (hc k hlt)
      have hb0w : hb0 < w.heap.size := cell_lt (hc k hlt).1
      have hn1 : w.heap.size ≠ w.heap.size + 1 + 1 + 1 := by omega
      have hn2 : hb0 ≠ w.heap.size + 1 + 1 + 1 := by omega
      have hts : w.heap.size < wr.heap.size := cell_lt t2
      have hxz := hnz.out k hlt
      clear hc kr
      generalize hs.getD k BkV.zero = x at *
      obtain ⟨xi, xs, xn, xf⟩ := x
      dsimp only at *
      have hne' : (xi != 0) = true := by simp [hxz]
      cases bb
      · by_cases hgt : id < xi
        · have hP2 := hide (hP.out.here htk.out hgt)
          go_wp2_with fail
          go_quiet (fail)
          obtain ⟨wq, hwq⟩ : ∃ wq, wq = wr.drewN nq := ⟨_, rfl⟩
          have hcq : ∀ b o, wq.cell? ⟨b, o, none⟩ = wr.cell? ⟨b, o, none⟩ := by intro b o; rw [hwq]; rfl
          have hsq : wq.heap.size = wr.heap.size := by rw [hwq]; rfl
          replace L := L.below (bdraw (Below.refl _ wr) nq)
          replace hb := bdraw hb nq
          rw [← hwq] at L hb ⊢
          rw [← hcq] at q0 q1 q2 q3 t2 a0 a1 a2 a3
          rw [← hsq] at hhb hts has
          clear hcq hsq hwq kt ka
          obtain ⟨va, vc, hv⟩ := own_form L.own
          subst hv
          obtain ⟨⟨o0, o1, o2⟩, g0, g1, g2⟩ := blk3 L.out
          have hqs : w.heap.size + 1 + 1 + 1 < wq.heap.size := lt_of_block L.out
          have hbX := balloc wq (.cells #[.int .i64 id, .int .i64 s, .int .i64 on, .int .i64 off] 78)
          have LX := L.below hbX
          have hbX2 : Below (w.heap.size + 1 + 1 + 1) W (wq.alloc (.cells #[.int .i64 id, .int .i64 s, .int .i64 on, .int .i64 off] 78)) := hb.trans (hbX.mono (by have := hb.size; omega))
          go_wp2_with (at_builtin; refine wpList_append_own _ rfl _ _ 24 rfl (w.heap.size + 1 + 1 + 1) 78 i0 _ 4 32 Try.underlying24 hi hz0 hz1 hz2 rfl (by decide) _ _ _ rfl LX.own ⟨wq.heap.size, 0, none⟩ 1 1 (BkV.vs ⟨id, s, on, off⟩) rfl rfl (World.news_of_block (heap_alloc_new wq _)) (vs_one _) (by unfold maxLen; omega) (by omega) (by have := hb.size; simp; omega) ?_; intro v2 w5 hown hgrow _; obtain ⟨va2, vc2, hv2⟩ := own_form hown; subst hv2; obtain ⟨U1, U2⟩ := LX.push (x := ⟨id, s, on, off⟩) hown hgrow; obtain ⟨⟨u0, u1, u2⟩, f0, f1, f2⟩ := blk3 U2; have hbV := out_below (q := w.heap.size + 1 + 1 + 1) (v2 := .slice va2 (ms.length + 1) vc2) hbX2 LX.own (by omega) hgrow (Nat.le_refl _); have hbU := out_below0 hbX2 LX.own (by omega) hgrow; obtain ⟨⟨-, -, t5⟩, -⟩ := blk3 ((hbU.block w.heap.size (by omega)).trans k0); obtain ⟨p0, p1, p2, p3⟩ := hQ.out; replace p0 := ble (hb4.trans (hbU.mono (by omega))) p0; replace p1 := ble (hb4.trans (hbU.mono (by omega))) p1; replace p2 := ble (hb4.trans (hbU.mono (by omega))) p2; replace p3 := ble (hb4.trans (hbU.mono (by omega))) p3)
          have hlen : ms.length + 1 = (ms ++ [(⟨id, s, on, off⟩ : BkV)]).length := by simp
          rw [hlen] at U1 hbV ⊢
          have hmsl2 : (ms ++ [(⟨id, s, on, off⟩ : BkV)]).length ≤ 1048578 := by simp; omega
          clear hlen t5 p0 p1 p2 p3 u0 u1 u2 f0 f1 f2 U2 hown hgrow hbU hbX2 LX hbX L hb o0 o1 o2 g0 g1 g2 q0 q1 q2 q3 t2 a0 a1 a2 a3 hP hmsl hbw
          generalize w5.setCell ⟨w.heap.size + 1 + 1 + 1, 2, none⟩ (.slice va2 (ms ++ [(⟨id, s, on, off⟩ : BkV)]).length vc2) = wv at *
          generalize ms ++ [(⟨id, s, on, off⟩ : BkV)] = m2 at *
          have L := U1
          have hb := hbV
          clear U1 hbV
          obtain ⟨⟨-, -, t2⟩, -⟩ := blk3 ((hb.block w.heap.size (by omega)).trans k0)
          obtain ⟨q0, q1, q2, q3⟩ := hQ.out
          replace q0 := ble (hb4.trans (hb.mono (by omega))) q0
          replace q1 := ble (hb4.trans (hb.mono (by omega))) q1
          replace q2 := ble (hb4.trans (hb.mono (by omega))) q2
          replace q3 := ble (hb4.trans (hb.mono (by omega))) q3
          have hhb : hb0 < wv.heap.size := cell_lt q0
          have hts : w.heap.size < wv.heap.size := cell_lt t2
          obtain ⟨⟨o0, o1, o2⟩, g0, g1, g2⟩ := blk3 L.out
          have hqs : w.heap.size + 1 + 1 + 1 < wv.heap.size := lt_of_block L.out
          have LA := L.below (balloc wv (.cells #[.int .i64 xi, .int .i64 xs, .int .i64 xn, .int .i64 xf] 78))
          have hbA : Below (w.heap.size + 1 + 1 + 1) W (wv.alloc (.cells #[.int .i64 xi, .int .i64 xs, .int .i64 xn, .int .i64 xf] 78)).drew := (hb.trans ((balloc wv _).mono (by have := hb.size; omega))).trans (bdraw (Below.refl _ _) 1)
          go_region_law
            ((refine step_append_lies _ (by rfl) _ _ _ (by rfl) (w.heap.size + 1 + 1 + 1) 78 i0 _ 4 32 Try.underlying24 hi hz0 hz1 hz2 rfl (by omega) (.slice va2 m2.length vc2) m2.length (flatBks m2) (by rfl) ((L.own.drew).alloc _)
                ⟨wv.heap.size, 0, none⟩ 1 1 (BkV.vs ⟨xi, xs, xn, xf⟩) (by rfl) (by rfl) (World.news_of_block (cs := #[.int .i64 xi, .int .i64 xs, .int .i64 xn, .int .i64 xf]) (t := 78) (fr := (0, 0)) (heap_alloc_new wv.drew _)) (by simp [BkV.vs, Value.oneCell'])
                (by omega) (by unfold maxLen; omega) (by omega) (by simp; omega) (wv.heap.size + 1) (by simp) ?_; intro g cap2 w2 hown hgrow hat hlt2; obtain ⟨U1, U2⟩ := (LA.below (bdraw (Below.refl _ _) 1)).push hown hgrow; obtain ⟨⟨u0, u1, u2⟩, f0, f1, f2⟩ := blk3 U2))
          all_goals have hbF := out_below (v2 := .slice (some ⟨g, 0, none⟩) (m2.length + 1) cap2) hbA (own_keep LA.own (bdraw (Below.refl _ _) 1)) (by omega) hgrow (Nat.le_refl _)
          all_goals clear hown hgrow hat u0 u1 u2 f0 f1 f2 U2 LA hbA
          all_goals go_wp2
          all_goals go_roundw
          all_goals first | exact ⟨k + 1, _, true, _, rfl, by go_num, by omega, U1, hbF, hP2⟩ | (simp [intOf]; omega)
        · have hP2 := hide (hP.out.low htk.out (by show xi ≤ id; omega))
          go_wp2_with fail
          go_quiet (fail)
          obtain ⟨wq, hwq⟩ : ∃ wq, wq = wr.drewN nq := ⟨_, rfl⟩
          have hcq : ∀ b o, wq.cell? ⟨b, o, none⟩ = wr.cell? ⟨b, o, none⟩ := by intro b o; rw [hwq]; rfl
          have hsq : wq.heap.size = wr.heap.size := by rw [hwq]; rfl
          replace L := L.below (bdraw (Below.refl _ wr) nq)
          replace hb := bdraw hb nq
          rw [← hwq] at L hb ⊢
          rw [← hcq] at q0 q1 q2 q3 t2 a0 a1 a2 a3
          rw [← hsq] at hhb hts has
          clear hcq hsq hwq kt ka
          obtain ⟨⟨o0, o1, o2⟩, g0, g1, g2⟩ := blk3 L.out
          obtain ⟨va, vc, hv⟩ := own_form L.own
          subst hv
          have hqs : w.heap.size + 1 + 1 + 1 < wq.heap.size := lt_of_block L.out
          have LA := L.below (balloc wq (.cells #[.int .i64 xi, .int .i64 xs, .int .i64 xn, .int .i64 xf] 78))
          have hbA : Below (w.heap.size + 1 + 1 + 1) W (wq.alloc (.cells #[.int .i64 xi, .int .i64 xs, .int .i64 xn, .int .i64 xf] 78)).drew := (hb.trans ((balloc wq _).mono (by have := hb.size; omega))).trans (bdraw (Below.refl _ _) 1)
          go_wp2_with fail
          go_region_law
            ((refine step_append_lies _ (by rfl) _ _ _ (by rfl) (w.heap.size + 1 + 1 + 1) 78 i0 _ 4 32 Try.underlying24 hi hz0 hz1 hz2 rfl (by omega) (.slice va ms.length vc) ms.length (flatBks ms) (by rfl) ((L.own.drew).alloc _)
                ⟨wq.heap.size, 0, none⟩ 1 1 (BkV.vs ⟨xi, xs, xn, xf⟩) (by rfl) (by rfl) (World.news_of_block (cs := #[.int .i64 xi, .int .i64 xs, .int .i64 xn, .int .i64 xf]) (t := 78) (fr := (0, 0)) (heap_alloc_new wq.drew _)) (by simp [BkV.vs, Value.oneCell'])
                (by omega) (by unfold maxLen; omega) (by omega) (by simp; omega) (wq.heap.size + 1) (by simp) ?_; intro g cap2 w2 hown hgrow hat hlt2; obtain ⟨U1, U2⟩ := (LA.below (bdraw (Below.refl _ _) 1)).push hown hgrow; obtain ⟨⟨u0, u1, u2⟩, f0, f1, f2⟩ := blk3 U2))
          all_goals have hbF := out_below (v2 := .slice (some ⟨g, 0, none⟩) (ms.length + 1) cap2) hbA (own_keep LA.own (bdraw (Below.refl _ _) 1)) (by omega) hgrow (Nat.le_refl _)
          all_goals clear hown hgrow hat u0 u1 u2 f0 f1 f2 U2 LA hbA
          all_goals go_wp2
          all_goals go_roundw
          all_goals first | exact ⟨k + 1, _, false, _, rfl, by go_num, by omega, U1, hbF, hP2⟩ | (simp [intOf]; omega)
      · have hP2 := hide (hP.out.past htk.out)
        go_wp2_with fail
        go_quiet (fail)
        obtain ⟨wq, hwq⟩ : ∃ wq, wq = wr.drewN nq := ⟨_, rfl⟩
        have hcq : ∀ b o, wq.cell? ⟨b, o, none⟩ = wr.cell? ⟨b, o, none⟩ := by intro b o; rw [hwq]; rfl
        have hsq : wq.heap.size = wr.heap.size := by rw [hwq]; rfl
        replace L := L.below (bdraw (Below.refl _ wr) nq)
        replace hb := bdraw hb nq
        rw [← hwq] at L hb ⊢
        rw [← hcq] at q0 q1 q2 q3 t2 a0 a1 a2 a3
        rw [← hsq] at hhb hts has
        clear hcq hsq hwq kt ka
        obtain ⟨⟨o0, o1, o2⟩, g0, g1, g2⟩ := blk3 L.out
        obtain ⟨va, vc, hv⟩ := own_form L.own
        subst hv
        have hqs : w.heap.size + 1 + 1 + 1 < wq.heap.size := lt_of_block L.out
        have LA := L.below (balloc wq (.cells #[.int .i64 xi, .int .i64 xs, .int .i64 xn, .int .i64 xf] 78))
        have hbA : Below (w.heap.size + 1 + 1 + 1) W (wq.alloc (.cells #[.int .i64 xi, .int .i64 xs, .int .i64 xn, .int .i64 xf] 78)).drew := (hb.trans ((balloc wq _).mono (by have := hb.size; omega))).trans (bdraw (Below.refl _ _) 1)
        go_wp2_with fail
        go_region_law
          ((refine step_append_lies _ (by rfl) _ _ _ (by rfl) (w.heap.size + 1 + 1 + 1) 78 i0 _ 4 32 Try.underlying24 hi hz0 hz1 hz2 rfl (by omega) (.slice va ms.length vc) ms.length (flatBks ms) (by rfl) ((L.own.drew).alloc _)
              ⟨wq.heap.size, 0, none⟩ 1 1 (BkV.vs ⟨xi, xs, xn, xf⟩) (by rfl) (by rfl) (World.news_of_block (cs := #[.int .i64 xi, .int .i64 xs, .int .i64 xn, .int .i64 xf]) (t := 78) (fr := (0, 0)) (heap_alloc_new wq.drew _)) (by simp [BkV.vs, Value.oneCell'])
              (by omega) (by unfold maxLen; omega) (by omega) (by simp; omega) (wq.heap.size + 1) (by simp) ?_; intro g cap2 w2 hown hgrow hat hlt2; obtain ⟨U1, U2⟩ := (LA.below (bdraw (Below.refl _ _) 1)).push hown hgrow; obtain ⟨⟨u0, u1, u2⟩, f0, f1, f2⟩ := blk3 U2))
        all_goals have hbF := out_below (v2 := .slice (some ⟨g, 0, none⟩) (ms.length + 1) cap2) hbA (own_keep LA.own (bdraw (Below.refl _ _) 1)) (by omega) hgrow (Nat.le_refl _)
        all_goals clear hown hgrow hat u0 u1 u2 f0 f1 f2 U2 LA hbA
        all_goals go_wp2
        all_goals go_roundw
        all_goals first | exact ⟨k + 1, _, true, _, rfl, by go_num, by omega, U1, hbF, hP2⟩ | (simp [intOf]; omega)
    · obtain rfl : k = hs.length := by omega
      cases bb
      · have hms : Hid (ms ++ [(⟨id, s, on, off⟩ : BkV)] = insB ⟨id, s, on, off⟩ hs) := hide hP.out.last
        obtain ⟨va, vc, hv⟩ := own_form L.own
        subst hv
        obtain ⟨⟨o0, o1, o2⟩, g0, g1, g2⟩ := blk3 L.out
        have hqs : w.heap.size + 1 + 1 + 1 < wr.heap.size := lt_of_block L.out
        have hbX := balloc wr (.cells #[.int .i64 id, .int .i64 s, .int .i64 on, .int .i64 off] 78)
        have LX := L.below hbX
        have hbX2 : Below (w.heap.size + 1 + 1 + 1) W (wr.alloc (.cells #[.int .i64 id, .int .i64 s, .int .i64 on, .int .i64 off] 78)) := hb.trans (hbX.mono (by have := hb.size; omega))
        clear hz kt ka
        have hts : w.heap.size < wr.heap.size := cell_lt t2
        go_wp2_with (at_builtin; refine wpList_append_own _ rfl _ _ 24 rfl (w.heap.size + 1 + 1 + 1) 78 i0 _ 4 32 Try.underlying24 hi hz0 hz1 hz2 rfl (by decide) _ _ _ rfl LX.own ⟨wr.heap.size, 0, none⟩ 1 1 (BkV.vs ⟨id, s, on, off⟩) rfl rfl (World.news_of_block (heap_alloc_new wr _)) (vs_one _) (by unfold maxLen; omega) (by omega) (by have := hb.size; simp; omega) ?_; intro v2 w5 hown hgrow _; obtain ⟨va2, vc2, hv2⟩ := own_form hown; subst hv2; obtain ⟨U1, U2⟩ := LX.push (x := ⟨id, s, on, off⟩) hown hgrow; obtain ⟨⟨u0, u1, u2⟩, f0, f1, f2⟩ := blk3 U2; have hbV := out_below (q := w.heap.size + 1 + 1 + 1) (v2 := .slice va2 (ms.length + 1) vc2) hbX2 LX.own (by omega) hgrow (Nat.le_refl _); have hbU := out_below0 hbX2 LX.own (by omega) hgrow; obtain ⟨⟨y0, y1, y2⟩, e0, e1, e2⟩ := blk3 ((hbU.block (w.heap.size + 1 + 1) (by omega)).trans k2))
        rw [hms.out] at U1
        obtain ⟨r1, r2⟩ := out_fin (r := w.heap.size + 1 + 1) U1 (by omega) (by omega) (by omega) (hb4.trans (hbV.mono (by omega)))
        have hlen : ms.length + 1 = (insB ⟨id, s, on, off⟩ hs).length := by rw [← hms.out]; simp
        rw [hlen] at r1 r2 ⊢
        refine bodyPost_ret (v := .agg #[.int .i64 S, .int .i64 P, .slice va2 (insB ⟨id, s, on, off⟩ hs).length vc2]) (by simp [results, Try.results66, go_sem, y0, y1, y2]) rfl ⟨_, rfl, r1, r2⟩
      · have hms : Hid (ms = insB ⟨id, s, on, off⟩ hs) := hide hP.out.done
        rw [hms.out] at L
        generalize insB ⟨id, s, on, off⟩ hs = ms2 at *
        obtain ⟨⟨o0, o1, o2⟩, -⟩ := blk3 L.out
        obtain ⟨⟨y0, y1, y2⟩, f0, f1, f2⟩ := blk3 kr
        obtain ⟨u1, u2⟩ := out_fin (r := w.heap.size + 1 + 1) L (by omega) (by omega) (by omega) hbw
        obtain ⟨va, vc, hv⟩ := own_form L.own
        subst hv
        have hqs : w.heap.size + 1 + 1 + 1 < wr.heap.size := lt_of_block L.out
        clear L hb kt kr ka hz k0 k1 k2 k3
        go_wp2
        refine bodyPost_ret (v := .agg #[.int .i64 S, .int .i64 P, .slice va ms2.length vc]) (by simp [results, Try.results66, go_sem, y0, y1, y2]) rfl ⟨_, rfl, u1, u2⟩
end Go.Proofs.Ytgnlcehpajbnoaa
