/- Selling, taking back, one sale. -/
import Derived.Test.YtgnlcehpajbnoaaCG
import Derived.Deep.RegionHeld3
namespace Go.Proofs.Ytgnlcehpajbnoaa
open Go.RowKit Go.Lib
theorem flat_take (es : List BkV) (i : Nat) : (flatBks es).take (i * 4) = flatBks (es.take i) := by
  induction es generalizing i with
  | nil => simp [flatBks]
  | cons e es ih =>
    cases i with
    | zero => simp [flatBks]
    | succ i => rw [List.take_succ_cons, flatBks_cons, flatBks_cons, show (i + 1) * 4 = i * 4 + 1 + 1 + 1 + 1 by omega]; simp only [List.take_succ_cons, ih]
theorem flat_drop (es : List BkV) (i : Nat) : (flatBks es).drop (i * 4) = flatBks (es.drop i) := by
  induction es generalizing i with
  | nil => simp [flatBks]
  | cons e es ih =>
    cases i with
    | zero => simp
    | succ i => rw [List.drop_succ_cons, flatBks_cons, show (i + 1) * 4 = i * 4 + 1 + 1 + 1 + 1 by omega]; simp only [List.drop_succ_cons, ih]
theorem flat_put (es : List BkV) (i : Nat) (t : BkV) : (flatBks es).take (i * 4) ++ t.vs ++ (flatBks es).drop (i * 4) = flatBks (es.take i ++ t :: es.drop i) := by
  rw [flat_take, flat_drop, flatBks_app, flatBks_cons]; simp [BkV.vs]
theorem vs_one (t : BkV) : ∀ u ∈ t.vs, u.oneCell' = true := by
  intro u hu
  simp only [BkV.vs, List.mem_cons, List.not_mem_nil, or_false] at hu
  rcases hu with rfl | rfl | rfl | rfl <;> rfl
theorem cInsert (base g cap i vb : Nat) (es : List BkV) (t : BkV) (w : World) (ho : w.ownsRow base 78 4 (.slice (some ⟨g, 0, none⟩) es.length cap) es.length (flatBks es)) (hn : es.length ≤ 1000) (hi : i ≤ es.length) (hB : base ≤ w.heap.size) (hvb : w.heap[vb]? = some (.cells t.vs.toArray 78 (0, 0))) (hne : vb ≠ g) :
    Calls Try.prog 79 #[.slice (some ⟨g, 0, none⟩) es.length cap, .int .i64 i, .slice (some ⟨vb, 0, none⟩) 1 1] w (InsBks w base (.slice (some ⟨g, 0, none⟩) es.length cap) es.length (flatBks (es.take i ++ t :: es.drop i))) := by
  rw [← flat_put]
  by_cases h : i = es.length
  · subst h
    have := cInsBks_end base (.slice (some ⟨g, 0, none⟩) es.length cap) es.length vb (flatBks es) t.vs w ho hn hB rfl (fun j u hu => by rw [addN, Nat.zero_add]; simp [World.cell?, hvb, hu]) (vs_one t)
    rwa [List.take_of_length_le (by rw [flatBks_len]; exact Nat.le_refl _), List.drop_of_length_le (by rw [flatBks_len]; exact Nat.le_refl _), List.append_nil]
  · rcases ho.2 with ⟨h0, _⟩ | ⟨g', cap', cur, he, hg, hh, hnc, hcm, hcs, hx⟩
    · cases h0
    simp only [Value.slice.injEq, Option.some.injEq, Addr.mk.injEq] at he
    obtain ⟨⟨rfl, _⟩, _, rfl⟩ := he
    by_cases hr : es.length + 1 ≤ cap
    · exact cInsBks_shift base g cap es.length i vb cur _ t.vs w hg hh hr hcm hcs hx (flatBks_len es) hn (by omega) rfl hvb hne (vs_one t) (flatBks_one es)
    · exact cInsBks_grow base g cap es.length i vb cur _ t.vs w hB hh (by omega) hcs hx (flatBks_len es) hn (by omega) rfl hvb (vs_one t) (flatBks_one es)
theorem ins_parts {w w' : World} {base n : Nat} {v : Value} {xs : List Value} {e : Ending} (h : InsBks w base v n xs e w') : ∃ v', e = .returned v' ∧ w'.ownsRow base 78 4 v' (n + 1) xs ∧ w.grownBy w' v.ownBlock := h
theorem own_formS {w : World} {base e sz n : Nat} {v : Value} {xs : List Value} (h : w.ownsRow base e sz v (n + 1) xs) : ∃ g c, v = .slice (some ⟨g, 0, none⟩) (n + 1) c := by
  rcases h.2 with ⟨_, h0⟩ | ⟨g, cap', cur, rfl, _⟩
  · omega
  · exact ⟨_, _, rfl⟩
/-- What is of no book, no booking and no pieces stands. -/
def KpT (w w' : World) : Prop := w.heap.size ≤ w'.heap.size ∧ ∀ (k : Nat) (cs : Array Value) (t : TypeId) (f : Nat × Nat), w.heap[k]? = some (Obj.cells cs t f) → t ≠ 72 → t ≠ 78 → t ≠ 101 → w'.heap[k]? = some (Obj.cells cs t f)
theorem KpT.of_below {w w' : World} (h : Below w.heap.size w w') : KpT w w' := ⟨h.size, fun _ _ _ _ hk _ _ _ => blk_keep h hk⟩
theorem KpT.trans {w w' w2 : World} (h : KpT w w') (g : KpT w' w2) : KpT w w2 := ⟨Nat.le_trans h.1 g.1, fun k cs t f hk a b c => g.2 k cs t f (h.2 k cs t f hk a b c) a b c⟩
theorem KpT.grow {w w' : World} {g : Nat} {cs : Array Value} {t : TypeId} {f : Nat × Nat} (hg : w.grownBy w' (some g)) (hb : w.heap[g]? = some (.cells cs t f)) (ht : t = 72 ∨ t = 78 ∨ t = 101) : KpT w w' := by
  refine ⟨hg.size, fun k cs' t' f' hk a b c => (hg.block k (lt_of_block hk) (fun e => ?_)).trans hk⟩
  cases e
  rw [hk] at hb
  simp only [Option.some.injEq, Obj.cells.injEq] at hb
  obtain ⟨_, rfl, _⟩ := hb
  rcases ht with h | h | h
  · exact a h
  · exact b h
  · exact c h
theorem Bk.heldBlk {w : World} {B b : Nat} {N : Nat} {P : Int} {gh ch : Nat} {hs : List BkV} {gs : Nat} {ds : List BkV} (h : Bk w B b N P gh ch hs gs ds) : B ≤ gh ∧ ∃ cur, w.heap[gh]? = some (.cells cur 78 (0, 0)) := by
  rcases h.held.2 with ⟨h0, _⟩ | ⟨g', cap', cur, he, hg, hh, _⟩
  · cases h0
  simp only [Value.slice.injEq, Option.some.injEq, Addr.mk.injEq] at he
  obtain ⟨⟨rfl, _⟩, _⟩ := he
  exact ⟨hg, cur, hh⟩
/-- A book whose bookings are put in place of others. -/
theorem Bk.upd {w w1 : World} {B b : Nat} {N : Nat} {P : Int} {gh ch : Nat} {hs : List BkV} {gs : Nat} {ds : List BkV} {gh' ch' : Nat} {hs' : List BkV} (h : Bk w B b N P gh ch hs gs ds) (hg : w.grownBy w1 (some gh)) (ho : w1.ownsRow B 78 4 (.slice (some ⟨gh', 0, none⟩) hs'.length ch') hs'.length (flatBks hs')) :
    Bk (w1.setCell ⟨b, 2, none⟩ (.slice (some ⟨gh', 0, none⟩) hs'.length ch')) B b N P gh' ch' hs' gs ds ∧ KpT w (w1.setCell ⟨b, 2, none⟩ (.slice (some ⟨gh', 0, none⟩) hs'.length ch')) ∧ w1.cell? ⟨b, 2, none⟩ = some (.slice (some ⟨gh, 0, none⟩) hs.length ch) ∧ w1.frozen? ⟨b, 2, none⟩ = false ∧ Below B w (w1.setCell ⟨b, 2, none⟩ (.slice (some ⟨gh', 0, none⟩) hs'.length ch')) := by
  obtain ⟨n1, n2⟩ := h.neh
  obtain ⟨hgB, cur, hcur⟩ := h.heldBlk
  have hb1 : w1.heap[b]? = _ := (hg.block b (lt_of_block h.blk) (fun e => n2 (Option.some.inj e).symm)).trans h.blk
  have hs1 : w1.heap[gs]? = _ := (hg.block gs (lt_of_block h.seats) (fun e => n1 (Option.some.inj e).symm)).trans h.seats
  have hne : gh' ≠ b := by
    rcases ho.2 with ⟨h0, _⟩ | ⟨g', cap', cur', he, _, hh, _⟩
    · cases h0
    simp only [Value.slice.injEq, Option.some.injEq, Addr.mk.injEq] at he
    obtain ⟨⟨rfl, _⟩, _⟩ := he
    rintro rfl
    rw [hb1] at hh
    simp at hh
  refine ⟨⟨blk_set (i := 2) (v := .slice (some ⟨gh', 0, none⟩) hs'.length ch') hb1, own_setg hne ho, blk_other hs1 h.ne.symm, h.bB, h.sB⟩, ?_, Go.Joins.cell_of_block hb1 2, Go.Joins.unfrozen_of_block hb1 2, ?_⟩
  · exact (KpT.grow hg hcur (.inr (.inl rfl))).trans (KpT.grow (gset (World.grownBy.refl _ _) _ _) hb1 (.inl rfl))
  · exact below_set h.bB ⟨hg.os, hg.tape, hg.output, hg.size, fun k hk => by
      by_cases hkw : k < w.heap.size
      · exact hg.block k hkw (fun e => by cases e; omega)
      · have := lt_of_block hcur; omega⟩
theorem Bk.grid {w : World} {B b : Nat} {N : Nat} {P : Int} {gh ch : Nat} {hs : List BkV} {gs : Nat} {ds : List BkV} {es : List BkV} (h : Bk w B b N P gh ch hs gs ds) (he : ∀ s p, heldB ds s p = heldB es s p) : Bk w B b N P gh ch hs gs es := ⟨h.blk, h.held, by rw [← gridL_ext he]; exact h.seats, h.bB, h.sB⟩
/-- What is behind a change of a book. -/
def SellP (w : World) (B b : Nat) (N : Nat) (P : Int) (gs : Nat) (hs : List BkV) (r : Value) (e : Ending) (w' : World) : Prop := ∃ gh ch, e = .returned r ∧ Bk w' B b N P gh ch hs gs hs ∧ KpT w w' ∧ Below B w w'

set_option maxRecDepth 20000 in
set_option maxHeartbeats 6400000 in
theorem cSell (B b : Nat) (N : Nat) (P : Int) (gh ch : Nat) (hs : List BkV) (gs : Nat) (id on off : Int) (w : World) (hB : Bk w B b N P gh ch hs gs hs) (hT : Tr N P hs) :
    Calls Try.prog 51 #[.pointer (some ⟨b, 0, none⟩), .int .i64 id, .int .i64 on, .int .i64 off] w (SellP w B b N P gs (bookV N P hs id on off).1 (.int .i64 (bookV N P hs id on off).2)) := by
  have hBw : B ≤ w.heap.size := by have := lt_of_block hB.blk; have := hB.bB; omega
  have h60 : N ≤ 60 := by have := hT.s2; omega
  have E : Hid (bookV N P hs id on off = if maySell hs id = true ∧ 0 ≤ seatV N P hs on off then (insB ⟨id, seatV N P hs on off, on, off⟩ hs, seatV N P hs on off) else (hs, -1)) := hide rfl
  have hKw : ∀ {w1 : World}, Below w.heap.size w w1 → Hid (SellP w B b N P gs hs (.int .i64 (-1)) (.returned (.int .i64 (-1))) w1) := fun {w1} hb => hide ⟨gh, ch, rfl, hB.below hb, KpT.of_below hb, hb.mono hBw⟩
  generalize bookV N P hs id on off = bv at *
  have hln := hT.len
  have CF := cFind B b N P gh ch hs gs hs id w hB hT.rt.asc hT.len
  go_enter Try.func51, Try.ntmps51
  go_wp2_with fail
  refine CF.mono ?_
  rintro e w1 ⟨p, rfl, hp, hb1⟩
  clear CF
  replace hp := hide hp
  have H1 := hB.below hb1
  obtain ⟨c0, c1, c2, c3⟩ := H1.cells
  clear c0 c1 c3
  cases hm : maySell hs id
  · have hF : Hid (SellP w B b N P gs bv.1 (.int .i64 bv.2) (.returned (.int .i64 (-1))) w1) := hide (by rw [show bv = (hs, -1) by rw [E.out, if_neg (by simp [hm])]]; exact (hKw hb1).out)
    simp only [maySell, Bool.and_eq_false_iff, decide_eq_false_iff_not, Bool.not_eq_false'] at hm
    by_cases h1 : id < 1
    · clear hB H1 hKw
      go_wp2
      go_ret
      exact hF.out
    · cases h2 : hasI hs id
      · have h3 : (200 : Int) ≤ (hs.length : Int) := by
          rcases hm with (h | h) | h
          · omega
          · omega
          · rw [h2] at h; cases h
        clear hB H1 hKw hm
        go_wp2
        go_ret
        exact hF.out
      · clear hB H1 hKw hm
        go_wp2
        go_ret
        exact hF.out
  have hm' := hm
  simp only [maySell, Bool.and_eq_true, decide_eq_true_eq, Bool.not_eq_true'] at hm'
  obtain ⟨⟨m1, m2⟩, m3⟩ := hm'
  rw [m3]
  have m1' : ¬ id < 1 := by omega
  have m2' : ¬ (200 : Int) ≤ (hs.length : Int) := by omega
  have CS := cSnug B b N P gh ch hs gs hs on off w1 H1 h60 hT.p2
  have hsi := fun h => hide (seatV_in (S := N) (P := P) (hs := hs) (on := on) (off := off) h)
  have hsn := fun h => hide (seatV_neg (S := N) (P := P) (hs := hs) (on := on) (off := off) h)
  generalize hsv : seatV N P hs on off = sv at *
  replace hsv := hide hsv
  go_wp2_with fail
  refine CS.mono ?_
  rintro e w2 ⟨rfl, hb2⟩
  clear CS
  replace hb2 := btrans hb1 hb2
  have H2 := hB.below hb2
  by_cases hs0 : 0 ≤ sv
  rotate_left
  · have he := hsn (by omega)
    have hF : Hid (SellP w B b N P gs bv.1 (.int .i64 bv.2) (.returned (.int .i64 sv)) w2) := hide (by rw [show bv = (hs, -1) by rw [E.out, if_neg (fun h => hs0 h.2)], he.out]; exact (hKw hb2).out)
    have hs0' : ¬ 0 ≤ sv := hs0
    clear hB H1 H2 hKw hsi hsn
    go_wp2
    go_ret
    exact hF.out
  replace E := hide (show bv = (insB ⟨id, sv, on, off⟩ hs, sv) by rw [E.out, if_pos ⟨hm, hs0⟩])
  obtain ⟨q1, q2⟩ := (hsi hs0).out
  obtain ⟨a0, a1, a2⟩ := askB_iff.1 q1
  obtain ⟨f0, f1, f2⟩ := freeK_mem.1 q2
  have hp11 := hT.p2
  obtain ⟨s, rfl⟩ : ∃ s : Nat, sv = s := ⟨sv.toNat, by omega⟩
  obtain ⟨n, rfl⟩ : ∃ n : Nat, on = n := ⟨on.toNat, by omega⟩
  obtain ⟨f, rfl⟩ : ∃ n : Nat, off = n := ⟨off.toNat, by omega⟩
  clear hsi hsn hKw H1 c2 q1 q2 hm
  have hX := balloc w2 (.cells #[.int .i64 id, .int .i64 s, .int .i64 n, .int .i64 f] 78)
  have kX : (w2.alloc (.cells #[.int .i64 id, .int .i64 s, .int .i64 n, .int .i64 f] 78)).heap[w2.heap.size]? = some (.cells #[.int .i64 id, .int .i64 s, .int .i64 n, .int .i64 f] 78 (0, 0)) := heap_alloc_new w2 _
  have H3 := H2.below hX
  have hb3 := btrans hb2 hX
  go_wp2_with fail
  generalize w2.alloc (.cells #[.int .i64 id, .int .i64 s, .int .i64 n, .int .i64 f] 78) = w3 at *
  clear hX
  have hx3 : w2.heap.size < w3.heap.size := lt_of_block kX
  obtain ⟨d0, d1, d2, d3⟩ := H3.cells
  have y0 : w3.cell? ⟨w2.heap.size, 0, none⟩ = some (.int .i64 id) := Go.Joins.cell_of_block kX 0
  have y1 : w3.cell? ⟨w2.heap.size, 1, none⟩ = some (.int .i64 s) := Go.Joins.cell_of_block kX 1
  have y2 : w3.cell? ⟨w2.heap.size, 2, none⟩ = some (.int .i64 n) := Go.Joins.cell_of_block kX 2
  have y3 : w3.cell? ⟨w2.heap.size, 3, none⟩ = some (.int .i64 f) := Go.Joins.cell_of_block kX 3
  have hA := balloc w3 (.cells #[.int .i64 id, .int .i64 s, .int .i64 n, .int .i64 f] 78)
  have H4 : Bk (w3.alloc (.cells #[.int .i64 id, .int .i64 s, .int .i64 n, .int .i64 f] 78)).drew B b N P gh ch hs gs hs := (H3.below hA).below (bdraw (Below.refl _ _) 1)
  have hghl := owns_lt H3.held
  have hb3l : b < w3.heap.size := lt_of_block H3.blk
  have CI := cInsert B gh ch p w3.heap.size hs ⟨id, s, n, f⟩ (w3.alloc (.cells #[.int .i64 id, .int .i64 s, .int .i64 n, .int .i64 f] 78)).drew H4.held (by omega) hp.out.1 (by show B ≤ (w3.alloc _).heap.size; have := hb3.size; have := hA.size; omega) (heap_alloc_new w3 _) (by omega)
  rw [insB_pl hp.out (hasI_no.1 m3)] at CI
  have hgw2 := owns_lt H2.held
  have hgs2 := lt_of_block H2.seats
  have hbw2 := lt_of_block H2.blk
  have hFin : Hid (∀ v' w4, w4.ownsRow B 78 4 v' (hs.length + 1) (flatBks (insB ⟨id, s, n, f⟩ hs)) → (w3.alloc (.cells #[.int .i64 id, .int .i64 s, .int .i64 n, .int .i64 f] 78)).drew.grownBy w4 (Value.slice (some ⟨gh, 0, none⟩) hs.length ch).ownBlock →
      ∃ gh' ch', v' = .slice (some ⟨gh', 0, none⟩) (hs.length + 1) ch' ∧ Bk (w4.setCell ⟨b, 2, none⟩ v') B b N P gh' ch' (insB ⟨id, s, n, f⟩ hs) gs hs ∧ KpT w (w4.setCell ⟨b, 2, none⟩ v') ∧ Below B w (w4.setCell ⟨b, 2, none⟩ v') ∧ (w4.setCell ⟨b, 2, none⟩ v').heap[w2.heap.size]? = some (.cells #[.int .i64 id, .int .i64 s, .int .i64 n, .int .i64 f] 78 (0, 0)) ∧ w4.cell? ⟨b, 2, none⟩ = some (.slice (some ⟨gh, 0, none⟩) hs.length ch) ∧ w4.frozen? ⟨b, 2, none⟩ = false) := hide (fun v' w4 hO hG => by
    obtain ⟨gh', ch', rfl⟩ := own_formS hO
    have hil := insB_len ⟨id, s, n, f⟩ hs
    rw [← hil] at hO ⊢
    obtain ⟨u1, u2, u3, u4, u5⟩ := H4.upd hG hO
    refine ⟨gh', ch', rfl, u1, ((KpT.of_below hb3).trans (KpT.of_below (hA.trans (bdraw (Below.refl _ _) 1)))).trans u2, ((hb3.mono hBw).trans (hA.mono (by have := hb3.size; omega))).trans (((bdraw (Below.refl _ _) 1)).trans u5), ?_, u3, u4⟩
    refine blk_other ?_ (by omega)
    refine (hG.block w2.heap.size (Nat.lt_of_lt_of_le hx3 hA.size) (fun e => by simp only [Value.ownBlock, Option.some.injEq] at e; omega)).trans ?_
    exact (hA.block _ hx3).trans kX)
  clear H4 hA hT hB H2 H3
  go_region_with (first
    | (go_at_call 79; with_reducible refine CI.mono ?_; rintro e w4 hI; obtain ⟨v', rfl, hO, hG⟩ := ins_parts hI; obtain ⟨gh', ch', rfl, U1, U2, U3, U4, z0, z1⟩ := hFin.out v' w4 hO hG))
  all_goals
    generalize w4.setCell ⟨b, 2, none⟩ (.slice (some ⟨gh', 0, none⟩) (hs.length + 1) ch') = w5 at *
    have CH := cHold B b N P gh' ch' (insB ⟨id, s, n, f⟩ hs) gs hs id s n f w5 U1 (by omega) (by omega) (by omega)
    have x0 : w5.cell? ⟨w2.heap.size, 0, none⟩ = some (.int .i64 id) := Go.Joins.cell_of_block U4 0
    have x1 : w5.cell? ⟨w2.heap.size, 1, none⟩ = some (.int .i64 s) := Go.Joins.cell_of_block U4 1
    have x2 : w5.cell? ⟨w2.heap.size, 2, none⟩ = some (.int .i64 n) := Go.Joins.cell_of_block U4 2
    have x3 : w5.cell? ⟨w2.heap.size, 3, none⟩ = some (.int .i64 f) := Go.Joins.cell_of_block U4 3
    clear CI hFin hO hG U4 z0 z1 y0 y1 y2 y3 d0 d1 d2 d3 kX
    go_wp2_with fail
    refine CH.mono ?_
    rintro e w6 ⟨rfl, H6, hg6⟩
    have hF : Hid (SellP w B b N P gs bv.1 (.int .i64 bv.2) (.returned (.int .i64 s)) w6) := hide (by
      rw [E.out]
      exact ⟨gh', ch', rfl, H6.grid (fun s' p' => by rw [heldB_ins, heldB_app]; simp [heldB]), U2.trans (KpT.grow hg6 U1.seats (.inr (.inr rfl))), U3.trans ⟨hg6.os, hg6.tape, hg6.output, hg6.size, fun k hk => hg6.block k (by have := U1.sB; have := lt_of_block U1.seats; omega) (fun e => by cases e; have := U1.sB; omega)⟩⟩)
    clear CH H6 hg6 U1 U2 U3
    go_wp2
    go_ret
    exact hF.out
end Go.Proofs.Ytgnlcehpajbnoaa
