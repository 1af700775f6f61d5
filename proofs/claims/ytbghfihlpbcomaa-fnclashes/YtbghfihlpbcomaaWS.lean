/- Uses of the program; the walk of the law on Uses. -/
import Derived.Test.YtbghfihlpbcomaaWR
import Derived.Test.YtbghfihlpbcomaaUC
import Derived.Test.YtbghfihlpbcomaaMK
namespace Go.Proofs.Ytbghfihlpbcomaa
open Go.RowKit
open Classical in
/-- What Uses answers. -/
noncomputable def lstU (n : Int) (es : List EdgeV) (ts : List TripV) : List RideV := if Ridden n es ts then usesL es ts else []
theorem lstU_small (n : Int) (es : List EdgeV) (ts : List TripV) : (lstU n es ts).length ≤ 264 := by
  unfold lstU
  split
  · next h =>
    have h1 := usesTo_small (es := es) h.2.1 ts.length (Nat.le_refl _)
    have h2 := h.2.1.1
    unfold usesL
    omega
  · simp
theorem AnsRides.one {w w' : World} {n : Int} {es : List EdgeV} {ts : List TripV} {e : Ending} (h : AnsRides w n es ts e w') :
    ∃ v, e = .returned v ∧ w'.ownsRow w.heap.size 41 5 v (lstU n es ts).length (flatRides (lstU n es ts)) ∧ Below w.heap.size w w' := by
  obtain ⟨hb, ⟨hR, v, rfl, ho⟩ | ⟨hR, rfl⟩⟩ := h
  · exact ⟨v, rfl, by unfold lstU; rw [if_pos hR]; exact ho, hb⟩
  · exact ⟨_, rfl, by unfold lstU; rw [if_neg hR]; exact World.ownsRow_nil _ _ _ _, hb⟩
set_option maxHeartbeats 1600000 in
theorem cUsesI (a : Option Addr) (cap : Nat) (n : Int) (es : List EdgeV) (ta : Option Addr) (tc : Nat) (ts : List TripV) (w : World) (he : Edges w a es) (hl : es.length ≤ 1048576) (hz : Trips w ta ts) (hS : Small ts) :
    Calls Try.prog 14 #[.agg #[.int .i64 n, .slice a es.length cap], .slice ta ts.length tc] w (AnsRides w n es ts) := by
  have hW := balloc w (.cells #[.int .i64 n, .slice a es.length cap] 26)
  have hsz : (w.alloc (.cells #[.int .i64 n, .slice a es.length cap] 26)).heap.size = w.heap.size + 1 := sz1 _ _
  go_enter Try.func14, Try.ntmps14
  go_wp2_with fail
  refine (cUsesOf a cap n es ta tc ts _ (he.below hW) hl (hz.below hW) hS).mono ?_
  rintro e w1 ⟨hb1, hA⟩
  have HB := btrans hW hb1
  clear hW hb1
  rcases hA with ⟨hR, v, rfl, ho⟩ | ⟨hR, rfl⟩
  · replace hR := hide hR
    replace ho := hide (own_base ho (by rw [hsz]; omega : w.heap.size ≤ _))
    clear hsz
    go_wp2
    go_ret
    exact ⟨HB, .inl ⟨hR.out, v, rfl, ho.out⟩⟩
  · replace hR := hide hR
    clear hsz
    go_wp2
    go_ret
    exact AnsRides.no hR.out HB
set_option maxHeartbeats 800000 in
theorem cMarkNet (B g : Nat) (n : Int) (es : List EdgeV) (w : World) (ho : OwnNet B w g es) (hl : es.length ≤ 1048576) :
    Calls Try.prog 32 #[.agg #[.int .i64 n, .slice (some ⟨g, 0, none⟩) es.length es.length], .int .i64 1] w fun e w' => e = .returned (.int .i64 (1 + 4 * es.length)) ∧ w.grownBy w' (some g) := by
  have hb := balloc w (.cells #[.int .i64 n, .slice (some ⟨g, 0, none⟩) es.length es.length] 26)
  go_enter Try.func32, Try.ntmps32
  go_wp2_with fail
  refine (cMarkEdgesg B g es.length es 1 _ (ho.below hb) hl (by omega) (by omega)).mono ?_
  rintro e w1 ⟨rfl, -, hgr⟩
  go_wp2
  go_ret
  exact ⟨rfl, gtrans (gof hb) hgr⟩
theorem grow_below {w0 w w' : World} {r : Option Nat} (hb : Below w0.heap.size w0 w) (h : w.grownBy w' r) (hr : ∀ k, r = some k → w0.heap.size ≤ k) : Below w0.heap.size w0 w' :=
  ⟨h.os.trans hb.os, h.tape.trans hb.tape, h.output.trans hb.output, Nat.le_trans hb.size h.size, fun k hk => (h.block k (Nat.lt_of_lt_of_le hk hb.size) (fun e => by have := hr k e.symm; omega)).trans (hb.block k hk)⟩
theorem far_blk {w w' : World} {r : Option Nat} (hgr : w.grownBy w' r) {b : Nat} {o : Obj} (h : w.heap[b]? = some o) (hne : ∀ j, r = some j → j ≠ b) : w'.heap[b]? = some o :=
  (hgr.block b (lt_of_block h) (fun e => hne b e.symm rfl)).trans h
theorem span_blk {g hi : Nat} {w w' : World} (hs : Span g hi w w') {b : Nat} {o : Obj} (h : w.heap[b]? = some o) (hne : b < g ∨ hi ≤ b) : w'.heap[b]? = some o :=
  (hs.block b (lt_of_block h) hne).trans h
theorem TripsApart.far {w w' : World} {g hi : Nat} {ts : List TripV} {r : Nat} (h : TripsApart w g hi ts) (hg : w.grownBy w' (some r)) (hr : r < g) : TripsApart w' g hi ts := by
  obtain ⟨vs, h1, h2, h3, h4⟩ := h
  refine ⟨vs, h1, own_far h2 hg (fun k hk e => by cases e; simp [Value.ownBlock] at hk; omega), fun j hj => ?_, h4⟩
  obtain ⟨t1, a, c, t2, t3⟩ := h3 j hj
  exact ⟨t1, a, c, t2, own_far t3 hg (fun k hk e => by cases e; have := own_from t3 (Nat.le_refl _) _ hk; omega)⟩

set_option maxRecDepth 20000 in
set_option maxHeartbeats 6400000 in
theorem walkUses (n : Int) (a : Option Addr) (p : Nat) (es : List EdgeV) (ta : Option Addr) (tc : Nat) (ts : List TripV) (w : World) (he : Edges w a es) (hn : es.length ≤ maxLen) (hz : Trips w ta ts) (hB : Big ts) :
    Calls Try.prog 6 #[.agg #[.int .i64 n, .slice a es.length p], .slice ta ts.length tc] w fun e w' => e = .returned (.bool true) ∧ Below w.heap.size w w' := by
  have A0 := one_block w (.cells #[.int .i64 n, .slice a es.length p] 48)
  have HB := balloc w (.cells #[.int .i64 n, .slice a es.length p] 48)
  go_enter Try.func6, Try.ntmps6
  go_wp2_with fail
  refine (cSzNet a es.length p _ 1048576 _ (by omega) (by omega) hn).mono ?_
  rintro e w1 ⟨r, rfl, hr, hb⟩
  replace HB := btrans HB hb
  replace A0 := blk_keep hb A0
  clear hb
  rcases hr with rfl | ⟨hr, hr0⟩
  · go_wp2
    go_ret
    exact ⟨rfl, HB⟩
  have hl : es.length ≤ 1048576 := by omega
  have hr1 : r ≤ 1048576 := by omega
  have hr2 : ¬ r < 0 := by omega
  clear hr
  go_wp2_with fail
  refine (cSzTrips ta tc ts r _ (hz.below HB) hr0 hr1 hB).mono ?_
  rintro e w2 ⟨r', rfl, hr, hb⟩
  replace HB := btrans HB hb
  replace A0 := blk_keep hb A0
  clear hb
  rcases hr with rfl | ⟨hr3, hr4, hS⟩
  · go_wp2
    go_ret
    exact ⟨rfl, HB⟩
  have hr5 : ¬ r' < 0 := by omega
  clear hr4 hB
  obtain ⟨⟨x0, x1⟩, -⟩ := blk2 A0
  go_wp2_with fail
  refine (cToNet a p n es _ (he.below HB) hl).mono ?_
  rintro e w3 ⟨g1, rfl, N1, hb⟩
  replace HB := btrans HB hb
  replace A0 := blk_keep hb A0
  clear hb x0 x1
  go_wp2_with fail
  refine (cToTrips ta tc ts _ (hz.below HB) hS).mono ?_
  rintro e w4 ⟨rfl, o1, hb⟩
  replace HB := btrans HB hb
  replace A0 := blk_keep hb A0
  replace N1 := N1.below hb
  clear hb
  go_wp2_with fail
  refine (cUsesS _ _ n es _ _ ts _ N1.edges hl o1.read hS).mono ?_
  rintro e w5 hA5
  obtain ⟨v5, rfl, O5, hb⟩ := hA5.one
  have hs5 := HB.size
  replace HB := btrans HB hb
  replace A0 := blk_keep hb A0
  have hLn := hide (lstU_small n es ts)
  generalize hLL : lstU n es ts = L at *
  replace hLL := hide hLL
  replace O5 := own_base O5 hs5
  have hB5 := own_blk_lt O5
  have hA5lt := lt_of_block A0
  clear hb N1 o1 hA5 hs5
  obtain ⟨⟨x0, x1⟩, -⟩ := blk2 A0
  go_wp2_with fail
  refine (cToNet a p n es _ (he.below HB) hl).mono ?_
  rintro e w6 ⟨g2, rfl, N2, hb⟩
  have hs6 := HB.size
  have hg2 := own_from N2 (Nat.le_refl _) g2 rfl
  have hs6b := hb.size
  replace O5 := own_keep O5 hb
  replace HB := btrans HB hb
  replace A0 := blk_keep hb A0
  clear hb x0 x1
  have X0 := one_block w6 (.cells #[.int .i64 n, .slice (some ⟨g2, 0, none⟩) es.length es.length] 26)
  have hb6 := balloc w6 (.cells #[.int .i64 n, .slice (some ⟨g2, 0, none⟩) es.length es.length] 26)
  replace HB := btrans HB hb6
  replace A0 := blk_keep hb6 A0
  replace N2 := N2.below hb6
  replace O5 := own_keep O5 hb6
  clear hb6
  go_wp2_with fail
  refine (cToTripsA ta tc ts _ (hz.below HB) hS).mono ?_
  rintro e w7 ⟨rfl, o2, T2, hb⟩
  rw [sz1] at o2 T2
  have hs7 := hb.size
  rw [sz1] at hs7
  have hg7 : w6.heap.size + 1 < w7.heap.size := by obtain ⟨_, _, h, _⟩ := o2; exact owns_lt h
  have hg2' := owns_lt N2
  rw [sz1] at hg2'
  replace O5 := own_keep O5 hb
  replace HB := btrans HB hb
  replace A0 := blk_keep hb A0
  replace X0 := blk_keep hb X0
  replace N2 := N2.below hb
  clear hb
  obtain ⟨⟨x0, x1⟩, -⟩ := blk2 X0
  go_wp2_with fail
  refine (cUsesI _ _ n es _ _ ts _ N2.edges hl o2.read hS).mono ?_
  rintro e w8 hA8
  obtain ⟨v8, rfl, O8, hb⟩ := hA8.one
  rw [hLL.out] at O8
  have hB8 := own_from O8 (Nat.le_refl _)
  replace O5 := own_keep O5 hb
  replace T2 := T2.below hb
  clear hA8
  replace HB := btrans HB hb
  replace A0 := blk_keep hb A0
  replace X0 := blk_keep hb X0
  replace N2 := N2.below hb
  replace o2 := o2.below hb
  clear hb x0 x1
  have hL20 : L.length ≤ 1048576 := by have := hLn.out; omega
  go_wp2_with fail
  refine (cEqRidesn L.length _ _ v8 v5 L _ (.inl O8) (.inl O5) hL20).mono ?_
  rintro e w8b ⟨rfl, hb⟩
  replace HB := btrans HB hb
  replace A0 := blk_keep hb A0
  replace X0 := blk_keep hb X0
  replace N2 := N2.below hb
  replace o2 := o2.below hb
  replace T2 := T2.below hb
  replace O5 := own_keep O5 hb
  replace O8 := own_keep O8 hb
  clear hb
  obtain ⟨⟨x0, x1⟩, -⟩ := blk2 X0
  obtain ⟨⟨y0, y1⟩, -⟩ := blk2 A0
  have hE := he.below HB.drew
  go_wp2_with fail
  go_region_held3 (fun w' => w'.cell? ⟨w6.heap.size, 0, none⟩ = some (.int .i64 n) ∧ w'.cell? ⟨w6.heap.size, 1, none⟩ = some (.slice (some ⟨g2, 0, none⟩) es.length es.length) ∧ w'.cell? ⟨w.heap.size, 0, none⟩ = some (.int .i64 n) ∧ w'.cell? ⟨w.heap.size, 1, none⟩ = some (.slice a es.length p)) (go_keep) (first
    | (go_at_call 28; with_reducible refine (cEqNet _ _ _ _ n es _ P2 P3 hl).mono ?_; rintro e wb ⟨rfl, hbb⟩; have Bb := btrans Bp hbb; clear hbb; obtain ⟨⟨v0, v1⟩, -⟩ := blk2 (blk_keep Bb X0); obtain ⟨⟨v2, v3⟩, -⟩ := blk2 (blk_keep Bb A0))
    | (go_at_call 25; with_reducible refine (cToNet a p n es _ hE hl).mono ?_; rintro e wp ⟨g4, rfl, N3, hbp⟩; have Bp := undrew hbp; have P2 := (N2.below Bp).edges; have P3 := N3.edges; clear hbp; obtain ⟨⟨v0, v1⟩, -⟩ := blk2 (blk_keep Bp X0); obtain ⟨⟨v2, v3⟩, -⟩ := blk2 (blk_keep Bp A0)))
  clear v0 v1 v2 v3 P2 P3 N3
  replace HB := btrans HB Bb
  replace o2 := o2.below Bb
  replace T2 := T2.below Bb
  replace N2 := N2.below Bb
  replace O5 := own_keep O5 Bb
  replace O8 := own_keep O8 Bb
  replace A0 := blk_keep Bb A0
  replace X0 := blk_keep Bb X0
  clear Bb Bp hE x0 x1 y0 y1
  go_wp2_with fail
  refine (cToTrips ta tc ts _ (hz.below HB) hS).mono ?_
  rintro e w9 ⟨rfl, o3, hb⟩
  replace HB := btrans HB hb
  replace o2 := o2.below hb
  replace T2 := T2.below hb
  replace N2 := N2.below hb
  replace O5 := own_keep O5 hb
  replace O8 := own_keep O8 hb
  replace A0 := blk_keep hb A0
  replace X0 := blk_keep hb X0
  clear hb
  go_wp2_with fail
  refine (cEqTrips _ _ _ _ ts _ o2.read o3.read hS).mono ?_
  rintro e w10 ⟨rfl, hb⟩
  replace HB := btrans HB hb
  replace T2 := T2.below hb
  replace N2 := N2.below hb
  replace O5 := own_keep O5 hb
  replace O8 := own_keep O8 hb
  replace A0 := blk_keep hb A0
  replace X0 := blk_keep hb X0
  clear hb o2 o3
  obtain ⟨⟨x0, x1⟩, -⟩ := blk2 X0
  go_wp2_with fail
  refine (cMarkNet _ g2 n es _ N2 hl).mono ?_
  rintro e w11 ⟨rfl, G11⟩
  clear x0 x1
  have hbl5 : ∀ k, v5.ownBlock = some k → k < w5.heap.size := hB5
  replace T2 := T2.far G11 (by omega)
  replace O5 := own_far O5 G11 (fun k hk e => by cases e; have := hbl5 _ hk; omega)
  replace O8 := own_far O8 G11 (fun k hk e => by cases e; have := hB8 _ hk; omega)
  replace A0 := far_blk G11 A0 (fun j e => by cases e; omega)
  replace HB := grow_below HB G11 (fun k e => by cases e; omega)
  clear G11 N2 X0
  go_wp2_with fail
  refine (cMarkTrips _ _ ts _ _ T2 (by omega) hS (by omega) (by omega)).mono ?_
  rintro e w12 ⟨k12, rfl, hk12, S12⟩
  have hk0 : ¬ k12 < 0 := by omega
  replace hk12 := hide hk12
  replace O5 := own_span O5 S12 (fun k hk => .inl (by have := hbl5 _ hk; omega))
  replace O8 := own_span O8 S12 (fun k hk => .inr (hB8 _ hk))
  replace A0 := span_blk S12 A0 (.inl (by omega))
  replace HB := S12.below HB (by omega)
  clear S12 T2
  go_wp2_with fail
  refine (cEqRidesn L.length _ _ v8 v5 L _ (.inl O8) (.inl O5) hL20).mono ?_
  rintro e w13 ⟨rfl, hb⟩
  replace HB := btrans HB hb
  replace A0 := blk_keep hb A0
  replace O5 := own_keep O5 hb
  replace O8 := own_keep O8 hb
  clear hb
  go_wp2_with fail
  refine (cMarkRides _ L.length v8 L 1 _ (.inl O8) hL20 (by omega) (by omega)).mono ?_
  rintro e w14 ⟨rfl, R8, r, G14, hr⟩
  replace O5 := own_far O5 G14 (fun k hk e => by have h1 := hbl5 _ hk; have h2 := hB8 k (hr k e.symm).2; omega)
  replace A0 := far_blk G14 A0 (fun j e => by have h2 := hB8 j (hr j e).2; omega)
  replace HB := grow_below HB G14 (fun k e => by have h2 := hB8 k (hr k e).2; omega)
  clear G14 O8
  have hneg : ¬ ((1 : Int) + 5 * (L.length : Int) < 0) := by omega
  go_wp2_with fail
  refine (cHeldRides _ L.length v8 1 _ R8 hL20 (by omega) (by omega)).mono ?_
  rintro e w15 ⟨rfl, hw⟩
  subst w15
  obtain ⟨⟨x0, x1⟩, -⟩ := blk2 A0
  go_wp2_with fail
  refine (cToNet a p n es _ (he.below HB) hl).mono ?_
  rintro e w16 ⟨g4, rfl, N4, hb⟩
  replace HB := btrans HB hb
  replace O5 := own_keep O5 hb
  replace R8 := R8.keep hb
  clear hb x0 x1 A0
  go_wp2_with fail
  refine (cToTrips ta tc ts _ (hz.below HB) hS).mono ?_
  rintro e w17 ⟨rfl, o4, hb⟩
  replace HB := btrans HB hb
  replace O5 := own_keep O5 hb
  replace R8 := R8.keep hb
  replace N4 := N4.below hb
  clear hb
  go_wp2_with fail
  refine (cUsesI _ _ n es _ _ ts _ N4.edges hl o4.read hS).mono ?_
  rintro e w18 hA
  obtain ⟨v9, rfl, O9, hb⟩ := hA.one
  rw [hLL.out] at O9
  replace HB := btrans HB hb
  replace O5 := own_keep O5 hb
  replace R8 := R8.keep hb
  clear hb hA N4 o4
  go_wp2_with fail
  refine (cEqRidesn L.length _ _ v9 v5 L _ (.inl O9) (.inl O5) hL20).mono ?_
  rintro e w19 ⟨rfl, hb⟩
  replace HB := btrans HB hb
  replace R8 := R8.keep hb
  clear hb O9 O5
  go_wp2_with fail
  refine (cHeldRides _ L.length v8 1 _ R8 hL20 (by omega) (by omega)).mono ?_
  rintro e w20 ⟨rfl, hw⟩
  subst w20
  clear R8
  go_wp2
  go_ret
  exact ⟨rfl, HB⟩
end Go.Proofs.Ytbghfihlpbcomaa
