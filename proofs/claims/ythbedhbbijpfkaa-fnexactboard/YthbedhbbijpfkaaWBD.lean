/- The law of Board. -/
import Derived.Test.YthbedhbbijpfkaaBS
import Derived.Test.YthbedhbbijpfkaaMK
namespace Go.Proofs.Ythbedhbbijpfkaa
open Go.RowKit
theorem sort_there (ts : List TripV) (l : List (Nat × Nat)) : ∃ ds, List.Perm ds l ∧ SortX ts ds := by
  have hp := List.pairwise_mergeSort (le := fun x y => !decide (cmpX ts y x < 0)) (fun a b c h1 h2 => by
    simp only [Bool.not_eq_true', decide_eq_false_iff_not, cmpX_lt] at *; omega) (fun a b => by
    simp only [Bool.or_eq_true, Bool.not_eq_true', decide_eq_false_iff_not, cmpX_lt]; omega) l
  have hq := List.mergeSort_perm l (fun x y => !decide (cmpX ts y x < 0))
  generalize l.mergeSort (fun x y => !decide (cmpX ts y x < 0)) = ds at *
  refine ⟨ds, hq, fun i j hij hj => ?_⟩
  have h := List.pairwise_iff_getElem.1 hp i j (by omega) hj hij
  simp only [Bool.not_eq_true', decide_eq_false_iff_not] at h
  rw [show ds.getD j (0, 0) = ds[j] by simp [List.getD, hj], show ds.getD i (0, 0) = ds[i] by simp [List.getD, show i < ds.length by omega]]
  exact h
open Classical in
/-- The board. -/
noncomputable def boardL (ts : List TripV) (node minute cnt : Int) : List EntryV := if BoardOk ts cnt then entL ((Classical.choose (sort_there ts (depsOf ts (wantB node minute)))).take cnt.toNat) else []
theorem sort_one {ts : List TripV} {wn : HaltV → Bool} {ds es : List (Nat × Nat)} (hp : ds.Perm (depsOf ts wn)) (hs : SortX ts ds) (hq : es.Perm (depsOf ts wn)) (ht : SortX ts es) : ds = es := by
  have h := bd_take (sortX_strict hp hs) (sortX_strict hq ht) (fun x hx => hp.symm.subset (hq.subset hx)) (fun x hx hn => absurd (hq.symm.subset (hp.subset hx)) hn)
  rw [h, hq.length_eq, ← hp.length_eq, List.take_length]
theorem board_is {ts : List TripV} {node minute cnt : Int} (ho : BoardOk ts cnt) {ds : List (Nat × Nat)} (hp : ds.Perm (depsOf ts (wantB node minute))) (hs : SortX ts ds) : entL (ds.take cnt.toNat) = boardL ts node minute cnt := by
  have hc := Classical.choose_spec (sort_there ts (depsOf ts (wantB node minute)))
  unfold boardL
  rw [if_pos ho, sort_one hp hs hc.1 hc.2]
theorem boardL_small (ts : List TripV) (node minute cnt : Int) : (boardL ts node minute cnt).length ≤ 50 := by
  unfold boardL
  split
  · next h => rw [entL_len, List.length_take]; have := h.2; omega
  · simp
theorem AnsBoard.one {w w' : World} {ts : List TripV} {node minute cnt : Int} {e : Ending} (h : AnsBoard w ts node minute cnt e w') : ∃ v, e = .returned v ∧ w'.ownsRow w.heap.size 35 2 v (boardL ts node minute cnt).length (flatEntries (boardL ts node minute cnt)) ∧ Below w.heap.size w w' := by
  obtain ⟨hb, ⟨ho, v, ds, rfl, h1, h2, h3⟩ | ⟨hn, rfl⟩⟩ := h
  · refine ⟨v, rfl, ?_, hb⟩
    have e := board_is ho h1 h2
    rw [← e, entL_len]
    exact h3
  · refine ⟨_, rfl, ?_, hb⟩
    have e : boardL ts node minute cnt = [] := by unfold boardL; rw [if_neg hn]
    rw [e]; exact World.ownsRow_nil _ _ _ _
theorem AnsBoardS.one {w w' : World} {ts : List TripV} {node minute cnt : Int} {e : Ending} (h : AnsBoardS w ts node minute cnt e w') : ∃ v, e = .returned v ∧ w'.ownsRow w.heap.size 35 2 v (boardL ts node minute cnt).length (flatEntries (boardL ts node minute cnt)) ∧ Below w.heap.size w w' := by
  obtain ⟨hb, ⟨ho, v, out, rfl, h1, h2, h3⟩ | ⟨hn, rfl⟩⟩ := h
  · obtain ⟨ds, p1, p2⟩ := sort_there ts (depsOf ts (wantB node minute))
    have e1 := board_one p1 p2 h1 cnt.toNat h2
    have e := board_is ho p1 p2
    rw [← e1] at e
    refine ⟨v, rfl, ?_, hb⟩
    rw [← e, entL_len]
    exact h3
  · refine ⟨_, rfl, ?_, hb⟩
    have e : boardL ts node minute cnt = [] := by unfold boardL; rw [if_neg hn]
    rw [e]; exact World.ownsRow_nil _ _ _ _
theorem grow_below {w0 w w' : World} {r : Option Nat} (hb : Below w0.heap.size w0 w) (h : w.grownBy w' r) (hr : ∀ k, r = some k → w0.heap.size ≤ k) : Below w0.heap.size w0 w' :=
  ⟨h.os.trans hb.os, h.tape.trans hb.tape, h.output.trans hb.output, Nat.le_trans hb.size h.size, fun k hk => (h.block k (Nat.lt_of_lt_of_le hk hb.size) (fun e => by have := hr k e.symm; omega)).trans (hb.block k hk)⟩
theorem far_blk {w w' : World} {r : Option Nat} (hgr : w.grownBy w' r) {b : Nat} {o : Obj} (h : w.heap[b]? = some o) (hne : ∀ j, r = some j → j ≠ b) : w'.heap[b]? = some o :=
  (hgr.block b (lt_of_block h) (fun e => hne b e.symm rfl)).trans h
theorem span_blk {g hi : Nat} {w w' : World} (hs : Span g hi w w') {b : Nat} {o : Obj} (h : w.heap[b]? = some o) (hne : b < g ∨ hi ≤ b) : w'.heap[b]? = some o :=
  (hs.block b (lt_of_block h) hne).trans h
theorem TripsApart.far {w w' : World} {g hi : Nat} {ts : List TripV} {r : Nat} (h : TripsApart w g hi ts) (hg : w.grownBy w' (some r)) (hr : r < g) : TripsApart w' g hi ts := by
  obtain ⟨vs, h1, h2, h3, h4⟩ := h
  refine ⟨vs, h1, own_far h2 hg (fun k hk e => by cases e; simp [Value.ownBlock] at hk; omega), fun j hj => ?_, h4⟩
  obtain ⟨t1, a, c, t2, t3⟩ := h3 j hj
  exact ⟨t1, a, c, t2, own_far t3 hg (fun k hk e => by cases e; have := own_from t3 (Nat.le_refl _) _ hk; omega)⟩


set_option maxRecDepth 20000 in
set_option maxHeartbeats 6400000 in
theorem walkBoard (ta : Option Addr) (tc : Nat) (ts : List TripV) (node minute cnt : Int) (w : World) (hz : Trips w ta ts) (hB : Big ts) :
    Calls Try.prog 4 #[.slice ta ts.length tc, .int .i64 node, .int .i64 minute, .int .i64 cnt] w fun e w' => e = .returned (.bool true) ∧ Below w.heap.size w w' := by
  go_enter Try.func4, Try.ntmps4
  go_wp2_with fail
  refine (cSzTrips ta tc ts 1048576 _ hz (by omega) (by omega) hB).mono ?_
  rintro e w2 ⟨r', rfl, hr, HB⟩
  rcases hr with rfl | ⟨hr3, hr4, hS⟩
  · go_wp2
    go_ret
    exact ⟨rfl, HB⟩
  have hr5 : ¬ r' < 0 := by omega
  clear hr4 hB
  go_wp2_with fail
  refine (cToTrips ta tc ts _ (hz.below HB) hS).mono ?_
  rintro e w4 ⟨rfl, o1, hb⟩
  replace HB := btrans HB hb
  clear hb
  go_wp2_with fail
  refine (cBoardS _ _ ts node minute cnt _ o1.read hS).mono ?_
  rintro e w5 hA5
  obtain ⟨v5, rfl, O5, hb⟩ := hA5.one
  have hs5 := HB.size
  replace HB := btrans HB hb
  have hLn := hide (boardL_small ts node minute cnt)
  generalize hLL : boardL ts node minute cnt = L at *
  replace hLL := hide hLL
  replace O5 := own_base O5 hs5
  have hB5 := own_blk_lt O5
  clear hb o1 hA5 hs5
  go_wp2_with fail
  refine (cToTripsA ta tc ts _ (hz.below HB) hS).mono ?_
  rintro e w7 ⟨rfl, o2, T2, hb⟩
  have hs7 := hb.size
  have hg7 : w5.heap.size < w7.heap.size := by obtain ⟨_, _, h, _⟩ := o2; exact owns_lt h
  replace O5 := own_keep O5 hb
  have hsw := HB.size
  replace HB := btrans HB hb
  clear hb
  go_wp2_with fail
  refine (cBoardI _ _ ts node minute cnt _ o2.read hS).mono ?_
  rintro e w8 hA8
  obtain ⟨v8, rfl, O8, hb⟩ := hA8.one
  rw [hLL.out] at O8
  have hB8 := own_from O8 (Nat.le_refl _)
  replace O5 := own_keep O5 hb
  replace T2 := T2.below hb
  clear hA8
  replace HB := btrans HB hb
  replace o2 := o2.below hb
  clear hb
  have hL20 : L.length ≤ 1048576 := by have := hLn.out; omega
  go_wp2_with fail
  refine (cEqEntriesn L.length _ _ v8 v5 L _ (.inl O8) (.inl O5) hL20).mono ?_
  rintro e w8b ⟨rfl, hb⟩
  replace HB := btrans HB hb
  replace o2 := o2.below hb
  replace T2 := T2.below hb
  replace O5 := own_keep O5 hb
  replace O8 := own_keep O8 hb
  clear hb
  go_wp2_with fail
  refine (cToTrips ta tc ts _ (hz.below HB) hS).mono ?_
  rintro e w9 ⟨rfl, o3, hb⟩
  replace HB := btrans HB hb
  replace o2 := o2.below hb
  replace T2 := T2.below hb
  replace O5 := own_keep O5 hb
  replace O8 := own_keep O8 hb
  clear hb
  go_wp2_with fail
  refine (cEqTrips _ _ _ _ ts _ o2.read o3.read hS).mono ?_
  rintro e w10 ⟨rfl, hb⟩
  replace HB := btrans HB hb
  replace T2 := T2.below hb
  replace O5 := own_keep O5 hb
  replace O8 := own_keep O8 hb
  clear hb o2 o3
  have hbl5 : ∀ k, v5.ownBlock = some k → k < w5.heap.size := hB5
  go_wp2_with fail
  refine (cMarkTrips _ _ ts _ _ T2 (by omega) hS (by omega) (by omega)).mono ?_
  rintro e w12 ⟨k12, rfl, hk12, S12⟩
  have hk0 : ¬ k12 < 0 := by omega
  replace hk12 := hide hk12
  replace O5 := own_span O5 S12 (fun k hk => .inl (by have := hbl5 _ hk; omega))
  replace O8 := own_span O8 S12 (fun k hk => .inr (hB8 _ hk))
  replace HB := S12.below HB (by omega)
  clear S12 T2
  go_wp2_with fail
  refine (cEqEntriesn L.length _ _ v8 v5 L _ (.inl O8) (.inl O5) hL20).mono ?_
  rintro e w13 ⟨rfl, hb⟩
  replace HB := btrans HB hb
  replace O5 := own_keep O5 hb
  replace O8 := own_keep O8 hb
  clear hb
  go_wp2_with fail
  refine (cMarkEntries _ L.length v8 L 1 _ (.inl O8) hL20 (by omega) (by omega)).mono ?_
  rintro e w14 ⟨rfl, R8, r, G14, hr⟩
  replace O5 := own_far O5 G14 (fun k hk e => by have h1 := hbl5 _ hk; have h2 := hB8 k (hr k e.symm).2; omega)
  replace HB := grow_below HB G14 (fun k e => by have h2 := hB8 k (hr k e).2; omega)
  clear G14 O8
  have hneg : ¬ ((1 : Int) + 2 * (L.length : Int) < 0) := by omega
  go_wp2_with fail
  refine (cHeldEntries _ L.length v8 1 _ R8 hL20 (by omega) (by omega)).mono ?_
  rintro e w15 ⟨rfl, hw⟩
  subst w15
  go_wp2_with fail
  refine (cToTrips ta tc ts _ (hz.below HB) hS).mono ?_
  rintro e w17 ⟨rfl, o4, hb⟩
  replace HB := btrans HB hb
  replace O5 := own_keep O5 hb
  replace R8 := R8.keep hb
  clear hb
  go_wp2_with fail
  refine (cBoardI _ _ ts node minute cnt _ o4.read hS).mono ?_
  rintro e w18 hA
  obtain ⟨v9, rfl, O9, hb⟩ := hA.one
  rw [hLL.out] at O9
  replace HB := btrans HB hb
  replace O5 := own_keep O5 hb
  replace R8 := R8.keep hb
  clear hb hA o4
  go_wp2_with fail
  refine (cEqEntriesn L.length _ _ v9 v5 L _ (.inl O9) (.inl O5) hL20).mono ?_
  rintro e w19 ⟨rfl, hb⟩
  replace HB := btrans HB hb
  replace R8 := R8.keep hb
  clear hb O9 O5
  go_wp2_with fail
  refine (cHeldEntries _ L.length v8 1 _ R8 hL20 (by omega) (by omega)).mono ?_
  rintro e w20 ⟨rfl, hw⟩
  subst w20
  go_wp2
  go_ret
  exact ⟨rfl, HB⟩
end Go.Proofs.Ythbedhbbijpfkaa
