/- What is settled of a timetable: the mathematics. -/
import Derived.Test.YtbghfihlpbcomaaGreatPQ
import Derived.Deep.RegionHeld3
import Derived.Maps.AppendAt
import Derived.Test.YtbghfihlpbcomaaGreatUB
import Derived.BigQuiet
namespace Go.Proofs.YtbghfihlpbcomaaGreat
theorem sm_app {ts : List TripV} {t : TripV} {i : Nat} (h : i < ts.length) : (ts ++ [t]).getD i TripV.zero = ts.getD i TripV.zero := by simp [List.getD, List.getElem?_append_left h]
theorem sm_end {ts : List TripV} {t : TripV} : (ts ++ [t]).getD ts.length TripV.zero = t := by simp [List.getD]
/-- Settled up to the k-th trip: out, moved by ms. -/
inductive SetTo (n : Int) (es : List EdgeV) (ts : List TripV) (h : Int) : Nat → List TripV → List Int → Prop
  | nil : SetTo n es ts h 0 [] []
  | snoc {k : Nat} {out : List TripV} {ms : List Int} {r : Int} : SetTo n es ts h k out ms → k < ts.length → PushAns n es out (ts.getD k TripV.zero) h r → 0 ≤ r → SetTo n es ts h (k + 1) (out ++ [movedT (ts.getD k TripV.zero) r]) (ms ++ [r])
/-- What Settle answers. -/
def SetA (n : Int) (es : List EdgeV) (ts : List TripV) (h : Int) (out : List TripV) (ms : List Int) : Prop :=
  SetTo n es ts h ts.length out ms ∨ ∃ k o m, SetTo n es ts h k o m ∧ k < ts.length ∧ PushAns n es o (ts.getD k TripV.zero) h (-1) ∧ out = [] ∧ ms = []
section
variable {n : Int} {es : List EdgeV} {ts : List TripV} {h : Int}
theorem SetTo.len {k : Nat} {out : List TripV} {ms : List Int} (a : SetTo n es ts h k out ms) : out.length = k ∧ ms.length = k := by
  induction a with
  | nil => exact ⟨rfl, rfl⟩
  | snoc _ _ _ _ ih => simp [ih.1, ih.2]
theorem SetTo.uniq {k : Nat} {out out' : List TripV} {ms ms' : List Int} (a : SetTo n es ts h k out ms) (b : SetTo n es ts h k out' ms') : out = out' ∧ ms = ms' := by
  induction a generalizing out' ms' with
  | nil => cases b; exact ⟨rfl, rfl⟩
  | snoc _ _ hp _ ih =>
    cases b with
    | snoc b1 _ hq _ =>
      obtain ⟨rfl, rfl⟩ := ih b1
      obtain rfl := hp.uniq hq
      exact ⟨rfl, rfl⟩
theorem SetTo.at {K : Nat} {out : List TripV} {ms : List Int} (a : SetTo n es ts h K out ms) {k : Nat} (hk : k < K) : ∃ o m r, SetTo n es ts h k o m ∧ PushAns n es o (ts.getD k TripV.zero) h r ∧ 0 ≤ r ∧ out.getD k TripV.zero = movedT (ts.getD k TripV.zero) r ∧ ms.getD k 0 = r ∧ k < ts.length := by
  induction a with
  | nil => omega
  | @snoc K out ms r a hK hp hr ih =>
    obtain ⟨l1, l2⟩ := a.len
    by_cases e : k = K
    · subst e
      refine ⟨out, ms, r, a, hp, hr, ?_, ?_, hK⟩
      · have := sm_end (ts := out) (t := movedT (ts.getD k TripV.zero) r)
        rw [l1] at this; exact this
      · simp [List.getD, ← l2]
    · obtain ⟨o, m, r', h1, h2, h3, h4, h5, h6⟩ := ih (by omega)
      refine ⟨o, m, r', h1, h2, h3, ?_, ?_, h6⟩
      · rw [sm_app (by omega)]; exact h4
      · rw [← h5]; simp only [List.getD]; rw [List.getElem?_append_left (by omega)]
theorem SetA.uniq {out out' : List TripV} {ms ms' : List Int} (a : SetA n es ts h out ms) (b : SetA n es ts h out' ms') : out = out' ∧ ms = ms' := by
  rcases a with a | ⟨k, o, m, a1, a2, a3, rfl, rfl⟩ <;> rcases b with b | ⟨k', o', m', b1, b2, b3, rfl, rfl⟩
  · exact a.uniq b
  · obtain ⟨o, m, r, h1, h2, h3, _⟩ := a.at b2
    obtain ⟨rfl, rfl⟩ := h1.uniq b1
    have := h2.uniq b3
    omega
  · obtain ⟨o, m, r, h1, h2, h3, _⟩ := b.at a2
    obtain ⟨rfl, rfl⟩ := h1.uniq a1
    have := h2.uniq a3
    omega
  · exact ⟨rfl, rfl⟩
theorem PushAns.yes {t : TripV} {r : Int} (a : PushAns n es ts t h r) (hr : 0 ≤ r) : ∃ k : Nat, k ≤ 120 ∧ r = k ∧ CleanP n es ts h ∧ PushAt n es ts t h k := by
  rcases a with ⟨_, a2⟩ | ⟨a1, ⟨k, a2, a3, a4, a5⟩ | ⟨a2, _⟩⟩
  · omega
  · exact ⟨k, a2, a3, a1, a4⟩
  · omega
theorem PushAns.small {t : TripV} {r : Int} (a : PushAns n es ts t h r) : -1 ≤ r ∧ r ≤ 120 := by
  rcases a with ⟨_, a2⟩ | ⟨a1, ⟨k, a2, a3, a4, a5⟩ | ⟨a2, _⟩⟩ <;> omega
theorem SetTo.clean {k : Nat} {out : List TripV} {ms : List Int} (a : SetTo n es ts h (k + 1) out ms) : CleanP n es out h := by
  cases a with
  | snoc a1 a2 a3 a4 =>
    obtain ⟨q, _, rfl, _, hP⟩ := a3.yes a4
    exact hP
theorem movedT_ok {t : TripV} {x : Int} (a : tripB (movedT t x) = true) : tripB t = true ∧ movedT t x = ⟨t.name, movedL x t.calls⟩ := by
  unfold movedT at a ⊢
  by_cases c : tripB t = true ∧ inB x (-100000) 100000 = true
  · rw [if_pos c] at a ⊢
    unfold ifOk at a ⊢
    by_cases d : tripB ⟨t.name, movedL x t.calls⟩ = true
    · rw [if_pos d]; exact ⟨c.1, rfl⟩
    · rw [if_neg d] at a; rw [okTrip_zero] at a; cases a
  · rw [if_neg c] at a; rw [okTrip_zero] at a; cases a
theorem movedL_node {x : Int} {cs : List HaltV} {j : Nat} (hj : j < cs.length) : ((movedL x cs).getD j HaltV.zero).n = (cs.getD j HaltV.zero).n := by
  simp [movedL, List.getD, hj]
theorem SetTo.ridden {out : List TripV} {ms : List Int} (a : SetTo n es ts h ts.length out ms) (hne : 0 < ts.length) : Ridden n es ts := by
  obtain ⟨l1, l2⟩ := a.len
  have hc : CleanP n es out h := by
    obtain ⟨q, hq⟩ : ∃ q, ts.length = q + 1 := ⟨ts.length - 1, by omega⟩
    rw [hq] at a; exact a.clean
  obtain ⟨⟨hN, ⟨t1, t2, t3⟩, hR⟩, -, -⟩ := hc
  have key : ∀ i, i < ts.length → tripB (ts.getD i TripV.zero) = true ∧ ∃ x, out.getD i TripV.zero = ⟨(ts.getD i TripV.zero).name, movedL x (ts.getD i TripV.zero).calls⟩ := by
    intro i hi
    obtain ⟨o, m, r, _, _, _, h4, _, _⟩ := a.at hi
    have := t2 i (by omega)
    rw [h4] at this
    obtain ⟨g1, g2⟩ := movedT_ok this
    exact ⟨g1, r, by rw [h4, g2]⟩
  refine ⟨hN, ⟨by omega, fun i hi => (key i hi).1, fun i j hij hj => ?_⟩, fun i hi => ?_⟩
  · have := t3 i j hij (by omega)
    unfold nmA at this ⊢
    obtain ⟨_, x, e1⟩ := key i (by omega)
    obtain ⟨_, y, e2⟩ := key j hj
    rw [e1, e2] at this
    exact this
  · have := hR i (by omega)
    unfold clA at this ⊢
    obtain ⟨_, x, e1⟩ := key i hi
    rw [e1] at this
    simp only [movedL_len] at this
    intro j hj
    have q := this j hj
    rw [movedL_node (by omega), movedL_node (by omega)] at q
    exact q
theorem noClash_iff {us : List RideV} (h1 : us.length ≤ 300) (h2 : inB h 0 60 = true) : NoClash us h ↔ ∀ i j, ¬ Hits us h i j := by
  constructor
  · rintro ⟨y, hy⟩
    rcases hy with ⟨h3 | h3, _⟩ | ⟨_, _, h3⟩
    · omega
    · rw [h2] at h3; cases h3
    · rcases h3 with ⟨_, _, h4⟩ | ⟨i, j, h4, _⟩
      · exact h4
      · omega
  · intro g
    exact ⟨-1, .inr ⟨h1, h2, .inl ⟨rfl, rfl, g⟩⟩⟩
theorem usesTo_app {t : TripV} : ∀ k, k ≤ ts.length → usesTo es (ts ++ [t]) k = usesTo es ts k := by
  intro k
  induction k with
  | zero => intro _; rfl
  | succ k ih =>
    intro hk
    rw [usesTo_succ, usesTo_succ, ih (by omega)]
    have e : clA (ts ++ [t]) k = clA ts k := by unfold clA; rw [sm_app (by omega)]
    rw [e]
theorem Hits.app {us vs : List RideV} {i j : Nat} (a : Hits us h i j) : Hits (us ++ vs) h i j := by
  obtain ⟨a1, a2, a3, a4⟩ := a
  have e : ∀ k, k < us.length → rdA (us ++ vs) k = rdA us k := fun k hk => by unfold rdA; simp only [List.getD]; rw [List.getElem?_append_left hk]
  refine ⟨a1, by simp; omega, ?_, ?_⟩
  · rw [e i (by omega), e j a2]; exact a3
  · rw [e i (by omega), e j a2]; exact a4
theorem CleanP.back {t : TripV} (c : CleanP n es (ts ++ [t]) h) : CleanP n es ts h := by
  have hs := usesL_small c.1
  obtain ⟨⟨hN, ⟨t1, t2, t3⟩, hR⟩, hh, hc⟩ := c
  have hl : (ts ++ [t]).length = ts.length + 1 := by simp
  have hRd : Ridden n es ts := by
    refine ⟨hN, ⟨by omega, fun i hi => ?_, fun i j hij hj => ?_⟩, fun i hi => ?_⟩
    · have := t2 i (by omega); rw [sm_app hi] at this; exact this
    · have := t3 i j hij (by omega)
      unfold nmA at this ⊢
      rw [sm_app (by omega), sm_app hj] at this; exact this
    · have := hR i (by omega)
      unfold clA at this ⊢
      rw [sm_app hi] at this; exact this
  have hs2 := usesL_small hRd
  refine ⟨hRd, hh, (noClash_iff (by omega) hh).2 fun i j hH => ?_⟩
  have e : usesL es (ts ++ [t]) = usesL es ts ++ legsTo es ts.length (clA (ts ++ [t]) ts.length) ((clA (ts ++ [t]) ts.length).length - 1) := by
    unfold usesL
    rw [hl, usesTo_succ, usesTo_app _ (Nat.le_refl _)]
  refine (noClash_iff (by omega) hh).1 hc i j ?_
  rw [e]
  exact hH.app
theorem CleanP.pre (c : CleanP n es ts h) : ∀ j, CleanP n es (ts.take (ts.length - j)) h := by
  intro j
  induction j with
  | zero => simpa using c
  | succ j ih =>
    by_cases hj : j < ts.length
    · have e : ts.take (ts.length - j) = ts.take (ts.length - (j + 1)) ++ [ts[ts.length - (j + 1)]'(by omega)] := by
        rw [show ts.length - j = (ts.length - (j + 1)) + 1 by omega, List.take_succ_eq_append_getElem (by omega)]
      rw [e] at ih
      exact ih.back
    · rw [show ts.length - (j + 1) = ts.length - j by omega]; exact ih
theorem CleanP.upTo (c : CleanP n es ts h) {k : Nat} (hk : k ≤ ts.length) : CleanP n es (ts.take k) h := by
  have := c.pre (ts.length - k)
  rw [show ts.length - (ts.length - k) = k by omega] at this
  exact this
theorem movedT_zero {t : TripV} (a : tripB t = true) : movedT t ((0 : Nat) : Int) = t := by
  have e : movedL 0 t.calls = t.calls := by simp [movedL]
  unfold movedT
  rw [if_pos ⟨a, by decide⟩]
  unfold ifOk
  rw [show ((0 : Nat) : Int) = 0 from rfl, e, if_pos a]
theorem push0 {t : TripV} (c : CleanP n es (ts ++ [t]) h) : PushAns n es ts t h 0 := by
  refine .inr ⟨c.back, .inl ⟨0, by omega, rfl, ?_, fun j hj => by omega⟩⟩
  unfold PushAt
  have ht : tripB t = true := by
    have := c.1.2.1.2.1 ts.length (by simp)
    rw [sm_end] at this; exact this
  rw [movedT_zero ht]
  exact c
/-- What is clean is settled as it stands. -/
theorem settled_clean (c : CleanP n es ts h) : ∀ k, k ≤ ts.length → SetTo n es ts h k (ts.take k) (List.replicate k 0) := by
  intro k
  induction k with
  | zero => intro _; simpa using SetTo.nil
  | succ k ih =>
    intro hk
    have e : ts.take (k + 1) = ts.take k ++ [ts.getD k TripV.zero] := by
      rw [List.take_succ_eq_append_getElem (by omega)]
      simp [List.getD, show k < ts.length by omega]
    have hc := c.upTo hk
    rw [e] at hc
    have hp := push0 hc
    have ht : tripB (ts.getD k TripV.zero) = true := c.1.2.1.2.1 k (by omega)
    have := SetTo.snoc (ih (by omega)) (by omega) hp (by omega)
    rw [show movedT (ts.getD k TripV.zero) 0 = ts.getD k TripV.zero from movedT_zero ht, ← e] at this
    rw [List.replicate_succ']
    exact this
theorem SetA.of_clean (c : CleanP n es ts h) : SetA n es ts h ts (List.replicate ts.length 0) := by
  have := settled_clean c ts.length (Nat.le_refl _)
  rw [List.take_length] at this
  exact .inl this
/-- Settling comes to an end: at the last trip, or at one that can't be pushed. -/
theorem settle_ends (hne : ∀ o t, ∃ r, PushAns n es o t h r) : ∀ k, k ≤ ts.length → (∃ o m, SetTo n es ts h k o m) ∨ ∃ k o m, SetTo n es ts h k o m ∧ k < ts.length ∧ PushAns n es o (ts.getD k TripV.zero) h (-1) := by
  intro k
  induction k with
  | zero => intro _; exact .inl ⟨_, _, .nil⟩
  | succ k ih =>
    intro hk
    rcases ih (by omega) with ⟨o, m, hs⟩ | hs
    · obtain ⟨r, hr⟩ := hne o (ts.getD k TripV.zero)
      by_cases h0 : 0 ≤ r
      · exact .inl ⟨_, _, .snoc hs (by omega) hr h0⟩
      · have := hr.small
        obtain rfl : r = -1 := by omega
        exact .inr ⟨k, o, m, hs, by omega, hr⟩
    · exact .inr hs
theorem push_some (o : List TripV) (t : TripV) : ∃ r, PushAns n es o t h r := by
  by_cases c : CleanP n es o h
  · by_cases d : ∃ j : Nat, j ≤ 120 ∧ PushAt n es o t h j
    · have : ∀ m : Nat, (∃ j : Nat, j ≤ m ∧ j ≤ 120 ∧ PushAt n es o t h j) → ∃ k : Nat, k ≤ 120 ∧ PushAt n es o t h k ∧ ∀ i, i < k → ¬ PushAt n es o t h i := by
        intro m
        induction m with
        | zero =>
          rintro ⟨j, h1, h2, h3⟩
          obtain rfl : j = 0 := by omega
          exact ⟨0, h2, h3, fun i hi => by omega⟩
        | succ m ih =>
          rintro ⟨j, h1, h2, h3⟩
          by_cases q : ∃ i : Nat, i ≤ m ∧ i ≤ 120 ∧ PushAt n es o t h i
          · exact ih q
          · by_cases hj : j ≤ m
            · exact absurd ⟨j, hj, h2, h3⟩ q
            · exact ⟨j, h2, h3, fun i hi g => q ⟨i, by omega, by omega, g⟩⟩
      obtain ⟨j, d1, d2⟩ := d
      obtain ⟨k, h1, h2, h3⟩ := this j ⟨j, Nat.le_refl _, d1, d2⟩
      exact ⟨k, .inr ⟨c, .inl ⟨k, h1, rfl, h2, h3⟩⟩⟩
    · exact ⟨-1, .inr ⟨c, .inr ⟨rfl, fun j hj g => d ⟨j, hj, g⟩⟩⟩⟩
  · exact ⟨-1, .inl ⟨c, rfl⟩⟩
/-- What does not run along the net is not settled. -/
theorem SetA.not_ridden (a : ¬ Ridden n es ts) : SetA n es ts h [] [] := by
  rcases settle_ends (n := n) (es := es) (ts := ts) (h := h) push_some ts.length (Nat.le_refl _) with ⟨o, m, hs⟩ | ⟨k, o, m, h1, h2, h3⟩
  · by_cases h0 : 0 < ts.length
    · exact absurd (hs.ridden h0) a
    · obtain rfl : ts = [] := List.length_eq_zero_iff.1 (by omega)
      exact .inl .nil
  · exact .inr ⟨k, o, m, h1, h2, h3, rfl, rfl⟩
theorem SetA.fit {out : List TripV} {ms : List Int} (a : SetA n es ts h out ms) : (out.length = ts.length ∧ ms.length = ts.length ∧ SetTo n es ts h ts.length out ms) ∨ (out = [] ∧ ms = []) := by
  rcases a with a | ⟨_, _, _, _, _, _, h1, h2⟩
  · exact .inl ⟨a.len.1, a.len.2, a⟩
  · exact .inr ⟨h1, h2⟩
end
end Go.Proofs.YtbghfihlpbcomaaGreat

/- PushOf of the program where nothing is settled yet. -/
namespace Go.Proofs.YtbghfihlpbcomaaGreat
open Go.RowKit
theorem append0T (a x : Option Addr) (m cap c : Nat) (ty : TypeId) (hm : m ≤ cap) (w : World) : (Builtin.append_ #[27, 27] ty #[.slice a m cap, .slice x 0 c]).run Tryz.prog w = .ok (.slice a m cap) w := by
  obtain ⟨i0, hi, hz0, hz1, hz2⟩ := info_parts infoTrip
  cases a <;> cases x <;> simp [Builtin.append_, run_underlying Tryz.underlying27, sizeOf, typeInfo, hi, Builtin.lenOf, Builtin.firstCells, hm, storeCells, loadCells, loadCellsFrom]
theorem own_room0 {w : World} {base e sz n : Nat} {v : Value} {xs : List Value} (h : w.ownsRow base e sz v n xs) : ∃ a c, v = .slice a n c ∧ n ≤ c := by
  rcases h.2 with ⟨rfl, h0⟩ | ⟨g, cap', cur, rfl, _, _, hn, hm, _⟩
  · exact ⟨none, 0, by rw [h0], by omega⟩
  · exact ⟨_, _, rfl, hn⟩
theorem TripsIn.one1 {w : World} {va vb : Value} {t : TripV} (g : TripIn w va vb t) : TripsIn w [(va, vb)] [t] :=
  ⟨rfl, fun i hi => by
    obtain rfl : i = 0 := by simp at hi; omega
    exact g⟩
set_option maxRecDepth 100000 in
set_option maxHeartbeats 3200000 in
theorem cConcatN (g b2 o2 p2 : Nat) (ys : List (Value × Value)) (w : World) (h2 : ∀ j u, (flatP ys)[j]? = some u → w.cell? ⟨b2, o2 + j, none⟩ = some u) (hl2 : ys.length ≤ 60)
    (n2 : ∀ u ∈ flatP ys, u.oneCell' = true)
    (hg0 : w.cell? ⟨g, 0, none⟩ = some (.slice none 0 0)) (hg1 : w.cell? ⟨g, 1, none⟩ = some (.slice (some ⟨b2, o2, none⟩) ys.length p2)) :
    Calls Tryz.prog 55 #[.slice (some ⟨g, 0, none⟩) 2 2] w fun e w' => ∃ ao cp, e = .returned (.slice ao ([] ++ ys).length cp) ∧ w'.ownsRow w.heap.size 39 2 (.slice ao ([] ++ ys).length cp) ([] ++ ys).length (flatP ([] ++ ys)) ∧ Below w.heap.size w w' := by
  obtain ⟨i0, hi, hz0, hz1, hz2⟩ := info_parts infoTrip
  go_enter Tryz.func55, Tryz.ntmps55
  go_wp2
  go_loop [3, 5, 11] (fun s _ i => ∃ k : Nat, k ≤ 2 ∧ i = .int .i64 k ∧ s = .int .i64 (preP [] ys k).length) (fun _ _ i => 2 - (intOf i).toNat)
  case atStart => exact ⟨0, by omega, rfl, rfl⟩
  case round =>
    obtain ⟨k, hk, rfl, rfl⟩ := hrel
    have hk' : k = 0 ∨ k = 1 ∨ k = 2 := by omega
    rcases hk' with rfl | rfl | rfl
    · have e0 : (preP [] ys 0).length = 0 := rfl
      rw [e0]
      go_wp2
      go_round
      case rel => exact ⟨1, by omega, rfl, by simp [preP]⟩
      case measure => simp [intOf]
    · have e1 : (preP [] ys 1).length = 0 := rfl
      rw [e1]
      go_wp2
      go_round
      case rel => exact ⟨2, by omega, rfl, by simp [preP]⟩
      case measure => simp [intOf]
    · have e1 : (preP [] ys 2).length = ys.length := by simp [preP]
      rw [e1]
      go_wp2_with fail
      refine (cGrowT ys.length w (by omega)).mono ?_
      rintro e w1 ⟨v, rfl, hown0, hb0⟩
      clear e1
      go_wp2
      go_loopw [6, 8, 27] (fun v _ i wr => ∃ k : Nat, k ≤ 2 ∧ i = .int .i64 k ∧ wr.ownsRow w.heap.size 39 2 v (preP [] ys k).length (flatP (preP [] ys k)) ∧ Below w.heap.size w wr) (fun _ _ i _ => 2 - (intOf i).toNat)
      case atStart => exact ⟨0, by omega, rfl, hown0, hb0⟩
      case round =>
        obtain ⟨k, hk, rfl, hown, hb⟩ := hrel
        have G2 := fun j u (hu : (flatP ys)[j]? = some u) => ble hb (h2 j u hu)
        have g0 := ble hb hg0
        have g1 := ble hb hg1
        have hk' : k = 0 ∨ k = 1 ∨ k = 2 := by omega
        rcases hk' with rfl | rfl | rfl
        · have e1 : (preP [] ys 0).length = 0 := rfl
          obtain ⟨va, vc, rfl, hroom⟩ := own_room0 hown
          have H0 : Hid (wr.ownsRow w.heap.size 39 2 (.slice va 0 vc) 0 (flatP (preP [] ys 1))) := hide hown
          have ha := fun (c : Nat) ty (w : World) => append0T va none 0 vc c ty hroom w
          rw [show (preP [] ys 0).length = 0 from rfl]
          clear hown
          go_wp2_with (at_builtin; refine Go.Lib.wpList_append_run _ rfl _ _ _ _ rfl _ _ rfl rfl _ _ (ha _ _ _) ?_)
          go_roundw
          case rel => exact ⟨1, by omega, rfl, H0.out, hb⟩
          case measure => simp [intOf]
        · have e1 : (preP [] ys 1).length = 0 := rfl
          go_wp2_with (at_builtin; refine wpList_append_own _ rfl _ _ _ rfl w.heap.size 39 i0 (.agg #[.string ⟨#[]⟩, .slice none 0 0]) 2 40 Tryz.underlying27 hi hz0 hz1 hz2 rfl (by decide) u6 (preP [] ys 1).length (flatP (preP [] ys 1)) rfl hown ⟨b2, o2, none⟩ ys.length p2 (flatP ys) rfl (flatP_len _) (by intro j u hj; rw [add_offP]; exact G2 j u hj) n2 (by rw [e1]; unfold maxLen; omega) (by rw [e1]; omega) hb.size ?_; intro v' w' hown' hgrow hiff)
          have hb' : Below w.heap.size w w' := hb.grown hgrow hb.size (own_ge hown)
          clear hgrow hiff hown
          go_roundw
          case rel => exact ⟨2, by omega, rfl, by simpa [preP, show flatP ([] : List (Value × Value)) = [] from rfl] using hown', hb'⟩
          case measure => simp [intOf]
        · have hv : ∃ ao cp, u6 = .slice ao ([] ++ ys).length cp := by
            rcases hown.2 with ⟨h, h0⟩ | ⟨g', cap, cur, h, _⟩
            · have h0' : ([] ++ ys).length = 0 := h0
              exact ⟨none, 0, by rw [h0']; exact h⟩
            · exact ⟨_, cap, h⟩
          obtain ⟨ao, cp, rfl⟩ := hv
          go_wp2
          go_ret
          exact ⟨ao, cp, rfl, hown, hb⟩

/-- Concat as the program calls it: the list, and one trip in a list of its own. -/
theorem cConcatE (va vb : Value) (w : World) (n2 : va.oneCell' = true) (n3 : vb.oneCell' = true) :
    Calls Tryz.prog 55 #[.slice (some ⟨w.heap.size + 1, 0, none⟩) 2 2] ((w.alloc (.cells #[va, vb] 39)).alloc (.cells #[.slice none 0 0, .slice (some ⟨w.heap.size, 0, none⟩) 1 1] 27)) fun e w' =>
      ∃ ao cp, e = .returned (.slice ao (1) cp) ∧ w'.ownsRow w.heap.size 39 2 (.slice ao (1) cp) (1) (flatP ([(va, vb)])) ∧ Below w.heap.size w w' := by
  have hB := btrans (balloc w (.cells #[va, vb] 39)) (balloc _ (.cells #[.slice none 0 0, .slice (some ⟨w.heap.size, 0, none⟩) 1 1] 27))
  have X := one_block (w.alloc (.cells #[va, vb] 39)) (.cells #[.slice none 0 0, .slice (some ⟨w.heap.size, 0, none⟩) 1 1] 27)
  rw [sz1] at X
  have Y := blk_keep (balloc _ (.cells #[.slice none 0 0, .slice (some ⟨w.heap.size, 0, none⟩) 1 1] 27)) (one_block w (.cells #[va, vb] 39))
  obtain ⟨⟨x0, x1⟩, -⟩ := blk2 X
  obtain ⟨⟨y0, y1⟩, -⟩ := blk2 Y
  refine (cConcatN (w.heap.size + 1) w.heap.size 0 1 [(va, vb)] _ ?_ (by simp) ?_ x0 x1).mono ?_
  · intro j u hj
    rw [Nat.zero_add]
    match j, hj with
    | 0, hj => simp [flatP] at hj; subst hj; exact y0
    | 1, hj => simp [flatP] at hj; subst hj; exact y1
  · intro u hu
    simp [flatP] at hu
    rcases hu with rfl | rfl
    · exact n2
    · exact n3
  · rintro e w' ⟨ao, cp, rfl, ho, hb⟩
    have e1 : ([] ++ [(va, vb)]).length = 1 := by simp
    rw [e1] at ho
    exact ⟨ao, cp, by rw [e1], Go.Joins.ownsRow_le (by simpa using ho) (base' := w.heap.size) hB.size, btrans hB hb⟩

set_option maxRecDepth 100000 in
set_option maxHeartbeats 6400000 in
theorem cPushN (a : Option Addr) (cap : Nat) (n : Int) (es : List EdgeV) (s : ByteArray) (ca : Option Addr) (cc : Nat) (cs : List HaltV) (h : Int) (w : World) (he : Edges w a es) (hl : es.length ≤ 1048576)
    (hc : Halts w ca cs) (hcl : cs.length ≤ 1048576) (hcap : cs.length ≤ cc) (hs : s.size ≤ 1048576) :
    Calls Tryz.prog 30 #[.agg #[.int .i64 n, .slice a es.length cap], .slice none 0 0, .agg #[.string s, .slice ca cs.length cc], .int .i64 h] w fun e w' => ∃ r, e = .returned (.int .i64 r) ∧ PushAns n es [] ⟨s, cs⟩ h r ∧ Below w.heap.size w w' := by
  have hW := btrans (balloc w (.cells #[.int .i64 n, .slice a es.length cap] 26)) (balloc _ (.cells #[.string s, .slice ca cs.length cc] 39))
  have X := blk_keep (balloc _ (.cells #[.string s, .slice ca cs.length cc] 39)) (one_block w (.cells #[.int .i64 n, .slice a es.length cap] 26))
  have Y := one_block (w.alloc (.cells #[.int .i64 n, .slice a es.length cap] 26)) (.cells #[.string s, .slice ca cs.length cc] 39)
  rw [sz1] at Y
  obtain ⟨⟨x0, x1⟩, -⟩ := blk2 X
  go_enter Tryz.func30, Tryz.ntmps30
  go_wp2_with fail
  refine (cCleanI a cap n es none 0 [] h _ (he.below hW) hl (.inl rfl) ⟨by simp, fun t ht => by cases ht⟩).mono ?_
  rintro e w1 ⟨r, rfl, hr, hb⟩
  have HB := btrans hW hb
  replace X := blk_keep hb X
  replace Y := blk_keep hb Y
  clear hb hW x0 x1
  cases r
  · have hN : ¬ CleanP n es [] h := fun g => by have := hr.2 g; cases this
    replace hN := hide hN
    clear hr
    go_wp2
    go_ret
    exact ⟨_, rfl, .inl ⟨hN.out, rfl⟩, HB⟩
  have hC := hr.1 rfl
  replace hC := hide hC
  clear hr
  go_wp2
  go_loopw [9, 15] (fun _ i wr => ∃ k : Nat, k ≤ 121 ∧ i = .int .i64 k ∧ Hid (∀ j, j < k → ¬ PushAt n es [] ⟨s, cs⟩ h j) ∧ wr.heap[w.heap.size]? = some (.cells #[.int .i64 n, .slice a es.length cap] 26) ∧ wr.heap[w.heap.size + 1]? = some (.cells #[.string s, .slice ca cs.length cc] 39) ∧ Below w.heap.size w wr) (fun _ i _ => 121 - (intOf i).toNat)
  case atStart => exact ⟨0, by omega, rfl, hide (fun j hj => by omega), X, Y, HB⟩
  case round =>
    clear X Y HB
    obtain ⟨k, hk, rfl, hno, X, Y, HB⟩ := hrel
    by_cases hlt : k < 121
    · obtain ⟨⟨x0, x1⟩, -⟩ := blk2 X
      obtain ⟨⟨y0, y1⟩, -⟩ := blk2 Y
      have M := cMovedI s ca cc cs k wr.drew (hc.below HB.drew) hcl hcap
      have hsm := movedT_small ⟨s, cs⟩ k hs hcl
      have hT := Small.snoc (ts := []) ⟨by simp, fun t ht => by cases ht⟩ (by simp) hsm.1 hsm.2
      have PA : Hid (CleanP n es ([movedT ⟨s, cs⟩ k]) h → PushAt n es [] ⟨s, cs⟩ h k) := hide (fun g => g)
      have PB : Hid (PushAt n es [] ⟨s, cs⟩ h k → CleanP n es ([movedT ⟨s, cs⟩ k]) h) := hide (fun g => g)
      generalize movedT ⟨s, cs⟩ k = tm at *
      have CD : ∀ (va vb : Value) (w' : World), Below w.heap.size w w' → va.oneCell' = true → vb.oneCell' = true → Calls Tryz.prog 55 #[.slice (some ⟨w'.heap.size + 1, 0, none⟩) 2 2] ((w'.alloc (.cells #[va, vb] 39)).alloc (.cells #[.slice none 0 0, .slice (some ⟨w'.heap.size, 0, none⟩) 1 1] 27)) fun e w2 =>
          ∃ ao cp, e = .returned (.slice ao (1) cp) ∧ w2.ownsRow w'.heap.size 39 2 (.slice ao (1) cp) (1) (flatP [(va, vb)]) ∧ Below w'.heap.size w' w2 := by
        intro va vb w' hb n2 n3
        exact cConcatE va vb w' n2 n3
      have CL : ∀ (ao : Option Addr) (cp : Nat) (w' : World), Below w.heap.size w w' → Trips w' ao ([tm]) → Calls Tryz.prog 11 #[.agg #[.int .i64 n, .slice a es.length cap], .slice ao (1) cp, .int .i64 h] w' (fun e w2 => ∃ r, e = .returned (.bool r) ∧ (r = true ↔ CleanP n es ([tm]) h) ∧ Below w'.heap.size w' w2) := by
        intro ao cp w' hb hT'
        have := cCleanI a cap n es ao cp ([tm]) h w' (he.below hb) hl hT' hT
        exact this
      clear hsm hT
      go_wp2_with fail
      go_region_held3 (fun w' => w'.cell? ⟨w.heap.size, 0, none⟩ = some (.int .i64 n) ∧ w'.cell? ⟨w.heap.size, 1, none⟩ = some (.slice a es.length cap) ∧ w'.cell? ⟨w.heap.size + 1, 0, none⟩ = some (.string s) ∧ w'.cell? ⟨w.heap.size + 1, 1, none⟩ = some (.slice ca cs.length cc)) (go_keep) (first
        | (go_at_call 11; with_reducible refine (CL ao cp wq Bq Tq).mono ?_; rintro e wz ⟨rz, rfl, hrz, hbz⟩; have Bz := btrans Bq hbz; have Cz := btrans Cq hbz; clear hbz; obtain ⟨⟨v0, v1⟩, -⟩ := blk2 (blk_keep Cz X); obtain ⟨⟨v2, v3⟩, -⟩ := blk2 (blk_keep Cz Y))
        | (go_at_call 55; with_reducible refine (CD va vb wm Bm n2 n3).mono ?_; rintro e wq ⟨ao, cp, rfl, oq, hbq⟩; have Bq := btrans Bm hbq; have Cq := btrans Cm hbq; have Tq := Trips.of_pairs oq (TripsIn.one1 (Im.below hbq)); clear hbq oq; obtain ⟨⟨v0, v1⟩, -⟩ := blk2 (blk_keep Cq X); obtain ⟨⟨v2, v3⟩, -⟩ := blk2 (blk_keep Cq Y))
        | (go_at_call 13; with_reducible refine M.mono ?_; intro e wm hA; obtain ⟨va, vb, rfl, Im, hbm⟩ := hA.parts; have Cm := undrew hbm; have Bm := btrans HB Cm; obtain ⟨n2, n3⟩ := Im.one; clear hbm hA; obtain ⟨⟨v0, v1⟩, -⟩ := blk2 (blk_keep Cm X); obtain ⟨⟨v2, v3⟩, -⟩ := blk2 (blk_keep Cm Y)))
      replace X := blk_keep Cz X
      replace Y := blk_keep Cz Y
      clear v0 v1 v2 v3 x0 x1 y0 y1
      cases rz
      · have hno2 : Hid (∀ j, j < k + 1 → ¬ PushAt n es [] ⟨s, cs⟩ h j) := by
          refine hide (fun j hj g => ?_)
          by_cases hjk : j = k
          · subst hjk
            have := hrz.2 (PB.out g)
            cases this
          · exact hno.out j (by omega) g
        clear hrz
        go_wp2
        go_roundw
        case rel => exact ⟨k + 1, by omega, by go_num, hno2, X, Y, Bz⟩
        case measure => simp [intOf]; omega
      · have hyes := hide (PA.out (hrz.1 rfl))
        clear hrz
        go_wp2
        go_ret
        exact ⟨_, rfl, .inr ⟨hC.out, .inl ⟨k, by omega, rfl, hyes.out, hno.out⟩⟩, Bz⟩
    · obtain rfl : k = 121 := by omega
      go_wp2
      go_ret
      exact ⟨_, rfl, .inr ⟨hC.out, .inr ⟨rfl, fun j hj => hno.out j (by omega)⟩⟩, HB⟩
end Go.Proofs.YtbghfihlpbcomaaGreat

/- Settle of the program. -/
namespace Go.Proofs.YtbghfihlpbcomaaGreat
open Go.RowKit
theorem infoI9 : (Tryz.prog.info? 3).map (fun i => (i.zero, i.size, i.bytes)) = some (some (Value.int .i64 0), 1, 8) := by kernel_rfl
theorem own_other {w : World} {B B' e e' sz sz' n n' : Nat} {v v' : Value} {xs xs' : List Value} (h : w.ownsRow B e sz v n xs) (h' : w.ownsRow B' e' sz' v' n' xs') (hne : e ≠ e') : ∀ k, v.ownBlock = some k → some k ≠ v'.ownBlock := by
  intro k hk e1
  rcases h.2 with ⟨rfl, _⟩ | ⟨g, cap, cur, rfl, _, hh, _⟩
  · simp [Value.ownBlock] at hk
  · rcases h'.2 with ⟨rfl, _⟩ | ⟨g', cap', cur', rfl, _, hh', _⟩
    · simp [Value.ownBlock] at e1
    · simp [Value.ownBlock] at hk e1
      subst hk
      subst e1
      rw [hh] at hh'
      simp only [Option.some.injEq, Obj.cells.injEq] at hh'
      exact hne hh'.2.1
theorem tripOwn_far {w w' : World} {lo : Nat} {va vb : Value} {t : TripV} {r : Option Nat} (h : TripOwn w lo va vb t) (hg : w.grownBy w' r) (hne : ∀ k, vb.ownBlock = some k → r ≠ some k) : TripOwn w' lo va vb t := by
  obtain ⟨h1, a, c, h2, h3⟩ := h
  subst h2
  exact ⟨h1, a, c, rfl, own_far h3 hg (fun k hk e => hne k hk e.symm)⟩
theorem tripOwn_lt {w : World} {lo : Nat} {va vb : Value} {t : TripV} (h : TripOwn w lo va vb t) : ∀ k, vb.ownBlock = some k → lo ≤ k ∧ k < w.heap.size := by
  obtain ⟨h1, a, c, h2, h3⟩ := h
  subst h2
  intro k hk
  exact ⟨own_from h3 (Nat.le_refl _) k hk, own_blk_lt h3 k hk⟩
/-- A list of trips in rows of its own. -/
structure TabO (B : Nat) (wr : World) (v : Value) (vs : List (Value × Value)) (ts : List TripV) : Prop where
  own : wr.ownsRow B 39 2 v ts.length (flatP vs)
  len : vs.length = ts.length
  each : ∀ j, (hj : j < vs.length) → TripOwn wr B vs[j].1 vs[j].2 (ts.getD j TripV.zero)
  apart : ∀ j, (hj : j < vs.length) → ∀ k, vs[j].2.ownBlock = some k → v.ownBlock ≠ some k
  pair : ∀ i j, (hi : i < vs.length) → (hj : j < vs.length) → i ≠ j → ∀ k, vs[i].2.ownBlock = some k → vs[j].2.ownBlock ≠ some k
/-- A new trip's calls lie apart from all there are. -/
theorem pair_push {vs : List (Value × Value)} {va vb : Value} (h : ∀ i j, (hi : i < vs.length) → (hj : j < vs.length) → i ≠ j → ∀ k, vs[i].2.ownBlock = some k → vs[j].2.ownBlock ≠ some k) (hp : ∀ j, (hj : j < vs.length) → ∀ k, vs[j].2.ownBlock = some k → vb.ownBlock ≠ some k) :
    ∀ i j, (hi : i < (vs ++ [(va, vb)]).length) → (hj : j < (vs ++ [(va, vb)]).length) → i ≠ j → ∀ k, (vs ++ [(va, vb)])[i].2.ownBlock = some k → (vs ++ [(va, vb)])[j].2.ownBlock ≠ some k := by
  intro i j hi hj hne k hk hk2
  have key : ∀ j, (hj : j < vs.length) → (vs ++ [(va, vb)])[j]'(by simp; omega) = vs[j] := fun j hj => List.getElem_append_left hj
  have keyE : ∀ j (hj : j < (vs ++ [(va, vb)]).length), ¬ j < vs.length → (vs ++ [(va, vb)])[j].2 = vb := by
    intro j hj h1
    obtain rfl : j = vs.length := by simp at hj; omega
    simp
  by_cases h1 : i < vs.length <;> by_cases h2 : j < vs.length
  · rw [key i h1] at hk; rw [key j h2] at hk2; exact h i j h1 h2 hne k hk hk2
  · rw [key i h1] at hk; rw [keyE j hj h2] at hk2; exact hp i h1 k hk hk2
  · rw [keyE i hi h1] at hk; rw [key j h2] at hk2; exact hp j h2 k hk2 hk
  · simp at hi hj; omega
theorem TabO.nil (B : Nat) (w : World) : TabO B w (.slice none 0 0) [] [] := ⟨World.ownsRow_nil _ _ _ _, rfl, fun j hj => by simp at hj, fun j hj => by simp at hj, fun i j hi => by simp at hi⟩
theorem TabO.below {B : Nat} {wr w2 : World} {v : Value} {vs : List (Value × Value)} {ts : List TripV} (h : TabO B wr v vs ts) (hb : Below wr.heap.size wr w2) : TabO B w2 v vs ts :=
  ⟨own_keep h.own hb, h.len, fun j hj => (h.each j hj).below hb, h.apart, h.pair⟩
theorem tripOwn_read {w : World} {lo : Nat} {va vb : Value} {t : TripV} (h : TripOwn w lo va vb t) : TripIn w va vb t := by
  obtain ⟨h1, a, c, h2, h3⟩ := h
  exact ⟨h1, a, c, h2, own_cap h3, Halts.own h3⟩
theorem TabO.read {B : Nat} {wr : World} {v : Value} {vs : List (Value × Value)} {ts : List TripV} (h : TabO B wr v vs ts) : TripsIn wr vs ts := ⟨h.len, fun i hi => tripOwn_read (h.each i hi)⟩
theorem TabO.trips {B c : Nat} {wr : World} {a : Option Addr} {vs : List (Value × Value)} {ts : List TripV} (h : TabO B wr (.slice a ts.length c) vs ts) : Trips wr a ts := Trips.of_pairs h.own h.read
/-- One trip more. -/
theorem TabO.push {B : Nat} {wx w2 : World} {v v2 va vb : Value} {vs : List (Value × Value)} {ts : List TripV} {t : TripV} (hx' : TabO B wx v vs ts)
    (hown : w2.ownsRow B 39 2 v2 (ts.length + 1) (flatP vs ++ [va, vb])) (hgrow : wx.grownBy w2 v.ownBlock) (hwhere : v2.ownBlock = v.ownBlock ∨ v2.ownBlock = some wx.heap.size)
    (hT : TripOwn wx B va vb t) (hap : ∀ k, vb.ownBlock = some k → v.ownBlock ≠ some k) (hpr : ∀ j, (hj : j < vs.length) → ∀ k, vs[j].2.ownBlock = some k → vb.ownBlock ≠ some k) :
    TabO B w2 v2 (vs ++ [(va, vb)]) (ts ++ [t]) := by
  have hl := hx'.len
  have key : ∀ j, (hj : j < vs.length) → (vs ++ [(va, vb)])[j]'(by simp; omega) = vs[j] := fun j hj => List.getElem_append_left hj
  have keyE : (vs ++ [(va, vb)])[vs.length]'(by simp) = (va, vb) := by simp
  refine ⟨?_, by simp [hl], fun j hj => ?_, fun j hj k hk => ?_, pair_push hx'.pair hpr⟩
  · rw [flatP_snoc]; simpa using hown
  · by_cases hjl : j < vs.length
    · rw [key j hjl, sm_app (by omega)]
      exact tripOwn_far (hx'.each j hjl) hgrow (hx'.apart j hjl)
    · obtain rfl : j = vs.length := by simp at hj; omega
      rw [keyE, hl, sm_end]
      exact tripOwn_far hT hgrow hap
  · by_cases hjl : j < vs.length
    · rw [key j hjl] at hk
      rcases hwhere with hw | hw
      · rw [hw]; exact hx'.apart j hjl k hk
      · rw [hw]; intro e; have := (tripOwn_lt (hx'.each j hjl) k hk).2; simp at e; omega
    · obtain rfl : j = vs.length := by simp at hj; omega
      rw [keyE] at hk
      rcases hwhere with hw | hw
      · rw [hw]; exact hap k hk
      · rw [hw]; intro e; have := (tripOwn_lt hT k hk).2; simp at e; omega
theorem small_at {ts : List TripV} (h : Small ts) {k : Nat} (hk : k < ts.length) : (ts.getD k TripV.zero).name.size ≤ 1048576 ∧ (ts.getD k TripV.zero).calls.length ≤ 1048576 := by
  rw [show ts.getD k TripV.zero = ts[k] by simp [List.getD, hk]]
  exact h.2 _ (List.getElem_mem hk)
theorem SetTo.small {n : Int} {es : List EdgeV} {ts : List TripV} {h : Int} {k : Nat} {out : List TripV} {ms : List Int} (a : SetTo n es ts h k out ms) (hS : Small ts) : Small out := by
  have hk : k ≤ ts.length := by cases a <;> omega
  refine ⟨by have := a.len.1; have := hS.1; omega, ?_⟩
  clear hk
  induction a with
  | nil => intro t ht; cases ht
  | @snoc k out ms r a1 a2 a3 a4 ih =>
    intro t ht
    rcases List.mem_append.1 ht with ht | ht
    · exact ih t ht
    · rw [List.mem_singleton.1 ht]
      have := small_at hS a2
      exact movedT_small _ _ this.1 this.2
/-- PushOf at whatever has been settled. -/
theorem cPushV (a : Option Addr) (cap : Nat) (n : Int) (es : List EdgeV) {B : Nat} {v : Value} {vs : List (Value × Value)} {out : List TripV} (s : ByteArray) (ca : Option Addr) (cc : Nat) (cs : List HaltV) (h : Int) (w : World) (T : TabO B w v vs out) (he : Edges w a es) (hl : es.length ≤ 1048576) (hS : Small out)
    (hc : Halts w ca cs) (hcl : cs.length ≤ 1048576) (hcap : cs.length ≤ cc) (hs : s.size ≤ 1048576) :
    Calls Tryz.prog 30 #[.agg #[.int .i64 n, .slice a es.length cap], v, .agg #[.string s, .slice ca cs.length cc], .int .i64 h] w fun e w' => ∃ r, e = .returned (.int .i64 r) ∧ PushAns n es out ⟨s, cs⟩ h r ∧ Below w.heap.size w w' := by
  have T' := T
  rcases T.own.2 with ⟨rfl, h0⟩ | ⟨g, cp, cur, rfl, _⟩
  · obtain rfl : out = [] := List.length_eq_zero_iff.1 h0
    exact cPushN a cap n es s ca cc cs h w he hl hc hcl hcap hs
  · exact cPushI a cap n es g 0 cp out s ca cc cs h w he hl (Trips.of_pairs T'.own T'.read) hS hc hcl hcap hs
/-- What Settle answers in memory. -/
def SetAns (w : World) (n : Int) (es : List EdgeV) (ts : List TripV) (h : Int) (e : Ending) (w' : World) : Prop :=
  ∃ ao cp mo mp vs out ms, e = .returned (.tuple #[.slice ao (List.length out) cp, .slice mo (List.length ms) mp]) ∧ SetA n es ts h out ms ∧ TabO w.heap.size w' (.slice ao out.length cp) vs out ∧ w'.ownsRow w.heap.size 3 1 (.slice mo ms.length mp) ms.length (ms.map (Value.int .i64)) ∧ Below w.heap.size w w'
/-- What the loop of Settle holds. -/
def SetIn (w : World) (n : Int) (es : List EdgeV) (ts : List TripV) (h : Int) (v u i : Value) (wr : World) (box : Obj) : Prop :=
  ∃ (k : Nat) (vs : List (Value × Value)) (out : List TripV) (ms : List Int), i = .int .i64 k ∧ k ≤ ts.length ∧ SetTo n es ts h k out ms ∧ TabO w.heap.size wr v vs out ∧ wr.ownsRow w.heap.size 3 1 u ms.length (ms.map (Value.int .i64)) ∧ wr.heap[w.heap.size]? = some box ∧ (∀ j, v.ownBlock = some j → j ≠ w.heap.size) ∧ (∀ j, u.ownBlock = some j → j ≠ w.heap.size) ∧ Below w.heap.size w wr
theorem SetAns.nothing {w w' : World} {n : Int} {es : List EdgeV} {ts : List TripV} {h : Int} (a : SetA n es ts h [] []) (hb : Below w.heap.size w w') : SetAns w n es ts h (.returned (.tuple #[.slice none 0 0, .slice none 0 0])) w' :=
  ⟨none, 0, none, 0, [], [], [], rfl, a, TabO.nil _ _, World.ownsRow_nil _ _ _ _, hb⟩

set_option maxRecDepth 100000 in
set_option maxHeartbeats 6400000 in
theorem cSettleI (a : Option Addr) (cap : Nat) (n : Int) (es : List EdgeV) (ta : Option Addr) (tc : Nat) (ts : List TripV) (h : Int) (w : World) (he : Edges w a es) (hl : es.length ≤ 1048576) (hz : Trips w ta ts) (hS : Small ts) :
    Calls Tryz.prog 8 #[.agg #[.int .i64 n, .slice a es.length cap], .slice ta ts.length tc, .int .i64 h] w (SetAns w n es ts h) := by
  obtain ⟨i0, hi, hz0, hz1, hz2⟩ := info_parts infoTrip
  obtain ⟨j0, hj, hj0, hj1, hj2⟩ := info_parts infoI9
  have hW := balloc w (.cells #[.int .i64 n, .slice a es.length cap] 26)
  have X := one_block w (.cells #[.int .i64 n, .slice a es.length cap] 26)
  have hs1 := hS.1
  go_enter Tryz.func8, Tryz.ntmps8
  go_wp2
  generalize w.alloc (.cells #[.int .i64 n, .slice a es.length cap] 26) = W at *
  go_loopw [8, 9, 11, 12, 15] (fun v u _ _ i wr => SetIn w n es ts h v u i wr (.cells #[.int .i64 n, .slice a es.length cap] 26)) (fun _ _ _ _ i _ => ts.length - (intOf i).toNat)
  case atStart => exact ⟨0, [], [], [], rfl, Nat.zero_le _, .nil, TabO.nil _ _, World.ownsRow_nil _ _ _ _, X, (by simp [Value.ownBlock]), (by simp [Value.ownBlock]), hW⟩
  case round =>
    clear X hW
    obtain ⟨k, vs, out, ms, rfl, hk, hST, T, O, X, hv, hu, HB⟩ := hrel
    have hol : out.length ≤ ts.length := by have := hST.len.1; omega
    have hml : ms.length ≤ ts.length := by have := hST.len.2; omega
    obtain ⟨ao, cp, rfl⟩ := own_form T.own
    obtain ⟨mo, mp, rfl⟩ := own_form O
    by_cases hlt : k < ts.length
    · have hlt' : (k : Int) < (ts.length : Int) := by omega
      have hk0 : (0 : Int) ≤ (k : Int) := by omega
      have hw1 : IntKind.i64.wrap ((k : Int) + 1) = (k : Int) + 1 := wrap_in _ (by omega) (by omega)
      obtain ⟨b, off, ca, cc, rfl, c1, c2, hcap, c3⟩ := (hz.below HB).at hlt
      have hsm := small_at hS hlt
      have hSo := hST.small hS
      have hSN : Hid (∀ r, PushAns n es out (ts.getD k TripV.zero) h r → 0 ≤ r → SetTo n es ts h (k + 1) (out ++ [movedT (ts.getD k TripV.zero) r]) (ms ++ [r])) := hide (fun r h1 h2 => hST.snoc hlt h1 h2)
      have hSX : Hid (PushAns n es out (ts.getD k TripV.zero) h (-1) → SetA n es ts h [] []) := hide (fun h1 => .inr ⟨k, out, ms, hST, hlt, h1, rfl, rfl⟩)
      generalize ts.getD k TripV.zero = t at *
      obtain ⟨s, cs⟩ := t
      dsimp only at *
      have hx := balloc wr (.cells #[.string s, .slice ca cs.length cc] 39)
      have Y := one_block wr (.cells #[.string s, .slice ca cs.length cc] 39)
      have X1 := blk_keep hx X
      have T1 := T.below hx
      have O1 := own_keep O hx
      have C1 := c3.below hx
      have HB1 := btrans HB hx
      have hE := he.below HB1
      have hXl := lt_of_block X
      obtain ⟨⟨x0, x1⟩, -⟩ := blk2 X1
      obtain ⟨⟨y0, y1⟩, -⟩ := blk2 Y
      have CP := cPushV a cap n es s ca cc cs h _ T1 hE hl hSo C1 hsm.2 hcap hsm.1
      clear hST T O X HB hx c3
      go_wp2_with fail
      generalize wr.alloc (.cells #[.string s, .slice ca cs.length cc] 39) = w1 at *
      refine CP.mono ?_
      rintro e w2 ⟨r, rfl, hr, hb2⟩
      have hrs := hr.small
      have X2 := blk_keep hb2 X1
      have Y2 := blk_keep hb2 Y
      have T2 := T1.below hb2
      have O2 := own_keep O1 hb2
      have C2 := C1.below hb2
      have HB2 := btrans HB1 hb2
      have hvl := own_blk_lt T1.own
      have hb2s := hb2.size
      clear CP X1 Y T1 O1 C1 HB1 hb2 hE x0 x1 y0 y1 c1 c2
      by_cases hr0 : r < 0
      · obtain rfl : r = -1 := by omega
        have A := hide (hSX.out hr)
        clear hSN hSX hr
        go_wp2
        go_ret2
        exact SetAns.nothing A.out HB2
      · have hST2 := hide (hSN.out r hr (by omega))
        clear hSN hSX hr
        obtain ⟨⟨y0, y1⟩, -⟩ := blk2 Y2
        have M := cMovedI s ca cc cs r w2 C2 hsm.2 hcap
        go_wp2_with fail
        refine M.mono ?_
        rintro e w3 ⟨qa, qc, rfl, hq, hb3⟩
        generalize movedT ⟨s, cs⟩ r = tm at *
        have X3 := blk_keep hb3 X2
        have T3 := T2.below hb3
        have O3 := own_keep O2 hb3
        have HB3 := btrans HB2 hb3
        have hb3s := hb3.size
        have hTo : TripOwn w3 w.heap.size (.string tm.name) (.slice qa tm.calls.length qc) tm := ⟨rfl, qa, qc, rfl, own_base hq HB2.size⟩
        have hap : ∀ k, (Value.slice qa tm.calls.length qc).ownBlock = some k → (Value.slice ao out.length cp).ownBlock ≠ some k := fun k hk e => by
          have h1 := own_from hq (Nat.le_refl _) k hk
          have h2 := own_blk_lt T2.own k e
          omega
        have hpr : ∀ j, (hj : j < vs.length) → ∀ k, vs[j].2.ownBlock = some k → (Value.slice qa tm.calls.length qc).ownBlock ≠ some k := fun j hj k hk e => by
          have h1 := own_from hq (Nat.le_refl _) k e
          have h2 := (tripOwn_lt (T2.each j hj) k hk).2
          omega
        have hx4 := balloc w3 (.cells #[.string tm.name, .slice qa tm.calls.length qc] 39)
        have hB4 := one_block w3 (.cells #[.string tm.name, .slice qa tm.calls.length qc] 39)
        have T4 := T3.below hx4
        have O4 := own_keep O3 hx4
        have X4 := blk_keep hx4 X3
        have HB4 := btrans HB3 hx4
        have hTo4 := hTo.below hx4
        have h4s := HB4.size
        clear M X2 Y2 T2 O2 C2 HB2 hb3 X3 T3 O3 HB3 hTo hq hx4 y0 y1
        go_wp2_with (at_builtin; refine wpList_append_own_at _ rfl _ _ 27 rfl w.heap.size 39 i0 _ 2 40 Tryz.underlying27 hi hz0 hz1 hz2 rfl (by decide) _ _ _ rfl T4.own ⟨w3.heap.size, 0, none⟩ 1 1 [.string tm.name, .slice qa tm.calls.length qc] rfl rfl ?c1 ?c2 ?c3 ?c4 ?c5 ?_)
        case c1 => exact World.news_of_block hB4
        case c2 => simp [Value.oneCell']
        case c3 => unfold maxLen; omega
        case c4 => omega
        case c5 => exact h4s
        intro v5 w5 hown hgrow _ hwhere
        have T5 := T4.push hown hgrow (by rw [sz1]; exact hwhere) hTo4 hap hpr
        have O5 := own_far O4 hgrow (own_other O4 T4.own (by decide))
        have X5 := far_blk hgrow X4 hv
        have HB5 : Below w.heap.size w w5 := HB4.grown hgrow HB4.size (own_ge T4.own)
        have hv5 : ∀ j, v5.ownBlock = some j → j ≠ w.heap.size := fun j hj => by
          rcases hwhere with hw | hw
          · rw [hw] at hj; exact hv j hj
          · rw [hw] at hj; simp at hj; have := lt_of_block X4; rw [sz1] at this; omega
        have hu5 := hu
        clear hown hgrow hwhere T4 O4 X4 HB4 hTo4 hap hpr hB4
        have hx6 := balloc w5 (.cells #[.int .i64 r] 3)
        have hB6 := one_block w5 (.cells #[.int .i64 r] 3)
        have T6 := T5.below hx6
        have O6 := own_keep O5 hx6
        have X6 := blk_keep hx6 X5
        have HB6 := btrans HB5 hx6
        have h6s := HB6.size
        clear T5 O5 X5 HB5 hx6
        go_wp2_with (at_builtin; refine wpList_append_own_at _ rfl _ _ 31 rfl w.heap.size 3 j0 _ 1 8 Tryz.underlying31 hj hj0 hj1 hj2 rfl (by decide) _ _ _ rfl O6 ⟨w5.heap.size, 0, none⟩ 1 1 [.int .i64 r] rfl rfl ?d1 ?d2 ?d3 ?d4 ?d5 ?_)
        case d1 => exact World.news_of_block hB6
        case d2 => simp [Value.oneCell']
        case d3 => unfold maxLen; omega
        case d4 => omega
        case d5 => exact h6s
        intro u7 w7 hown hgrow _ hwhere
        have O7 : w7.ownsRow w.heap.size 3 1 u7 (ms ++ [r]).length ((ms ++ [r]).map (Value.int .i64)) := by simpa using hown
        have ap7 : ∀ k, v5.ownBlock = some k → some k ≠ (Value.slice mo ms.length mp).ownBlock := own_other T6.own O6 (by decide)
        have T7 : TabO w.heap.size w7 v5 (vs ++ [(.string tm.name, .slice qa tm.calls.length qc)]) (out ++ [tm]) := ⟨own_far T6.own hgrow ap7, T6.len, fun j hj => tripOwn_far (T6.each j hj) hgrow (fun k hk e => by
            obtain ⟨h1, aa, c9, h2, h3⟩ := T6.each j hj
            rw [h2] at hk
            exact own_other h3 O6 (by decide) k hk e.symm), T6.apart, T6.pair⟩
        have X7 := far_blk hgrow X6 hu5
        have HB7 : Below w.heap.size w w7 := HB6.grown hgrow HB6.size (own_ge O6)
        have hu7 : ∀ j, u7.ownBlock = some j → j ≠ w.heap.size := fun j hj => by
          rcases hwhere with hw | hw
          · rw [hw] at hj; exact hu5 j hj
          · rw [hw] at hj; simp at hj; have := lt_of_block X6; rw [sz1] at this; omega
        clear hown hgrow hwhere T6 O6 X6 HB6 hB6
        go_wp2
        go_roundw
        case rel => exact ⟨k + 1, _, _, _, by go_num, by omega, hST2.out, T7, O7, X7, hv5, hu7, HB7⟩
        case measure => simp [intOf]; omega
    · obtain rfl : k = ts.length := by omega
      have hlt' : ¬ (ts.length : Int) < (ts.length : Int) := by omega
      have A : SetAns w n es ts h (.returned (.tuple #[.slice ao out.length cp, .slice mo ms.length mp])) wr := ⟨ao, cp, mo, mp, vs, out, ms, rfl, .inl hST, T, O, HB⟩
      replace A := hide A
      clear hST T O X
      go_wp2
      go_ret2
      exact A.out
end Go.Proofs.YtbghfihlpbcomaaGreat

/- Settle of the model. -/
namespace Go.Proofs.YtbghfihlpbcomaaGreat
open Go.RowKit
theorem TabO.pairs {B n c : Nat} {w : World} {a : Option Addr} {vs : List (Value × Value)} {ts : List TripV} (h : TabO B w (.slice a n c) vs ts) : PairsAt w a vs := by
  rcases h.own.2 with ⟨_, h0⟩ | ⟨g, cap', cur, he, _⟩
  · left
    exact List.length_eq_zero_iff.1 (by rw [h.len]; exact h0)
  · simp only [Value.slice.injEq] at he
    obtain ⟨rfl, rfl, rfl⟩ := he
    refine .inr ⟨g, 0, rfl, fun j u hu => ?_⟩
    have hl := flatP_len vs
    have hj : j < (flatP vs).length := by
      rcases Nat.lt_or_ge j (flatP vs).length with h | h
      · exact h
      · rw [List.getElem?_eq_none h] at hu; cases hu
    have := h.len
    rw [Nat.zero_add, h.own.cellAt _ (by omega)]; exact hu
/-- One trip more, in a new row. -/
theorem TabO.renew {B : Nat} {w3 w4 : World} {v v2 va vb : Value} {vs : List (Value × Value)} {out : List TripV} {t : TripV} (T : TabO B w3 v vs out) (hb : Below w3.heap.size w3 w4)
    (ow : w4.ownsRow w3.heap.size 39 2 v2 (out.length + 1) (flatP (vs ++ [(va, vb)]))) (hT : TripOwn w3 B va vb t) (hB : B ≤ w3.heap.size) (hpr : ∀ j, (hj : j < vs.length) → ∀ k, vs[j].2.ownBlock = some k → vb.ownBlock ≠ some k) : TabO B w4 v2 (vs ++ [(va, vb)]) (out ++ [t]) := by
  have hl := T.len
  have key : ∀ j, (hj : j < vs.length) → (vs ++ [(va, vb)])[j]'(by simp; omega) = vs[j] := fun j hj => List.getElem_append_left hj
  have keyE : (vs ++ [(va, vb)])[vs.length]'(by simp) = (va, vb) := by simp
  refine ⟨?_, by simp [hl], fun j hj => ?_, fun j hj k hk => ?_, pair_push T.pair hpr⟩
  · simpa using own_base ow hB
  · by_cases hjl : j < vs.length
    · rw [key j hjl, sm_app (by omega)]
      exact (T.each j hjl).below hb
    · obtain rfl : j = vs.length := by simp at hj; omega
      rw [keyE, hl, sm_end]
      exact hT.below hb
  · intro e
    have hge := own_from ow (Nat.le_refl _) k e
    by_cases hjl : j < vs.length
    · rw [key j hjl] at hk
      have := (tripOwn_lt (T.each j hjl) k hk).2; omega
    · obtain rfl : j = vs.length := by simp at hj; omega
      rw [keyE] at hk
      have := (tripOwn_lt hT k hk).2; omega

set_option maxRecDepth 100000 in
set_option maxHeartbeats 6400000 in
theorem cSettleS (a : Option Addr) (cap : Nat) (n : Int) (es : List EdgeV) (ta : Option Addr) (tc : Nat) (ts : List TripV) (h : Int) (w : World) (he : Edges w a es) (hl : es.length ≤ 1048576) (hz : Trips w ta ts) (hS : Small ts) :
    Calls Tryz.prog 9 #[.agg #[.int .i64 n, .slice a es.length cap], .slice ta ts.length tc, .int .i64 h] w (SetAns w n es ts h) := by
  obtain ⟨i0, hi, hz0, hz1, hz2⟩ := info_parts infoTrip
  obtain ⟨j0, hj, hj0, hj1, hj2⟩ := info_parts infoI9
  have hW := balloc w (.cells #[.int .i64 n, .slice a es.length cap] 26)
  have X := one_block w (.cells #[.int .i64 n, .slice a es.length cap] 26)
  have hs1 := hS.1
  have CR := cRiddenS a cap n es ta tc ts _ (he.below hW) hl (hz.below hW) hS
  obtain ⟨⟨x0, x1⟩, -⟩ := blk2 X
  go_enter Tryz.func9, Tryz.ntmps9
  go_wp2_with fail
  generalize w.alloc (.cells #[.int .i64 n, .slice a es.length cap] 26) = W at *
  refine CR.mono ?_
  rintro e w1 ⟨r, rfl, hr, hb⟩
  have HB := btrans hW hb
  replace X := blk_keep hb X
  clear hb hW x0 x1 CR
  cases r
  · have A : Hid (SetA n es ts h [] []) := hide (SetA.not_ridden (fun g => by have := hr.2 g; cases this))
    clear hr
    go_wp2
    go_ret2
    exact SetAns.nothing A.out HB
  clear hr
  have hs1' := HB.size
  have hXl := lt_of_block X
  have hx := btrans (balloc w1 (.cells #[] 39)) (balloc _ (.cells #[] 3))
  have oT := World.ownsRow_made (base := w.heap.size) (e := 39) (size := 2) w1 #[] 0 (by omega) (by unfold maxLen; omega) rfl
  have oI := World.ownsRow_made (base := w.heap.size) (e := 3) (size := 1) (w1.alloc (.cells #[] 39)) #[] 0 (by rw [sz1]; omega) (by unfold maxLen; omega) rfl
  rw [sz1] at oI
  have oT2 := own_keep oT (balloc _ (.cells #[] 3))
  have T0 : TabO w.heap.size ((w1.alloc (.cells #[] 39)).alloc (.cells #[] 3)) (.slice (some ⟨w1.heap.size, 0, none⟩) 0 0) [] [] := ⟨oT2, rfl, fun j hj => by simp at hj, fun j hj => by simp at hj, fun i j hi => by simp at hi⟩
  replace HB := btrans HB hx
  replace X := blk_keep hx X
  clear hx oT oT2
  go_wp2
  generalize (w1.alloc (.cells #[] 39)).alloc (.cells #[] 3) = W1 at *
  go_loopw [8, 9, 10, 11] (fun v u i _ wr => SetIn w n es ts h v u i wr (.cells #[.int .i64 n, .slice a es.length cap] 26)) (fun _ _ i _ _ => ts.length - (intOf i).toNat)
  case atStart => exact ⟨0, [], [], [], rfl, Nat.zero_le _, .nil, T0, oI, X, (fun j hj => by simp [Value.ownBlock] at hj; omega), (fun j hj => by simp [Value.ownBlock] at hj; omega), HB⟩
  case round =>
    clear X HB T0 oI hXl hs1'
    obtain ⟨k, vs, out, ms, rfl, hk, hST, T, O, X, hv, hu, HB⟩ := hrel
    have hol : out.length ≤ ts.length := by have := hST.len.1; omega
    have hml : ms.length ≤ ts.length := by have := hST.len.2; omega
    obtain ⟨ao, cp, rfl⟩ := own_form T.own
    obtain ⟨mo, mp, rfl⟩ := own_form O
    by_cases hlt : k < ts.length
    · have hlt' : (k : Int) < (ts.length : Int) := by omega
      have hk0 : (0 : Int) ≤ (k : Int) := by omega
      have hw1 : IntKind.i64.wrap ((k : Int) + 1) = (k : Int) + 1 := wrap_in _ (by omega) (by omega)
      obtain ⟨b, off, ca, cc, rfl, c1, c2, hcap, c3⟩ := (hz.below HB).at hlt
      have hsm := small_at hS hlt
      have hSo := hST.small hS
      have hSN : Hid (∀ r, PushAns n es out (ts.getD k TripV.zero) h r → 0 ≤ r → SetTo n es ts h (k + 1) (out ++ [movedT (ts.getD k TripV.zero) r]) (ms ++ [r])) := hide (fun r h1 h2 => hST.snoc hlt h1 h2)
      have hSX : Hid (PushAns n es out (ts.getD k TripV.zero) h (-1) → SetA n es ts h [] []) := hide (fun h1 => .inr ⟨k, out, ms, hST, hlt, h1, rfl, rfl⟩)
      generalize ts.getD k TripV.zero = t at *
      obtain ⟨s, cs⟩ := t
      dsimp only at *
      have hD : Below wr.heap.size wr wr.drew := bdraw (Below.refl _ _) 1
      obtain ⟨⟨x0, x1⟩, -⟩ := blk2 X
      have CP := cPushS a cap n es ao cp out s ca cc cs h wr.drew (he.below (btrans HB hD)) hl (T.below hD).trips hSo (c3.below hD) hsm.2 hsm.1
      clear hST hD
      go_wp2_with fail
      go_region_held3 (fun w' => w'.cell? ⟨w.heap.size, 0, none⟩ = some (.int .i64 n) ∧ w'.cell? ⟨w.heap.size, 1, none⟩ = some (.slice a es.length cap) ∧ w'.cell? ⟨b, off + k * 2, none⟩ = some (.string s) ∧ w'.cell? ⟨b, off + k * 2 + 1, none⟩ = some (.slice ca cs.length cc)) (go_keep) (first
        | (go_at_call 32; with_reducible refine CP.mono ?_; rintro e w2 ⟨r, rfl, hr, hb2⟩; have Cm := undrew hb2; have v0 := ble Cm x0; have v1 := ble Cm x1; have v2 := ble Cm c1; have v3 := ble Cm c2))
      have hrs := hr.small
      have X2 := blk_keep Cm X
      have T2 := T.below Cm
      have O2 := own_keep O Cm
      have C2 := c3.below Cm
      have HB2 := btrans HB Cm
      clear CP X T O c3 HB Cm hb2 x0 x1 v0 v1 c1 c2
      by_cases hr0 : r < 0
      · obtain rfl : r = -1 := by omega
        have A := hide (hSX.out hr)
        clear hSN hSX hr
        go_wp2
        go_ret2
        exact SetAns.nothing A.out HB2
      · have hST2 := hide (hSN.out r hr (by omega))
        have hfew : out.length ≤ 24 := by obtain ⟨_, _, _, hc, _⟩ := hr.yes (by omega); exact hc.few
        clear hSN hSX hr
        have M := cMovedS s ca cc cs r w2 C2 hsm.2 hsm.1
        go_wp2_with fail
        refine M.mono ?_
        rintro e w3 ⟨qa, qc, rfl, hq, hb3⟩
        generalize movedT ⟨s, cs⟩ r = tm at *
        have X3 := blk_keep hb3 X2
        have T3 := T2.below hb3
        have O3 := own_keep O2 hb3
        have HB3 := btrans HB2 hb3
        have hTo : TripOwn w3 w.heap.size (.string tm.name) (.slice qa tm.calls.length qc) tm := ⟨rfl, qa, qc, rfl, own_base hq HB2.size⟩
        have hpr : ∀ j, (hj : j < vs.length) → ∀ k, vs[j].2.ownBlock = some k → (Value.slice qa tm.calls.length qc).ownBlock ≠ some k := fun j hj k hk e => by
          have h1 := own_from hq (Nat.le_refl _) k e
          have h2 := (tripOwn_lt (T2.each j hj) k hk).2
          omega
        have CW := cWith ao cp vs (.string tm.name) (.slice qa tm.calls.length qc) w3 T3.pairs T3.read.one rfl rfl (by rw [T3.len]; omega)
        rw [T3.len] at CW
        clear M X2 T2 O2 C2 HB2 hb3 hq v2 v3
        go_wp2_with fail
        refine CW.mono ?_
        rintro e w4 ⟨bo, bp, rfl, ow, hb4⟩
        have T5 := T3.renew hb4 ow hTo HB3.size hpr
        have hv5 : ∀ j, (Value.slice bo (out.length + 1) bp).ownBlock = some j → j ≠ w.heap.size := fun j hj => by
          have h1 := own_from ow (Nat.le_refl _) j hj
          have h2 := lt_of_block X3
          omega
        have O5 := own_keep O3 hb4
        have X5 := blk_keep hb4 X3
        have HB5 := btrans HB3 hb4
        clear CW T3 O3 X3 HB3 hTo ow hb4 hpr
        have hx6 := balloc w4 (.cells #[.int .i64 r] 3)
        have hB6 := one_block w4 (.cells #[.int .i64 r] 3)
        have T6 := T5.below hx6
        have O6 := own_keep O5 hx6
        have X6 := blk_keep hx6 X5
        have HB6 := btrans HB5 hx6
        have h6s := HB6.size
        clear T5 O5 X5 HB5 hx6
        go_wp2_with (at_builtin; refine wpList_append_own_at _ rfl _ _ 31 rfl w.heap.size 3 j0 _ 1 8 Tryz.underlying31 hj hj0 hj1 hj2 rfl (by decide) _ _ _ rfl O6 ⟨w4.heap.size, 0, none⟩ 1 1 [.int .i64 r] rfl rfl ?d1 ?d2 ?d3 ?d4 ?d5 ?_)
        case d1 => exact World.news_of_block hB6
        case d2 => simp [Value.oneCell']
        case d3 => unfold maxLen; omega
        case d4 => omega
        case d5 => exact h6s
        intro u7 w7 hown hgrow _ hwhere
        have O7 : w7.ownsRow w.heap.size 3 1 u7 (ms ++ [r]).length ((ms ++ [r]).map (Value.int .i64)) := by simpa using hown
        have T7 : TabO w.heap.size w7 (.slice bo (out.length + 1) bp) (vs ++ [(.string tm.name, .slice qa tm.calls.length qc)]) (out ++ [tm]) := ⟨own_far T6.own hgrow (own_other T6.own O6 (by decide)), T6.len, fun j hj => tripOwn_far (T6.each j hj) hgrow (fun k hk e => by
            obtain ⟨h1, aa, c9, h2, h3⟩ := T6.each j hj
            rw [h2] at hk
            exact own_other h3 O6 (by decide) k hk e.symm), T6.apart, T6.pair⟩
        have X7 := far_blk hgrow X6 hu
        have HB7 : Below w.heap.size w w7 := HB6.grown hgrow HB6.size (own_ge O6)
        have hu7 : ∀ j, u7.ownBlock = some j → j ≠ w.heap.size := fun j hj => by
          rcases hwhere with hw | hw
          · rw [hw] at hj; exact hu j hj
          · rw [hw] at hj; simp at hj; have := lt_of_block X6; rw [sz1] at this; omega
        clear hown hgrow hwhere T6 O6 X6 HB6 hB6
        go_wp2
        go_roundw
        case rel => exact ⟨k + 1, _, _, _, by go_num, by omega, hST2.out, T7, O7, X7, hv5, hu7, HB7⟩
        case measure => simp [intOf]; omega
    · obtain rfl : k = ts.length := by omega
      have hlt' : ¬ (ts.length : Int) < (ts.length : Int) := by omega
      have A : SetAns w n es ts h (.returned (.tuple #[.slice ao out.length cp, .slice mo ms.length mp])) wr := ⟨ao, cp, mo, mp, vs, out, ms, rfl, .inl hST, T, O, HB⟩
      replace A := hide A
      clear hST T O X
      go_wp2
      go_ret2
      exact A.out
end Go.Proofs.YtbghfihlpbcomaaGreat

/- Trips alike, timetables alike, and a sum, as the law asks. -/
namespace Go.Proofs.YtbghfihlpbcomaaGreat
open Go.RowKit

set_option maxRecDepth 20000 in
set_option maxHeartbeats 1600000 in
theorem cSameT (s : ByteArray) (a b : Option Addr) (ca cb : Nat) (cs : List HaltV) (w : World) (h1 : Halts w a cs) (h2 : Halts w b cs) (hl : cs.length ≤ 1048576) :
    Calls Tryz.prog 12 #[.agg #[.string s, .slice a cs.length ca], .agg #[.string s, .slice b cs.length cb]] w fun e w' => e = .returned (.bool true) ∧ Below w.heap.size w w' := by
  have hW := btrans (balloc w (.cells #[.string s, .slice a cs.length ca] 39)) (balloc _ (.cells #[.string s, .slice b cs.length cb] 39))
  have X := blk_keep (balloc _ (.cells #[.string s, .slice b cs.length cb] 39)) (one_block w (.cells #[.string s, .slice a cs.length ca] 39))
  have Y := one_block (w.alloc (.cells #[.string s, .slice a cs.length ca] 39)) (.cells #[.string s, .slice b cs.length cb] 39)
  rw [sz1] at Y
  have g1 := h1.below hW
  have g2 := h2.below hW
  obtain ⟨⟨x0, x1⟩, -⟩ := blk2 X
  obtain ⟨⟨y0, y1⟩, -⟩ := blk2 Y
  go_enter Tryz.func12, Tryz.ntmps12
  go_wp2
  generalize (w.alloc (.cells #[.string s, .slice a cs.length ca] 39)).alloc (.cells #[.string s, .slice b cs.length cb] 39) = W at *
  clear x0 x1 y0 y1 h1 h2
  go_loopw [5] (fun i wr => ∃ k : Nat, k ≤ cs.length ∧ i = .int .i64 k ∧ Below W.heap.size W wr) (fun i _ => cs.length - (intOf i).toNat)
  case atStart => exact ⟨0, Nat.zero_le _, rfl, Below.refl _ _⟩
  case round =>
    obtain ⟨k, hk, rfl, hb⟩ := hrel
    obtain ⟨⟨x0, x1⟩, -⟩ := blk2 (blk_keep hb X)
    obtain ⟨⟨y0, y1⟩, -⟩ := blk2 (blk_keep hb Y)
    by_cases hlt : k < cs.length
    · have hlt' : (k : Int) < (cs.length : Int) := by omega
      have hk0 : (0 : Int) ≤ (k : Int) := by omega
      have hw1 : IntKind.i64.wrap ((k : Int) + 1) = (k : Int) + 1 := wrap_in _ (by omega) (by omega)
      rcases g1 with g | ⟨b1, o1, rfl, q1⟩
      · simp [g] at hlt
      rcases g2 with g | ⟨b2, o2, rfl, q2⟩
      · simp [g] at hlt
      obtain ⟨p0, p1, p2⟩ := q1 k hlt
      obtain ⟨r0, r1, r2⟩ := q2 k hlt
      replace p0 := ble hb p0
      replace p1 := ble hb p1
      replace p2 := ble hb p2
      replace r0 := ble hb r0
      replace r1 := ble hb r1
      replace r2 := ble hb r2
      generalize cs.getD k HaltV.zero = c at *
      obtain ⟨cn, cA, cD⟩ := c
      dsimp only at *
      clear q1 q2
      go_wp2_with fail
      go_quiet (fail)
      go_wp2
      go_roundw
      case rel => exact ⟨k + 1, by omega, by go_num, bdraw hb _⟩
      case measure => simp [intOf]; omega
    · have hlt' : ¬ ((k : Int) < (cs.length : Int)) := by omega
      have HB := btrans hW hb
      go_wp2
      go_ret
      exact ⟨rfl, HB⟩

set_option maxRecDepth 20000 in
set_option maxHeartbeats 1600000 in
theorem cSameTs (a b : Option Addr) (ca cb : Nat) (ts : List TripV) (w : World) (h1 : Trips w a ts) (h2 : Trips w b ts) (hS : Small ts) :
    Calls Tryz.prog 14 #[.slice a ts.length ca, .slice b ts.length cb] w fun e w' => e = .returned (.bool true) ∧ Below w.heap.size w w' := by
  have hl := hS.1
  go_enter Tryz.func14, Tryz.ntmps14
  go_wp2
  go_loopw [5] (fun i wr => ∃ k : Nat, k ≤ ts.length ∧ i = .int .i64 k ∧ Below w.heap.size w wr) (fun i _ => ts.length - (intOf i).toNat)
  case atStart => exact ⟨0, Nat.zero_le _, rfl, Below.refl _ _⟩
  case round =>
    obtain ⟨k, hk, rfl, hb⟩ := hrel
    by_cases hlt : k < ts.length
    · have hlt' : (k : Int) < (ts.length : Int) := by omega
      have hk0 : (0 : Int) ≤ (k : Int) := by omega
      have hw1 : IntKind.i64.wrap ((k : Int) + 1) = (k : Int) + 1 := wrap_in _ (by omega) (by omega)
      have hD : Below wr.heap.size wr wr.drew := bdraw (Below.refl _ _) 1
      obtain ⟨b1, o1, m1, d1, rfl, c1, c2, -, c3⟩ := (h1.below hb).at hlt
      obtain ⟨b2, o2, m2, d2, rfl, e1, e2, -, e3⟩ := (h2.below hb).at hlt
      have hsm := small_at hS hlt
      generalize ts.getD k TripV.zero = t at *
      obtain ⟨s, cs⟩ := t
      dsimp only at *
      have CS := cSameT s m1 m2 d1 d2 cs wr.drew (c3.below hD) (e3.below hD) hsm.2
      clear h1 h2 c3 e3
      go_wp2_with fail
      go_region_held3 (fun w' => w'.cell? ⟨b1, o1 + k * 2, none⟩ = some (.string s) ∧ w'.cell? ⟨b1, o1 + k * 2 + 1, none⟩ = some (.slice m1 cs.length d1) ∧ w'.cell? ⟨b2, o2 + k * 2, none⟩ = some (.string s) ∧ w'.cell? ⟨b2, o2 + k * 2 + 1, none⟩ = some (.slice m2 cs.length d2)) (go_keep) (first
        | (go_at_call 12; with_reducible refine CS.mono ?_; rintro e w2 ⟨rfl, hb2⟩; have Cm := undrew hb2; have v0 := ble Cm c1; have v1 := ble Cm c2; have v2 := ble Cm e1; have v3 := ble Cm e2))
      have HB := btrans hb Cm
      clear CS
      go_wp2
      go_roundw
      case rel => exact ⟨k + 1, by omega, by go_num, HB⟩
      case measure => simp [intOf]; omega
    · have hlt' : ¬ ((k : Int) < (ts.length : Int)) := by omega
      clear h1 h2
      go_wp2
      go_ret
      exact ⟨rfl, hb⟩

set_option maxHeartbeats 800000 in
theorem cSum0 (a : Option Addr) (c N : Nat) (w : World) {B : Nat} (h : w.ownsRow B 3 1 (.slice a N c) N ((List.replicate N (0 : Int)).map (Value.int .i64))) (hl : N ≤ 1048576) :
    Calls Tryz.prog 15 #[.slice a N c] w fun e w' => e = .returned (.int .i64 0) ∧ w' = w := by
  go_enter Tryz.func15, Tryz.ntmps15
  go_wp2
  go_loop [3, 4] (fun s i => ∃ k : Nat, k ≤ N ∧ i = .int .i64 k ∧ s = .int .i64 0) (fun _ i => N - (intOf i).toNat)
  case atStart => exact ⟨0, Nat.zero_le _, rfl, rfl⟩
  case round =>
    obtain ⟨k, hk, rfl, rfl⟩ := hrel
    by_cases hlt : k < N
    · have hlt' : (k : Int) < (N : Int) := by omega
      have hk0 : (0 : Int) ≤ (k : Int) := by omega
      have hw1 : IntKind.i64.wrap ((k : Int) + 1) = (k : Int) + 1 := wrap_in _ (by omega) (by omega)
      rcases h.2 with ⟨he, h0⟩ | ⟨g, cap, cur, he, _⟩
      · omega
      simp only [Value.slice.injEq] at he
      obtain ⟨rfl, -, rfl⟩ := he
      have c0 : w.cell? ⟨g, k, none⟩ = some (.int .i64 0) := by
        rw [h.cellAt k (by omega)]
        simp [hlt]
      clear h
      go_wp2
      go_round
      case rel => exact ⟨k + 1, by omega, by go_num, by first | rfl | simp⟩
      case measure => simp [intOf]; omega
    · have hlt' : ¬ ((k : Int) < (N : Int)) := by omega
      clear h
      go_wp2
      go_ret
      exact ⟨rfl, rfl⟩
end Go.Proofs.YtbghfihlpbcomaaGreat

