/- Lists of trips joined: slices.Grow, slices.Concat; one trip more behind a list. -/
import Derived.Test.YtbghfihlpbcomaaQ
import Derived.Lib.AppendZeros
import Derived.Laws.AppendOwn
namespace Go.Proofs.Ytbghfihlpbcomaa
open Go.RowKit
theorem own_ge {w : World} {base e sz n : Nat} {v : Value} {xs : List Value} (h : w.ownsRow base e sz v n xs) : ∀ k, v.ownBlock = some k → base ≤ k := fun k hk => (h.lt k hk).1
theorem add_offP (b off j : Nat) : (⟨b, off, none⟩ : Addr).add j = ⟨b, off + j, none⟩ := by
  by_cases h : j = 0
  · subst h; simp [Addr.add]
  · simp [Addr.add, h]
set_option maxRecDepth 100000 in
set_option maxHeartbeats 1600000 in
theorem cGrowT (n : Nat) (w : World) (hn : n ≤ 1048576) :
    Calls Try.prog 86 #[.slice none 0 0, .int .i64 n] w fun e w' => ∃ v, e = .returned v ∧ w'.ownsRow w.heap.size 35 2 v 0 [] ∧ Below w.heap.size w w' := by
  obtain ⟨i0, hi, hz0, hz1, hz2⟩ := info_parts infoTrip
  by_cases h0 : n = 0
  · subst h0
    go_enter Try.func86, Try.ntmps86
    go_wp2
    go_ret
    exact ⟨_, rfl, World.ownsRow_nil _ _ _ _, Below.refl _ _⟩
  · have h0' : (0 : Int) < (n : Int) := by omega
    have hr : ∀ ty, Hid _ := fun ty => hide (Go.Lib.run_append_nil_zeros (P := Try.prog) w 27 3 ty 35 i0 (.agg #[.string ⟨#[]⟩, .slice none 0 0]) .i64 .i64 Try.underlying27 Try.underlying3 hi hz0 n (by omega) (by omega) (by omega) (by rw [hz2]; omega))
    go_enter Try.func86, Try.ntmps86
    go_wp2_with (at_builtin; refine Go.Lib.wpList_append_run _ rfl _ _ _ _ rfl _ _ rfl rfl _ _ (hr _).out ?_)
    go_ret
    have hcap : n ≤ grownCap w n 0 35 := grownCap_ge w n 0 35
    refine ⟨_, rfl, World.ownsRow_made w.drew _ (grownCap w n 0 35) (Nat.le_refl _) (grownCap_le_maxLen w n 0 35 (by unfold maxLen; omega)) ?_, btrans (Below.refl _ w).drew (balloc w.drew _)⟩
    rw [Array.size_append, size_zeroCells, size_zeroCells]
    simp
    omega

/-- The cells of a list of trips, pair by pair, from a place on. -/
def PairsAt (w : World) (a : Option Addr) (vs : List (Value × Value)) : Prop :=
  vs = [] ∨ ∃ b off, a = some ⟨b, off, none⟩ ∧ ∀ j u, (flatP vs)[j]? = some u → w.cell? ⟨b, off + j, none⟩ = some u
theorem PairsAt.below {w w1 : World} {a : Option Addr} {vs : List (Value × Value)} (h : PairsAt w a vs) (hb : Below w.heap.size w w1) : PairsAt w1 a vs := by
  rcases h with h | ⟨b, off, ha, hc⟩
  · exact .inl h
  · exact .inr ⟨b, off, ha, fun j u hu => ble hb (hc j u hu)⟩
/-- Each pair is a trip's two cells. -/
def TripsIn (w : World) (vs : List (Value × Value)) (ts : List TripV) : Prop := vs.length = ts.length ∧ ∀ i, (hi : i < vs.length) → TripIn w vs[i].1 vs[i].2 (ts.getD i TripV.zero)
theorem TripsIn.below {w w1 : World} {vs : List (Value × Value)} {ts : List TripV} (h : TripsIn w vs ts) (hb : Below w.heap.size w w1) : TripsIn w1 vs ts := ⟨h.1, fun i hi => (h.2 i hi).below hb⟩
theorem TripsIn.one {w : World} {vs : List (Value × Value)} {ts : List TripV} (h : TripsIn w vs ts) : ∀ u ∈ flatP vs, u.oneCell' = true := by
  intro u hu
  obtain ⟨j, hj, rfl⟩ := List.mem_iff_getElem.1 hu
  have hl := flatP_len vs
  have hi : j / 2 < vs.length := by omega
  obtain ⟨q1, q2⟩ := flatP_get vs (j / 2) hi
  obtain ⟨e1, a, c, e2, _, _⟩ := h.2 (j / 2) hi
  rcases Nat.mod_two_eq_zero_or_one j with hm | hm
  · have : j / 2 * 2 = j := by omega
    rw [this, List.getElem?_eq_getElem hj] at q1
    rw [Option.some.inj q1, e1]; rfl
  · have : j / 2 * 2 + 1 = j := by omega
    rw [this, List.getElem?_eq_getElem hj] at q2
    rw [Option.some.inj q2, e2]; rfl
theorem TripsIn.app {w : World} {vs us : List (Value × Value)} {ts ss : List TripV} (h : TripsIn w vs ts) (g : TripsIn w us ss) : TripsIn w (vs ++ us) (ts ++ ss) := by
  refine ⟨by simp [h.1, g.1], fun i hi => ?_⟩
  by_cases hlt : i < vs.length
  · have e : (ts ++ ss).getD i TripV.zero = ts.getD i TripV.zero := by
      have := h.1
      simp only [List.getD, List.getElem?_append_left (show i < ts.length by omega)]
    rw [e]
    simpa [List.getElem_append_left hlt] using h.2 i hlt
  · have hle : vs.length ≤ i := by omega
    have e : (ts ++ ss).getD i TripV.zero = ss.getD (i - vs.length) TripV.zero := by
      have := h.1
      simp only [List.getD, List.getElem?_append_right (show ts.length ≤ i by omega), this]
    rw [e]
    have hi2 : i - vs.length < us.length := by simp at hi; omega
    simpa [List.getElem_append_right hle] using g.2 _ hi2
theorem Trips.pairs {w : World} {a : Option Addr} {ts : List TripV} (h : Trips w a ts) : ∃ vs, PairsAt w a vs ∧ TripsIn w vs ts := by
  rcases h with h | ⟨b, off, ha, hc⟩
  · subst h
    exact ⟨[], .inl rfl, rfl, fun i hi => by simp at hi⟩
  have hx : ∀ i : Nat, ∃ q : Value × Value, i < ts.length → w.cell? ⟨b, off + i * 2, none⟩ = some q.1 ∧ w.cell? ⟨b, off + i * 2 + 1, none⟩ = some q.2 ∧ TripIn w q.1 q.2 (ts.getD i TripV.zero) := by
    intro i
    by_cases hi : i < ts.length
    · obtain ⟨va, vb, h1, h2, h3⟩ := hc i hi
      exact ⟨(va, vb), fun _ => ⟨h1, h2, h3⟩⟩
    · exact ⟨(.string ⟨#[]⟩, .slice none 0 0), fun h => absurd h hi⟩
  obtain ⟨q, hq⟩ := Classical.axiomOfChoice hx
  have hlen : ((List.range ts.length).map q).length = ts.length := by simp
  refine ⟨(List.range ts.length).map q, .inr ⟨b, off, ha, fun j u hu => ?_⟩, hlen, fun i hi => ?_⟩
  · have hj : j < (flatP ((List.range ts.length).map q)).length := by
      rcases Nat.lt_or_ge j (flatP ((List.range ts.length).map q)).length with h | h
      · exact h
      · rw [List.getElem?_eq_none h] at hu; cases hu
    rw [flatP_len, hlen] at hj
    have hi : j / 2 < ((List.range ts.length).map q).length := by rw [hlen]; omega
    obtain ⟨q1, q2⟩ := flatP_get ((List.range ts.length).map q) (j / 2) hi
    simp only [List.getElem_map, List.getElem_range] at q1 q2
    obtain ⟨c1, c2, _⟩ := hq (j / 2) (by omega)
    rcases Nat.mod_two_eq_zero_or_one j with hm | hm
    · have e : j / 2 * 2 = j := by omega
      rw [e] at q1 c1
      rw [q1] at hu; cases hu; exact c1
    · have e : j / 2 * 2 + 1 = j := by omega
      rw [e] at q2
      rw [Nat.add_assoc, e] at c2
      rw [q2] at hu; cases hu; exact c2
  · simp only [List.getElem_map, List.getElem_range]
    exact (hq i (by rw [hlen] at hi; exact hi)).2.2
theorem Trips.of_pairs {w : World} {base n c : Nat} {a : Option Addr} {vs : List (Value × Value)} {ts : List TripV} (h : w.ownsRow base 35 2 (.slice a n c) n (flatP vs)) (g : TripsIn w vs ts) : Trips w a ts := by
  have hl := h.1
  rw [flatP_len, g.1] at hl
  rcases h.2 with ⟨_, h0⟩ | ⟨gb, cap', cur, he, _⟩
  · left
    exact List.length_eq_zero_iff.1 (by omega)
  · simp only [Value.slice.injEq] at he
    obtain ⟨rfl, _, rfl⟩ := he
    refine .inr ⟨gb, 0, rfl, fun i hi => ?_⟩
    have hi' : i < vs.length := by have := g.1; omega
    obtain ⟨q1, q2⟩ := flatP_get vs i hi'
    refine ⟨_, _, ?_, ?_, g.2 i hi'⟩
    · rw [Nat.zero_add, h.cellAt _ (by omega)]; exact q1
    · rw [Nat.zero_add, h.cellAt _ (by omega)]; exact q2

/-- What Concat has put together behind k of two lists. -/
def preP (xs ys : List (Value × Value)) : Nat → List (Value × Value)
  | 0 => []
  | 1 => xs
  | _ => xs ++ ys
set_option maxRecDepth 100000 in
set_option maxHeartbeats 3200000 in
theorem cConcatT (g b1 o1 p1 b2 o2 p2 : Nat) (xs ys : List (Value × Value)) (w : World) (h1 : ∀ j u, (flatP xs)[j]? = some u → w.cell? ⟨b1, o1 + j, none⟩ = some u) (h2 : ∀ j u, (flatP ys)[j]? = some u → w.cell? ⟨b2, o2 + j, none⟩ = some u) (hl1 : xs.length ≤ 60) (hl2 : ys.length ≤ 60)
    (n1 : ∀ u ∈ flatP xs, u.oneCell' = true) (n2 : ∀ u ∈ flatP ys, u.oneCell' = true)
    (hg0 : w.cell? ⟨g, 0, none⟩ = some (.slice (some ⟨b1, o1, none⟩) xs.length p1)) (hg1 : w.cell? ⟨g, 1, none⟩ = some (.slice (some ⟨b2, o2, none⟩) ys.length p2)) :
    Calls Try.prog 69 #[.slice (some ⟨g, 0, none⟩) 2 2] w fun e w' => ∃ ao cp, e = .returned (.slice ao (xs ++ ys).length cp) ∧ w'.ownsRow w.heap.size 35 2 (.slice ao (xs ++ ys).length cp) (xs ++ ys).length (flatP (xs ++ ys)) ∧ Below w.heap.size w w' := by
  obtain ⟨i0, hi, hz0, hz1, hz2⟩ := info_parts infoTrip
  go_enter Try.func69, Try.ntmps69
  go_wp2
  go_loop [3, 5, 11] (fun s _ i => ∃ k : Nat, k ≤ 2 ∧ i = .int .i64 k ∧ s = .int .i64 (preP xs ys k).length) (fun _ _ i => 2 - (intOf i).toNat)
  case atStart => exact ⟨0, by omega, rfl, rfl⟩
  case round =>
    obtain ⟨k, hk, rfl, rfl⟩ := hrel
    have hk' : k = 0 ∨ k = 1 ∨ k = 2 := by omega
    rcases hk' with rfl | rfl | rfl
    · have e0 : (preP xs ys 0).length = 0 := rfl
      rw [e0]
      go_wp2
      go_round
      case rel => exact ⟨1, by omega, rfl, by simp [preP]⟩
      case measure => simp [intOf]
    · have e1 : (preP xs ys 1).length = xs.length := rfl
      rw [e1]
      go_wp2
      go_round
      case rel => exact ⟨2, by omega, rfl, by simp [preP]⟩
      case measure => simp [intOf]
    · have e1 : (preP xs ys 2).length = xs.length + ys.length := by simp [preP]
      rw [e1]
      go_wp2_with fail
      rw [← Int.natCast_add]
      refine (cGrowT (xs.length + ys.length) w (by omega)).mono ?_
      rintro e w1 ⟨v, rfl, hown0, hb0⟩
      clear e1
      go_wp2
      go_loopw [6, 8, 27] (fun v _ i wr => ∃ k : Nat, k ≤ 2 ∧ i = .int .i64 k ∧ wr.ownsRow w.heap.size 35 2 v (preP xs ys k).length (flatP (preP xs ys k)) ∧ Below w.heap.size w wr) (fun _ _ i _ => 2 - (intOf i).toNat)
      case atStart => exact ⟨0, by omega, rfl, hown0, hb0⟩
      case round =>
        obtain ⟨k, hk, rfl, hown, hb⟩ := hrel
        have G1 := fun j u (hu : (flatP xs)[j]? = some u) => ble hb (h1 j u hu)
        have G2 := fun j u (hu : (flatP ys)[j]? = some u) => ble hb (h2 j u hu)
        have g0 := ble hb hg0
        have g1 := ble hb hg1
        have hk' : k = 0 ∨ k = 1 ∨ k = 2 := by omega
        rcases hk' with rfl | rfl | rfl
        · have e1 : (preP xs ys 0).length = 0 := rfl
          go_wp2_with (at_builtin; refine wpList_append_own _ rfl _ _ _ rfl w.heap.size 35 i0 (.agg #[.string ⟨#[]⟩, .slice none 0 0]) 2 40 Try.underlying27 hi hz0 hz1 hz2 rfl (by decide) u6 (preP xs ys 0).length (flatP (preP xs ys 0)) rfl hown ⟨b1, o1, none⟩ xs.length p1 (flatP xs) rfl (flatP_len _) (by intro j u hj; rw [add_offP]; exact G1 j u hj) n1 (by rw [e1]; unfold maxLen; omega) (by rw [e1]; omega) hb.size ?_; intro v' w' hown' hgrow hiff)
          have hb' : Below w.heap.size w w' := hb.grown hgrow hb.size (own_ge hown)
          clear hgrow hiff hown
          go_roundw
          case rel => exact ⟨1, by omega, rfl, by simpa [preP, flatP] using hown', hb'⟩
          case measure => simp [intOf]
        · have e1 : (preP xs ys 1).length = xs.length := rfl
          go_wp2_with (at_builtin; refine wpList_append_own _ rfl _ _ _ rfl w.heap.size 35 i0 (.agg #[.string ⟨#[]⟩, .slice none 0 0]) 2 40 Try.underlying27 hi hz0 hz1 hz2 rfl (by decide) u6 (preP xs ys 1).length (flatP (preP xs ys 1)) rfl hown ⟨b2, o2, none⟩ ys.length p2 (flatP ys) rfl (flatP_len _) (by intro j u hj; rw [add_offP]; exact G2 j u hj) n2 (by rw [e1]; unfold maxLen; omega) (by rw [e1]; omega) hb.size ?_; intro v' w' hown' hgrow hiff)
          have hb' : Below w.heap.size w w' := hb.grown hgrow hb.size (own_ge hown)
          clear hgrow hiff hown
          go_roundw
          case rel => exact ⟨2, by omega, rfl, by simpa [preP, flatP_app] using hown', hb'⟩
          case measure => simp [intOf]
        · have hv : ∃ ao cp, u6 = .slice ao (xs ++ ys).length cp := by
            rcases hown.2 with ⟨h, h0⟩ | ⟨g', cap, cur, h, _⟩
            · have h0' : (xs ++ ys).length = 0 := h0
              exact ⟨none, 0, by rw [h0']; exact h⟩
            · exact ⟨_, cap, h⟩
          obtain ⟨ao, cp, rfl⟩ := hv
          go_wp2
          go_ret
          exact ⟨ao, cp, rfl, hown, hb⟩
end Go.Proofs.Ytbghfihlpbcomaa
