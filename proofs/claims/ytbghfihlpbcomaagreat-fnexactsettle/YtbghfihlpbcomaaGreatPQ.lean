/- Lists of trips joined: slices.Grow, slices.Concat; one trip more behind a list. -/
import Derived.Test.YtbghfihlpbcomaaGreatQ
import Derived.Lib.AppendZeros
import Derived.Laws.AppendOwn
import Derived.Test.YtbghfihlpbcomaaGreatWG
import Derived.Test.YtbghfihlpbcomaaGreatK
import Derived.Deep.RegionHeld3
namespace Go.Proofs.YtbghfihlpbcomaaGreat
open Go.RowKit
theorem own_ge {w : World} {base e sz n : Nat} {v : Value} {xs : List Value} (h : w.ownsRow base e sz v n xs) : ∀ k, v.ownBlock = some k → base ≤ k := fun k hk => (h.lt k hk).1
theorem add_offP (b off j : Nat) : (⟨b, off, none⟩ : Addr).add j = ⟨b, off + j, none⟩ := by
  by_cases h : j = 0
  · subst h; simp [Addr.add]
  · simp [Addr.add, h]
set_option maxRecDepth 100000 in
set_option maxHeartbeats 1600000 in
theorem cGrowT (n : Nat) (w : World) (hn : n ≤ 1048576) :
    Calls Tryz.prog 78 #[.slice none 0 0, .int .i64 n] w fun e w' => ∃ v, e = .returned v ∧ w'.ownsRow w.heap.size 39 2 v 0 [] ∧ Below w.heap.size w w' := by
  obtain ⟨i0, hi, hz0, hz1, hz2⟩ := info_parts infoTrip
  by_cases h0 : n = 0
  · subst h0
    go_enter Tryz.func78, Tryz.ntmps78
    go_wp2
    go_ret
    exact ⟨_, rfl, World.ownsRow_nil _ _ _ _, Below.refl _ _⟩
  · have h0' : (0 : Int) < (n : Int) := by omega
    have hr : ∀ ty, Hid _ := fun ty => hide (Go.Lib.run_append_nil_zeros (P := Tryz.prog) w 27 3 ty 39 i0 (.agg #[.string ⟨#[]⟩, .slice none 0 0]) .i64 .i64 Tryz.underlying27 Tryz.underlying3 hi hz0 n (by omega) (by omega) (by omega) (by rw [hz2]; omega))
    go_enter Tryz.func78, Tryz.ntmps78
    go_wp2_with (at_builtin; refine Go.Lib.wpList_append_run _ rfl _ _ _ _ rfl _ _ rfl rfl _ _ (hr _).out ?_)
    go_ret
    have hcap : n ≤ grownCap w n 0 39 := grownCap_ge w n 0 39
    refine ⟨_, rfl, World.ownsRow_made w.drew _ (grownCap w n 0 39) (Nat.le_refl _) (grownCap_le_maxLen w n 0 39 (by unfold maxLen; omega)) ?_, btrans (Below.refl _ w).drew (balloc w.drew _)⟩
    rw [Array.size_append, size_zeroCells, size_zeroCells]
    simp
    omega

/-- The cells of a list of trips, pair by pair, from a place on. -/
def PairsAt (w : World) (a : Option Addr) (vs : List (Value × Value)) : Prop :=
  vs = [] ∨ ∃ b off, a = some ⟨b, off, none⟩ ∧ ∀ j u, (flatP vs)[j]? = some u → w.cell? ⟨b, off + j, none⟩ = some u
theorem PairsAt.below {w w1 : World} {a : Option Addr} {vs : List (Value × Value)} (h : PairsAt w a vs) (hb : Below w.heap.size w w1) : PairsAt w1 a vs := by
  rcases h with h | ⟨b, off, ha, hc⟩
  · exact .inl h
  · exact .inr ⟨b, off, ha, fun j u hu => ble hb (hc j u hu)⟩
/-- Each pair is a trip's two cells. -/
def TripsIn (w : World) (vs : List (Value × Value)) (ts : List TripV) : Prop := vs.length = ts.length ∧ ∀ i, (hi : i < vs.length) → TripIn w vs[i].1 vs[i].2 (ts.getD i TripV.zero)
theorem TripsIn.below {w w1 : World} {vs : List (Value × Value)} {ts : List TripV} (h : TripsIn w vs ts) (hb : Below w.heap.size w w1) : TripsIn w1 vs ts := ⟨h.1, fun i hi => (h.2 i hi).below hb⟩
theorem TripsIn.one {w : World} {vs : List (Value × Value)} {ts : List TripV} (h : TripsIn w vs ts) : ∀ u ∈ flatP vs, u.oneCell' = true := by
  intro u hu
  obtain ⟨j, hj, rfl⟩ := List.mem_iff_getElem.1 hu
  have hl := flatP_len vs
  have hi : j / 2 < vs.length := by omega
  obtain ⟨q1, q2⟩ := flatP_get vs (j / 2) hi
  obtain ⟨e1, a, c, e2, _, _⟩ := h.2 (j / 2) hi
  rcases Nat.mod_two_eq_zero_or_one j with hm | hm
  · have : j / 2 * 2 = j := by omega
    rw [this, List.getElem?_eq_getElem hj] at q1
    rw [Option.some.inj q1, e1]; rfl
  · have : j / 2 * 2 + 1 = j := by omega
    rw [this, List.getElem?_eq_getElem hj] at q2
    rw [Option.some.inj q2, e2]; rfl
theorem TripsIn.app {w : World} {vs us : List (Value × Value)} {ts ss : List TripV} (h : TripsIn w vs ts) (g : TripsIn w us ss) : TripsIn w (vs ++ us) (ts ++ ss) := by
  refine ⟨by simp [h.1, g.1], fun i hi => ?_⟩
  by_cases hlt : i < vs.length
  · have e : (ts ++ ss).getD i TripV.zero = ts.getD i TripV.zero := by
      have := h.1
      simp only [List.getD, List.getElem?_append_left (show i < ts.length by omega)]
    rw [e]
    simpa [List.getElem_append_left hlt] using h.2 i hlt
  · have hle : vs.length ≤ i := by omega
    have e : (ts ++ ss).getD i TripV.zero = ss.getD (i - vs.length) TripV.zero := by
      have := h.1
      simp only [List.getD, List.getElem?_append_right (show ts.length ≤ i by omega), this]
    rw [e]
    have hi2 : i - vs.length < us.length := by simp at hi; omega
    simpa [List.getElem_append_right hle] using g.2 _ hi2
theorem Trips.pairs {w : World} {a : Option Addr} {ts : List TripV} (h : Trips w a ts) : ∃ vs, PairsAt w a vs ∧ TripsIn w vs ts := by
  rcases h with h | ⟨b, off, ha, hc⟩
  · subst h
    exact ⟨[], .inl rfl, rfl, fun i hi => by simp at hi⟩
  have hx : ∀ i : Nat, ∃ q : Value × Value, i < ts.length → w.cell? ⟨b, off + i * 2, none⟩ = some q.1 ∧ w.cell? ⟨b, off + i * 2 + 1, none⟩ = some q.2 ∧ TripIn w q.1 q.2 (ts.getD i TripV.zero) := by
    intro i
    by_cases hi : i < ts.length
    · obtain ⟨va, vb, h1, h2, h3⟩ := hc i hi
      exact ⟨(va, vb), fun _ => ⟨h1, h2, h3⟩⟩
    · exact ⟨(.string ⟨#[]⟩, .slice none 0 0), fun h => absurd h hi⟩
  obtain ⟨q, hq⟩ := Classical.axiomOfChoice hx
  have hlen : ((List.range ts.length).map q).length = ts.length := by simp
  refine ⟨(List.range ts.length).map q, .inr ⟨b, off, ha, fun j u hu => ?_⟩, hlen, fun i hi => ?_⟩
  · have hj : j < (flatP ((List.range ts.length).map q)).length := by
      rcases Nat.lt_or_ge j (flatP ((List.range ts.length).map q)).length with h | h
      · exact h
      · rw [List.getElem?_eq_none h] at hu; cases hu
    rw [flatP_len, hlen] at hj
    have hi : j / 2 < ((List.range ts.length).map q).length := by rw [hlen]; omega
    obtain ⟨q1, q2⟩ := flatP_get ((List.range ts.length).map q) (j / 2) hi
    simp only [List.getElem_map, List.getElem_range] at q1 q2
    obtain ⟨c1, c2, _⟩ := hq (j / 2) (by omega)
    rcases Nat.mod_two_eq_zero_or_one j with hm | hm
    · have e : j / 2 * 2 = j := by omega
      rw [e] at q1 c1
      rw [q1] at hu; cases hu; exact c1
    · have e : j / 2 * 2 + 1 = j := by omega
      rw [e] at q2
      rw [Nat.add_assoc, e] at c2
      rw [q2] at hu; cases hu; exact c2
  · simp only [List.getElem_map, List.getElem_range]
    exact (hq i (by rw [hlen] at hi; exact hi)).2.2
theorem Trips.of_pairs {w : World} {base n c : Nat} {a : Option Addr} {vs : List (Value × Value)} {ts : List TripV} (h : w.ownsRow base 39 2 (.slice a n c) n (flatP vs)) (g : TripsIn w vs ts) : Trips w a ts := by
  have hl := h.1
  rw [flatP_len, g.1] at hl
  rcases h.2 with ⟨_, h0⟩ | ⟨gb, cap', cur, he, _⟩
  · left
    exact List.length_eq_zero_iff.1 (by omega)
  · simp only [Value.slice.injEq] at he
    obtain ⟨rfl, _, rfl⟩ := he
    refine .inr ⟨gb, 0, rfl, fun i hi => ?_⟩
    have hi' : i < vs.length := by have := g.1; omega
    obtain ⟨q1, q2⟩ := flatP_get vs i hi'
    refine ⟨_, _, ?_, ?_, g.2 i hi'⟩
    · rw [Nat.zero_add, h.cellAt _ (by omega)]; exact q1
    · rw [Nat.zero_add, h.cellAt _ (by omega)]; exact q2

/-- What Concat has put together behind k of two lists. -/
def preP (xs ys : List (Value × Value)) : Nat → List (Value × Value)
  | 0 => []
  | 1 => xs
  | _ => xs ++ ys
set_option maxRecDepth 100000 in
set_option maxHeartbeats 3200000 in
theorem cConcatT (g b1 o1 p1 b2 o2 p2 : Nat) (xs ys : List (Value × Value)) (w : World) (h1 : ∀ j u, (flatP xs)[j]? = some u → w.cell? ⟨b1, o1 + j, none⟩ = some u) (h2 : ∀ j u, (flatP ys)[j]? = some u → w.cell? ⟨b2, o2 + j, none⟩ = some u) (hl1 : xs.length ≤ 60) (hl2 : ys.length ≤ 60)
    (n1 : ∀ u ∈ flatP xs, u.oneCell' = true) (n2 : ∀ u ∈ flatP ys, u.oneCell' = true)
    (hg0 : w.cell? ⟨g, 0, none⟩ = some (.slice (some ⟨b1, o1, none⟩) xs.length p1)) (hg1 : w.cell? ⟨g, 1, none⟩ = some (.slice (some ⟨b2, o2, none⟩) ys.length p2)) :
    Calls Tryz.prog 55 #[.slice (some ⟨g, 0, none⟩) 2 2] w fun e w' => ∃ ao cp, e = .returned (.slice ao (xs ++ ys).length cp) ∧ w'.ownsRow w.heap.size 39 2 (.slice ao (xs ++ ys).length cp) (xs ++ ys).length (flatP (xs ++ ys)) ∧ Below w.heap.size w w' := by
  obtain ⟨i0, hi, hz0, hz1, hz2⟩ := info_parts infoTrip
  go_enter Tryz.func55, Tryz.ntmps55
  go_wp2
  go_loop [3, 5, 11] (fun s _ i => ∃ k : Nat, k ≤ 2 ∧ i = .int .i64 k ∧ s = .int .i64 (preP xs ys k).length) (fun _ _ i => 2 - (intOf i).toNat)
  case atStart => exact ⟨0, by omega, rfl, rfl⟩
  case round =>
    obtain ⟨k, hk, rfl, rfl⟩ := hrel
    have hk' : k = 0 ∨ k = 1 ∨ k = 2 := by omega
    rcases hk' with rfl | rfl | rfl
    · have e0 : (preP xs ys 0).length = 0 := rfl
      rw [e0]
      go_wp2
      go_round
      case rel => exact ⟨1, by omega, rfl, by simp [preP]⟩
      case measure => simp [intOf]
    · have e1 : (preP xs ys 1).length = xs.length := rfl
      rw [e1]
      go_wp2
      go_round
      case rel => exact ⟨2, by omega, rfl, by simp [preP]⟩
      case measure => simp [intOf]
    · have e1 : (preP xs ys 2).length = xs.length + ys.length := by simp [preP]
      rw [e1]
      go_wp2_with fail
      rw [← Int.natCast_add]
      refine (cGrowT (xs.length + ys.length) w (by omega)).mono ?_
      rintro e w1 ⟨v, rfl, hown0, hb0⟩
      clear e1
      go_wp2
      go_loopw [6, 8, 27] (fun v _ i wr => ∃ k : Nat, k ≤ 2 ∧ i = .int .i64 k ∧ wr.ownsRow w.heap.size 39 2 v (preP xs ys k).length (flatP (preP xs ys k)) ∧ Below w.heap.size w wr) (fun _ _ i _ => 2 - (intOf i).toNat)
      case atStart => exact ⟨0, by omega, rfl, hown0, hb0⟩
      case round =>
        obtain ⟨k, hk, rfl, hown, hb⟩ := hrel
        have G1 := fun j u (hu : (flatP xs)[j]? = some u) => ble hb (h1 j u hu)
        have G2 := fun j u (hu : (flatP ys)[j]? = some u) => ble hb (h2 j u hu)
        have g0 := ble hb hg0
        have g1 := ble hb hg1
        have hk' : k = 0 ∨ k = 1 ∨ k = 2 := by omega
        rcases hk' with rfl | rfl | rfl
        · have e1 : (preP xs ys 0).length = 0 := rfl
          go_wp2_with (at_builtin; refine wpList_append_own _ rfl _ _ _ rfl w.heap.size 39 i0 (.agg #[.string ⟨#[]⟩, .slice none 0 0]) 2 40 Tryz.underlying27 hi hz0 hz1 hz2 rfl (by decide) u6 (preP xs ys 0).length (flatP (preP xs ys 0)) rfl hown ⟨b1, o1, none⟩ xs.length p1 (flatP xs) rfl (flatP_len _) (by intro j u hj; rw [add_offP]; exact G1 j u hj) n1 (by rw [e1]; unfold maxLen; omega) (by rw [e1]; omega) hb.size ?_; intro v' w' hown' hgrow hiff)
          have hb' : Below w.heap.size w w' := hb.grown hgrow hb.size (own_ge hown)
          clear hgrow hiff hown
          go_roundw
          case rel => exact ⟨1, by omega, rfl, by simpa [preP, flatP] using hown', hb'⟩
          case measure => simp [intOf]
        · have e1 : (preP xs ys 1).length = xs.length := rfl
          go_wp2_with (at_builtin; refine wpList_append_own _ rfl _ _ _ rfl w.heap.size 39 i0 (.agg #[.string ⟨#[]⟩, .slice none 0 0]) 2 40 Tryz.underlying27 hi hz0 hz1 hz2 rfl (by decide) u6 (preP xs ys 1).length (flatP (preP xs ys 1)) rfl hown ⟨b2, o2, none⟩ ys.length p2 (flatP ys) rfl (flatP_len _) (by intro j u hj; rw [add_offP]; exact G2 j u hj) n2 (by rw [e1]; unfold maxLen; omega) (by rw [e1]; omega) hb.size ?_; intro v' w' hown' hgrow hiff)
          have hb' : Below w.heap.size w w' := hb.grown hgrow hb.size (own_ge hown)
          clear hgrow hiff hown
          go_roundw
          case rel => exact ⟨2, by omega, rfl, by simpa [preP, flatP_app] using hown', hb'⟩
          case measure => simp [intOf]
        · have hv : ∃ ao cp, u6 = .slice ao (xs ++ ys).length cp := by
            rcases hown.2 with ⟨h, h0⟩ | ⟨g', cap, cur, h, _⟩
            · have h0' : (xs ++ ys).length = 0 := h0
              exact ⟨none, 0, by rw [h0']; exact h⟩
            · exact ⟨_, cap, h⟩
          obtain ⟨ao, cp, rfl⟩ := hv
          go_wp2
          go_ret
          exact ⟨ao, cp, rfl, hown, hb⟩
end Go.Proofs.YtbghfihlpbcomaaGreat

/- One trip more behind a list: of the model. -/
namespace Go.Proofs.YtbghfihlpbcomaaGreat
open Go.RowKit
theorem flatP_snoc (vs : List (Value × Value)) (q : Value × Value) : flatP (vs ++ [q]) = flatP vs ++ [q.1, q.2] := by simp [flatP]
theorem TripsIn.snoc {w : World} {vs : List (Value × Value)} {ts : List TripV} (h : TripsIn w vs ts) {va vb : Value} {t : TripV} (g : TripIn w va vb t) : TripsIn w (vs ++ [(va, vb)]) (ts ++ [t]) :=
  h.app ⟨rfl, fun i hi => by
    have : i = 0 := by simp at hi; exact hi
    subst this
    simpa using g⟩
theorem own_app2 {B : Nat} {w : World} {v : Value} {n : Nat} {vs : List (Value × Value)} {va vb : Value} (h : w.ownsRow B 39 2 v (n + 1) (flatP vs ++ [va, vb])) : w.ownsRow B 39 2 v (n + 1) (flatP (vs ++ [(va, vb)])) := by
  rw [flatP_snoc]; exact h

set_option maxRecDepth 100000 in
set_option maxHeartbeats 3200000 in
theorem cWith (a : Option Addr) (cap : Nat) (vs : List (Value × Value)) (va vb : Value) (w : World) (h1 : PairsAt w a vs) (n1 : ∀ u ∈ flatP vs, u.oneCell' = true) (n2 : va.oneCell' = true) (n3 : vb.oneCell' = true) (hl : vs.length ≤ 60) :
    Calls Tryz.prog 33 #[.slice a vs.length cap, .agg #[va, vb]] w fun e w' => ∃ ao cp, e = .returned (.slice ao (vs.length + 1) cp) ∧ w'.ownsRow w.heap.size 39 2 (.slice ao (vs.length + 1) cp) (vs.length + 1) (flatP (vs ++ [(va, vb)])) ∧ Below w.heap.size w w' := by
  obtain ⟨i0, hi, hz0, hz1, hz2⟩ := info_parts infoTrip
  have X := one_block w (.cells #[va, vb] 39)
  have hW := balloc w (.cells #[va, vb] 39)
  go_enter Tryz.func33, Tryz.ntmps33
  have hO : ((w.alloc (.cells #[va, vb] 39)).alloc (.cells #[] 39)).ownsRow (w.heap.size + 1) 39 2 (.slice (some ⟨w.heap.size + 1, 0, none⟩) 0 0) 0 (flatP []) := by
    have := World.ownsRow_made (base := w.heap.size + 1) (e := 39) (size := 2) (w.alloc (.cells #[va, vb] 39)) #[] 0 (by simp) (by unfold maxLen; omega) rfl
    rw [sz1] at this
    exact this
  have hB0 : Below (w.heap.size + 1) (w.alloc (.cells #[va, vb] 39)) ((w.alloc (.cells #[va, vb] 39)).alloc (.cells #[] 39)) := by
    have := balloc (w.alloc (.cells #[va, vb] 39)) (.cells #[] 39)
    rwa [sz1] at this
  go_wp2
  go_loopw [5, 6] (fun v i wr => ∃ k : Nat, k ≤ vs.length ∧ i = .int .i64 k ∧ wr.ownsRow (w.heap.size + 1) 39 2 v k (flatP (vs.take k)) ∧ Below (w.heap.size + 1) (w.alloc (.cells #[va, vb] 39)) wr) (fun _ i _ => vs.length - (intOf i).toNat)
  case atStart => exact ⟨0, Nat.zero_le _, rfl, hO, hB0⟩
  case round =>
    obtain ⟨k, hk, rfl, hown, hb⟩ := hrel
    clear hO hB0
    have hb' : Below (w.alloc (.cells #[va, vb] 39)).heap.size (w.alloc (.cells #[va, vb] 39)) wr := by rw [sz1]; exact hb
    have fin := btrans hW hb'
    have hbs := hb'.size
    rw [sz1] at hbs
    by_cases hlt : k < vs.length
    · rcases h1 with h | ⟨b, off, rfl, hc⟩
      · simp [h] at hlt
      obtain ⟨f1, f2⟩ := flatP_get vs k hlt
      have q0 := ble fin (hc _ _ f1)
      have q1 := ble fin (hc _ _ f2)
      rw [← Nat.add_assoc] at q1
      have m1 := n1 _ (List.mem_of_getElem? f1)
      have m2 := n1 _ (List.mem_of_getElem? f2)
      have ET : flatP (vs.take (k + 1)) = flatP (vs.take k) ++ [vs[k].1, vs[k].2] := by rw [List.take_succ_eq_append_getElem hlt, flatP_snoc]
      replace ET := hide ET
      generalize vs[k].1 = xa at *
      generalize vs[k].2 = xb at *
      clear f1 f2 hc
      have O2 := own_keep hown (balloc wr (.cells #[xa, xb] 39))
      have B2 := hb.trans ((balloc wr (.cells #[xa, xb] 39)).mono hbs)
      clear hb'
      go_wp2_with (at_builtin; refine wpList_append_own _ rfl _ _ 27 rfl (w.heap.size + 1) 39 i0 _ 2 40 Tryz.underlying27 hi hz0 hz1 hz2 rfl (by decide) _ _ _ rfl O2 ⟨wr.heap.size, 0, none⟩ 1 1 [xa, xb] rfl rfl ?c1 ?c2 ?c3 ?c4 ?c5 ?_)
      case c1 =>
        intro j u hj
        rw [add_offP, Nat.zero_add]
        match j, hj with
        | 0, hj => simp at hj; subst hj; simp
        | 1, hj => simp at hj; subst hj; simp
      case c2 => simp [m1, m2]
      case c3 => unfold maxLen; omega
      case c4 => omega
      case c5 => rw [sz1]; omega
      intro v2 w5 hown5 hgrow _
      have B5 := B2.grown hgrow (by rw [sz1] at *; have := B2.size; simpa using this) (own_from O2 (Nat.le_refl _))
      rw [← ET.out] at hown5
      clear hgrow O2 B2 hown
      go_wp2
      go_roundw
      case rel => exact ⟨k + 1, by omega, by go_num, hown5, B5⟩
      case measure => simp [intOf]; omega
    · obtain rfl : k = vs.length := by omega
      rw [List.take_length] at hown
      have X1 := blk_keep hb' X
      obtain ⟨⟨x0, x1⟩, -⟩ := blk2 X1
      clear h1
      have O2 := own_keep hown (balloc wr (.cells #[va, vb] 39))
      have B2 := hb.trans ((balloc wr (.cells #[va, vb] 39)).mono hbs)
      clear hb'
      go_wp2_with (at_builtin; refine wpList_append_own _ rfl _ _ 27 rfl (w.heap.size + 1) 39 i0 _ 2 40 Tryz.underlying27 hi hz0 hz1 hz2 rfl (by decide) _ _ _ rfl O2 ⟨wr.heap.size, 0, none⟩ 1 1 [va, vb] rfl rfl ?c1 ?c2 ?c3 ?c4 ?c5 ?_)
      case c1 =>
        intro j u hj
        rw [add_offP, Nat.zero_add]
        match j, hj with
        | 0, hj => simp at hj; subst hj; simp
        | 1, hj => simp at hj; subst hj; simp
      case c2 => simp [n2, n3]
      case c3 => unfold maxLen; omega
      case c4 => omega
      case c5 => rw [sz1]; omega
      intro v2 w5 hown5 hgrow _
      have B5 := B2.grown hgrow (by rw [sz1] at *; have := B2.size; simpa using this) (own_from O2 (Nat.le_refl _))
      replace hown5 := Go.Joins.ownsRow_le (own_app2 hown5) (base' := w.heap.size) (by omega)
      have hb5 := btrans hW (by rw [sz1]; exact B5)
      obtain ⟨ao, cp, rfl⟩ := own_form hown5
      clear hgrow O2 B2 hown B5 x0 x1
      go_wp2
      go_ret
      exact ⟨ao, cp, rfl, hown5, hb5⟩
end Go.Proofs.YtbghfihlpbcomaaGreat

/- How far a trip is pushed: what is told, and PushOf of the program. -/
namespace Go.Proofs.YtbghfihlpbcomaaGreat
open Go.RowKit
/-- Is the timetable with the trip so much later clean? -/
def PushAt (n : Int) (es : List EdgeV) (ts : List TripV) (t : TripV) (h : Int) (k : Nat) : Prop := CleanP n es (ts ++ [movedT t k]) h
/-- What PushOf tells. -/
def PushAns (n : Int) (es : List EdgeV) (ts : List TripV) (t : TripV) (h r : Int) : Prop :=
  (¬ CleanP n es ts h ∧ r = -1) ∨ (CleanP n es ts h ∧ ((∃ k : Nat, k ≤ 120 ∧ r = k ∧ PushAt n es ts t h k ∧ ∀ j, j < k → ¬ PushAt n es ts t h j) ∨ (r = -1 ∧ ∀ j, j ≤ 120 → ¬ PushAt n es ts t h j)))
theorem PushAns.uniq {n : Int} {es : List EdgeV} {ts : List TripV} {t : TripV} {h r r' : Int} (a : PushAns n es ts t h r) (b : PushAns n es ts t h r') : r = r' := by
  rcases a with ⟨a1, a2⟩ | ⟨a1, ⟨k, a2, a3, a4, a5⟩ | ⟨a2, a3⟩⟩ <;> rcases b with ⟨b1, b2⟩ | ⟨b1, ⟨k', b2, b3, b4, b5⟩ | ⟨b2, b3⟩⟩
  · omega
  · exact absurd b1 a1
  · exact absurd b1 a1
  · exact absurd a1 b1
  · have h1 : ¬ k < k' := fun hlt => b5 k hlt a4
    have h2 : ¬ k' < k := fun hlt => a5 k' hlt b4
    omega
  · exact absurd a4 (b3 k a2)
  · exact absurd a1 b1
  · exact absurd b4 (a3 k' b2)
  · omega
theorem CleanP.few {n : Int} {es : List EdgeV} {ts : List TripV} {h : Int} (c : CleanP n es ts h) : ts.length ≤ 24 := c.1.2.1.1
theorem PushAt.right {n : Int} {es : List EdgeV} {ts : List TripV} {t : TripV} {h : Int} {k : Nat} (c : PushAt n es ts t h k) : tripB t = true := by
  have h1 := c.1.2.1.2.1 ts.length (by simp)
  have e : (ts ++ [movedT t k]).getD ts.length TripV.zero = movedT t k := by simp [List.getD]
  rw [e] at h1
  cases ht : tripB t
  · rw [show movedT t k = TripV.zero by simp [movedT, ht]] at h1
    rw [okTrip_zero] at h1; cases h1
  · rfl
theorem movedT_small (t : TripV) (k : Int) (h1 : t.name.size ≤ 1048576) (h2 : t.calls.length ≤ 1048576) : (movedT t k).name.size ≤ 1048576 ∧ (movedT t k).calls.length ≤ 1048576 := by
  have hz : TripV.zero.name.size ≤ 1048576 ∧ TripV.zero.calls.length ≤ 1048576 := ⟨by decide, by decide⟩
  unfold movedT
  split
  · unfold ifOk
    split
    · exact ⟨h1, by rw [movedL_len]; exact h2⟩
    · exact hz
  · exact hz
theorem Small.snoc {ts : List TripV} {t : TripV} (h : Small ts) (hl : ts.length ≤ 60) (h1 : t.name.size ≤ 1048576) (h2 : t.calls.length ≤ 1048576) : Small (ts ++ [t]) := by
  refine ⟨by simp; omega, fun x hx => ?_⟩
  rcases List.mem_append.1 hx with hx | hx
  · exact h.2 x hx
  · rw [List.mem_singleton.1 hx]; exact ⟨h1, h2⟩

/-- Concat as the program calls it: the list, and one trip in a list of its own. -/
theorem cConcatD (b1 o1 p1 : Nat) (vs : List (Value × Value)) (va vb : Value) (w : World) (h1 : ∀ j u, (flatP vs)[j]? = some u → w.cell? ⟨b1, o1 + j, none⟩ = some u) (n1 : ∀ u ∈ flatP vs, u.oneCell' = true) (n2 : va.oneCell' = true) (n3 : vb.oneCell' = true) (hl : vs.length ≤ 60) :
    Calls Tryz.prog 55 #[.slice (some ⟨w.heap.size + 1, 0, none⟩) 2 2] ((w.alloc (.cells #[va, vb] 39)).alloc (.cells #[.slice (some ⟨b1, o1, none⟩) vs.length p1, .slice (some ⟨w.heap.size, 0, none⟩) 1 1] 27)) fun e w' =>
      ∃ ao cp, e = .returned (.slice ao (vs.length + 1) cp) ∧ w'.ownsRow w.heap.size 39 2 (.slice ao (vs.length + 1) cp) (vs.length + 1) (flatP (vs ++ [(va, vb)])) ∧ Below w.heap.size w w' := by
  have hB := btrans (balloc w (.cells #[va, vb] 39)) (balloc _ (.cells #[.slice (some ⟨b1, o1, none⟩) vs.length p1, .slice (some ⟨w.heap.size, 0, none⟩) 1 1] 27))
  have X := one_block (w.alloc (.cells #[va, vb] 39)) (.cells #[.slice (some ⟨b1, o1, none⟩) vs.length p1, .slice (some ⟨w.heap.size, 0, none⟩) 1 1] 27)
  rw [sz1] at X
  have Y := blk_keep (balloc _ (.cells #[.slice (some ⟨b1, o1, none⟩) vs.length p1, .slice (some ⟨w.heap.size, 0, none⟩) 1 1] 27)) (one_block w (.cells #[va, vb] 39))
  obtain ⟨⟨x0, x1⟩, -⟩ := blk2 X
  obtain ⟨⟨y0, y1⟩, -⟩ := blk2 Y
  refine (cConcatT (w.heap.size + 1) b1 o1 p1 w.heap.size 0 1 vs [(va, vb)] _ (fun j u hu => ble hB (h1 j u hu)) ?_ hl (by simp) n1 ?_ x0 x1).mono ?_
  · intro j u hj
    rw [Nat.zero_add]
    match j, hj with
    | 0, hj => simp [flatP] at hj; subst hj; exact y0
    | 1, hj => simp [flatP] at hj; subst hj; exact y1
  · intro u hu
    simp [flatP] at hu
    rcases hu with rfl | rfl
    · exact n2
    · exact n3
  · rintro e w' ⟨ao, cp, rfl, ho, hb⟩
    have e1 : (vs ++ [(va, vb)]).length = vs.length + 1 := by simp
    rw [e1] at ho
    exact ⟨ao, cp, by rw [e1], Go.Joins.ownsRow_le ho (base' := w.heap.size) hB.size, btrans hB hb⟩
end Go.Proofs.YtbghfihlpbcomaaGreat

/- PushOf of the program. -/
namespace Go.Proofs.YtbghfihlpbcomaaGreat
open Go.RowKit
theorem TripIn.one {w : World} {va vb : Value} {t : TripV} (h : TripIn w va vb t) : va.oneCell' = true ∧ vb.oneCell' = true := by
  obtain ⟨e1, a, c, e2, _, _⟩ := h
  subst e1 e2
  exact ⟨rfl, rfl⟩
theorem AnsTrip.parts {w w' : World} {t : TripV} {e : Ending} (h : AnsTrip w t e w') : ∃ va vb, e = .returned (.agg #[va, vb]) ∧ TripIn w' va vb t ∧ Below w.heap.size w w' := by
  obtain ⟨ao, cp, rfl, ho, hb⟩ := h
  exact ⟨_, _, rfl, ⟨rfl, ao, cp, rfl, own_cap ho, Halts.own ho⟩, hb⟩

set_option maxRecDepth 100000 in
set_option maxHeartbeats 6400000 in
theorem cPushI (a : Option Addr) (cap : Nat) (n : Int) (es : List EdgeV) (tb tf tc : Nat) (ts : List TripV) (s : ByteArray) (ca : Option Addr) (cc : Nat) (cs : List HaltV) (h : Int) (w : World) (he : Edges w a es) (hl : es.length ≤ 1048576) (hz : Trips w (some ⟨tb, tf, none⟩) ts) (hS : Small ts)
    (hc : Halts w ca cs) (hcl : cs.length ≤ 1048576) (hcap : cs.length ≤ cc) (hs : s.size ≤ 1048576) :
    Calls Tryz.prog 30 #[.agg #[.int .i64 n, .slice a es.length cap], .slice (some ⟨tb, tf, none⟩) ts.length tc, .agg #[.string s, .slice ca cs.length cc], .int .i64 h] w fun e w' => ∃ r, e = .returned (.int .i64 r) ∧ PushAns n es ts ⟨s, cs⟩ h r ∧ Below w.heap.size w w' := by
  have hW := btrans (balloc w (.cells #[.int .i64 n, .slice a es.length cap] 26)) (balloc _ (.cells #[.string s, .slice ca cs.length cc] 39))
  have X := blk_keep (balloc _ (.cells #[.string s, .slice ca cs.length cc] 39)) (one_block w (.cells #[.int .i64 n, .slice a es.length cap] 26))
  have Y := one_block (w.alloc (.cells #[.int .i64 n, .slice a es.length cap] 26)) (.cells #[.string s, .slice ca cs.length cc] 39)
  rw [sz1] at Y
  obtain ⟨⟨x0, x1⟩, -⟩ := blk2 X
  go_enter Tryz.func30, Tryz.ntmps30
  go_wp2_with fail
  refine (cCleanI a cap n es _ tc ts h _ (he.below hW) hl (hz.below hW) hS).mono ?_
  rintro e w1 ⟨r, rfl, hr, hb⟩
  have HB := btrans hW hb
  replace X := blk_keep hb X
  replace Y := blk_keep hb Y
  clear hb hW x0 x1
  cases r
  · have hN : ¬ CleanP n es ts h := fun g => by have := hr.2 g; cases this
    replace hN := hide hN
    clear hr
    go_wp2
    go_ret
    exact ⟨_, rfl, .inl ⟨hN.out, rfl⟩, HB⟩
  have hC := hr.1 rfl
  have hfew := hC.few
  replace hC := hide hC
  clear hr
  obtain ⟨vs, hP, hI⟩ := hz.pairs
  have hvl := hI.1
  go_wp2
  go_loopw [9, 15] (fun _ i wr => ∃ k : Nat, k ≤ 121 ∧ i = .int .i64 k ∧ Hid (∀ j, j < k → ¬ PushAt n es ts ⟨s, cs⟩ h j) ∧ wr.heap[w.heap.size]? = some (.cells #[.int .i64 n, .slice a es.length cap] 26) ∧ wr.heap[w.heap.size + 1]? = some (.cells #[.string s, .slice ca cs.length cc] 39) ∧ Below w.heap.size w wr) (fun _ i _ => 121 - (intOf i).toNat)
  case atStart => exact ⟨0, by omega, rfl, hide (fun j hj => by omega), X, Y, HB⟩
  case round =>
    clear X Y HB
    obtain ⟨k, hk, rfl, hno, X, Y, HB⟩ := hrel
    by_cases hlt : k < 121
    · obtain ⟨⟨x0, x1⟩, -⟩ := blk2 X
      obtain ⟨⟨y0, y1⟩, -⟩ := blk2 Y
      have M := cMovedI s ca cc cs k wr.drew (hc.below HB.drew) hcl hcap
      have hsm := movedT_small ⟨s, cs⟩ k hs hcl
      have hT := Small.snoc hS (by omega) hsm.1 hsm.2
      have PA : Hid (CleanP n es (ts ++ [movedT ⟨s, cs⟩ k]) h → PushAt n es ts ⟨s, cs⟩ h k) := hide (fun g => g)
      have PB : Hid (PushAt n es ts ⟨s, cs⟩ h k → CleanP n es (ts ++ [movedT ⟨s, cs⟩ k]) h) := hide (fun g => g)
      generalize movedT ⟨s, cs⟩ k = tm at *
      have hlm : (ts ++ [tm]).length = vs.length + 1 := by simp [hvl]
      have n1 := hI.one
      have hP' : ∀ j u, (flatP vs)[j]? = some u → w.cell? ⟨tb, tf + j, none⟩ = some u := by
        rcases hP with h0 | ⟨b', o', e', hc'⟩
        · subst h0; intro j u hu; simp [flatP] at hu
        · simp only [Option.some.injEq, Addr.mk.injEq, and_true] at e'
          obtain ⟨rfl, rfl⟩ := e'
          exact hc'
      have CD : ∀ (va vb : Value) (w' : World), Below w.heap.size w w' → va.oneCell' = true → vb.oneCell' = true → Calls Tryz.prog 55 #[.slice (some ⟨w'.heap.size + 1, 0, none⟩) 2 2] ((w'.alloc (.cells #[va, vb] 39)).alloc (.cells #[.slice (some ⟨tb, tf, none⟩) ts.length tc, .slice (some ⟨w'.heap.size, 0, none⟩) 1 1] 27)) fun e w2 =>
          ∃ ao cp, e = .returned (.slice ao (ts.length + 1) cp) ∧ w2.ownsRow w'.heap.size 39 2 (.slice ao (ts.length + 1) cp) (ts.length + 1) (flatP (vs ++ [(va, vb)])) ∧ Below w'.heap.size w' w2 := by
        intro va vb w' hb n2 n3
        have := cConcatD tb tf tc vs va vb w' (fun j u hu => ble hb (hP' j u hu)) n1 n2 n3 (by omega)
        rw [hvl] at this
        exact this
      have CL : ∀ (ao : Option Addr) (cp : Nat) (w' : World), Below w.heap.size w w' → Trips w' ao (ts ++ [tm]) → Calls Tryz.prog 11 #[.agg #[.int .i64 n, .slice a es.length cap], .slice ao (ts.length + 1) cp, .int .i64 h] w' (fun e w2 => ∃ r, e = .returned (.bool r) ∧ (r = true ↔ CleanP n es (ts ++ [tm]) h) ∧ Below w'.heap.size w' w2) := by
        intro ao cp w' hb hT'
        have := cCleanI a cap n es ao cp (ts ++ [tm]) h w' (he.below hb) hl hT' hT
        rw [show (ts ++ [tm]).length = ts.length + 1 by simp] at this
        exact this
      have IW := fun w' (hb : Below w.heap.size w w') => hI.below hb
      clear hP hI hP' n1 hlm hvl hsm hT
      go_wp2_with fail
      go_region_held3 (fun w' => w'.cell? ⟨w.heap.size, 0, none⟩ = some (.int .i64 n) ∧ w'.cell? ⟨w.heap.size, 1, none⟩ = some (.slice a es.length cap) ∧ w'.cell? ⟨w.heap.size + 1, 0, none⟩ = some (.string s) ∧ w'.cell? ⟨w.heap.size + 1, 1, none⟩ = some (.slice ca cs.length cc)) (go_keep) (first
        | (go_at_call 11; with_reducible refine (CL ao cp wq Bq Tq).mono ?_; rintro e wz ⟨rz, rfl, hrz, hbz⟩; have Bz := btrans Bq hbz; have Cz := btrans Cq hbz; clear hbz; obtain ⟨⟨v0, v1⟩, -⟩ := blk2 (blk_keep Cz X); obtain ⟨⟨v2, v3⟩, -⟩ := blk2 (blk_keep Cz Y))
        | (go_at_call 55; with_reducible refine (CD va vb wm Bm n2 n3).mono ?_; rintro e wq ⟨ao, cp, rfl, oq, hbq⟩; have Bq := btrans Bm hbq; have Cq := btrans Cm hbq; have Tq := Trips.of_pairs oq ((IW wq Bq).snoc (Im.below hbq)); clear hbq oq; obtain ⟨⟨v0, v1⟩, -⟩ := blk2 (blk_keep Cq X); obtain ⟨⟨v2, v3⟩, -⟩ := blk2 (blk_keep Cq Y))
        | (go_at_call 13; with_reducible refine M.mono ?_; intro e wm hA; obtain ⟨va, vb, rfl, Im, hbm⟩ := hA.parts; have Cm := undrew hbm; have Bm := btrans HB Cm; obtain ⟨n2, n3⟩ := Im.one; clear hbm hA; obtain ⟨⟨v0, v1⟩, -⟩ := blk2 (blk_keep Cm X); obtain ⟨⟨v2, v3⟩, -⟩ := blk2 (blk_keep Cm Y)))
      replace X := blk_keep Cz X
      replace Y := blk_keep Cz Y
      clear v0 v1 v2 v3 x0 x1 y0 y1
      cases rz
      · have hno2 : Hid (∀ j, j < k + 1 → ¬ PushAt n es ts ⟨s, cs⟩ h j) := by
          refine hide (fun j hj g => ?_)
          by_cases hjk : j = k
          · subst hjk
            have := hrz.2 (PB.out g)
            cases this
          · exact hno.out j (by omega) g
        clear hrz
        go_wp2
        go_roundw
        case rel => exact ⟨k + 1, by omega, by go_num, hno2, X, Y, Bz⟩
        case measure => simp [intOf]; omega
      · have hyes := hide (PA.out (hrz.1 rfl))
        clear hrz
        go_wp2
        go_ret
        exact ⟨_, rfl, .inr ⟨hC.out, .inl ⟨k, by omega, rfl, hyes.out, hno.out⟩⟩, Bz⟩
    · obtain rfl : k = 121 := by omega
      go_wp2
      go_ret
      exact ⟨_, rfl, .inr ⟨hC.out, .inr ⟨rfl, fun j hj => hno.out j (by omega)⟩⟩, HB⟩
end Go.Proofs.YtbghfihlpbcomaaGreat

/- PushOf of the model. -/
namespace Go.Proofs.YtbghfihlpbcomaaGreat
open Go.RowKit
set_option maxRecDepth 100000 in
set_option maxHeartbeats 6400000 in
theorem cPushS (a : Option Addr) (cap : Nat) (n : Int) (es : List EdgeV) (ta : Option Addr) (tc : Nat) (ts : List TripV) (s : ByteArray) (ca : Option Addr) (cc : Nat) (cs : List HaltV) (h : Int) (w : World) (he : Edges w a es) (hl : es.length ≤ 1048576) (hz : Trips w ta ts) (hS : Small ts)
    (hc : Halts w ca cs) (hcl : cs.length ≤ 1048576) (hs : s.size ≤ 1048576) :
    Calls Tryz.prog 32 #[.agg #[.int .i64 n, .slice a es.length cap], .slice ta ts.length tc, .agg #[.string s, .slice ca cs.length cc], .int .i64 h] w fun e w' => ∃ r, e = .returned (.int .i64 r) ∧ PushAns n es ts ⟨s, cs⟩ h r ∧ Below w.heap.size w w' := by
  have hW := btrans (balloc w (.cells #[.int .i64 n, .slice a es.length cap] 26)) (balloc _ (.cells #[.string s, .slice ca cs.length cc] 39))
  have X := blk_keep (balloc _ (.cells #[.string s, .slice ca cs.length cc] 39)) (one_block w (.cells #[.int .i64 n, .slice a es.length cap] 26))
  have Y := one_block (w.alloc (.cells #[.int .i64 n, .slice a es.length cap] 26)) (.cells #[.string s, .slice ca cs.length cc] 39)
  rw [sz1] at Y
  obtain ⟨⟨x0, x1⟩, -⟩ := blk2 X
  go_enter Tryz.func32, Tryz.ntmps32
  go_wp2_with fail
  refine (cRiddenS a cap n es _ tc ts _ (he.below hW) hl (hz.below hW) hS).mono ?_
  rintro e w1 ⟨r, rfl, hr, hb⟩
  have HB := btrans hW hb
  replace X := blk_keep hb X
  replace Y := blk_keep hb Y
  clear hb hW x0 x1
  cases r
  · have hN : ¬ CleanP n es ts h := fun g => by have := hr.2 g.1; cases this
    replace hN := hide hN
    clear hr
    go_wp2
    go_ret
    exact ⟨_, rfl, .inl ⟨hN.out, rfl⟩, HB⟩
  clear hr
  obtain ⟨⟨y0, y1⟩, -⟩ := blk2 Y
  go_wp2_with fail
  refine (cTripS s ca cc cs _ (hc.below HB) hcl hs).mono ?_
  rintro e w2 ⟨rfl, hb⟩
  replace HB := btrans HB hb
  replace X := blk_keep hb X
  replace Y := blk_keep hb Y
  clear hb y0 y1
  cases ht : tripB ⟨s, cs⟩
  · have hno : ∀ j, ¬ PushAt n es ts ⟨s, cs⟩ h j := fun j g => by have := g.right; rw [ht] at this; cases this
    have hA : PushAns n es ts ⟨s, cs⟩ h (-1) := by
      by_cases hC : CleanP n es ts h
      · exact .inr ⟨hC, .inr ⟨rfl, fun j _ => hno j⟩⟩
      · exact .inl ⟨hC, rfl⟩
    replace hA := hide hA
    clear hno
    go_wp2
    go_ret
    exact ⟨_, rfl, hA.out, HB⟩
  obtain ⟨⟨x0, x1⟩, -⟩ := blk2 X
  clear ht
  go_wp2_with fail
  refine (cCleanS a cap n es _ tc ts h _ (he.below HB) hl (hz.below HB) hS).mono ?_
  rintro e w3 ⟨r, rfl, hr, hb⟩
  replace HB := btrans HB hb
  replace X := blk_keep hb X
  replace Y := blk_keep hb Y
  clear hb x0 x1
  cases r
  · have hN : ¬ CleanP n es ts h := fun g => by have := hr.2 g; cases this
    replace hN := hide hN
    clear hr
    go_wp2
    go_ret
    exact ⟨_, rfl, .inl ⟨hN.out, rfl⟩, HB⟩
  have hC := hr.1 rfl
  have hfew := hC.few
  replace hC := hide hC
  clear hr
  obtain ⟨vs, hP, hI⟩ := hz.pairs
  have hvl := hI.1
  go_wp2
  go_loopw [9] (fun i wr => ∃ k : Nat, k ≤ 121 ∧ i = .int .i64 k ∧ Hid (∀ j, j < k → ¬ PushAt n es ts ⟨s, cs⟩ h j) ∧ wr.heap[w.heap.size]? = some (.cells #[.int .i64 n, .slice a es.length cap] 26) ∧ wr.heap[w.heap.size + 1]? = some (.cells #[.string s, .slice ca cs.length cc] 39) ∧ Below w.heap.size w wr) (fun i _ => 121 - (intOf i).toNat)
  case atStart => exact ⟨0, by omega, rfl, hide (fun j hj => by omega), X, Y, HB⟩
  case round =>
    clear X Y HB
    obtain ⟨k, hk, rfl, hno, X, Y, HB⟩ := hrel
    by_cases hlt : k < 121
    · obtain ⟨⟨x0, x1⟩, -⟩ := blk2 X
      obtain ⟨⟨y0, y1⟩, -⟩ := blk2 Y
      have M := cMovedS s ca cc cs k wr.drew (hc.below HB.drew) hcl hs
      have hsm := movedT_small ⟨s, cs⟩ k hs hcl
      have hT := Small.snoc hS (by omega) hsm.1 hsm.2
      have PA : Hid (CleanP n es (ts ++ [movedT ⟨s, cs⟩ k]) h → PushAt n es ts ⟨s, cs⟩ h k) := hide (fun g => g)
      have PB : Hid (PushAt n es ts ⟨s, cs⟩ h k → CleanP n es (ts ++ [movedT ⟨s, cs⟩ k]) h) := hide (fun g => g)
      generalize movedT ⟨s, cs⟩ k = tm at *
      have n1 := hI.one
      have CD : ∀ (va vb : Value) (w' : World), Below w.heap.size w w' → va.oneCell' = true → vb.oneCell' = true → Calls Tryz.prog 33 #[.slice ta ts.length tc, .agg #[va, vb]] w' fun e w2 =>
          ∃ ao cp, e = .returned (.slice ao (ts.length + 1) cp) ∧ w2.ownsRow w'.heap.size 39 2 (.slice ao (ts.length + 1) cp) (ts.length + 1) (flatP (vs ++ [(va, vb)])) ∧ Below w'.heap.size w' w2 := by
        intro va vb w' hb n2 n3
        have := cWith ta tc vs va vb w' (hP.below hb) n1 n2 n3 (by omega)
        rw [hvl] at this
        exact this
      have CL : ∀ (ao : Option Addr) (cp : Nat) (w' : World), Below w.heap.size w w' → Trips w' ao (ts ++ [tm]) → Calls Tryz.prog 60 #[.agg #[.int .i64 n, .slice a es.length cap], .slice ao (ts.length + 1) cp, .int .i64 h] w' (fun e w2 => ∃ r, e = .returned (.bool r) ∧ (r = true ↔ CleanP n es (ts ++ [tm]) h) ∧ Below w'.heap.size w' w2) := by
        intro ao cp w' hb hT'
        have := cCleanS a cap n es ao cp (ts ++ [tm]) h w' (he.below hb) hl hT' hT
        rw [show (ts ++ [tm]).length = ts.length + 1 by simp] at this
        exact this
      have IW := fun w' (hb : Below w.heap.size w w') => hI.below hb
      clear hP hI n1 hvl hsm hT
      go_wp2_with fail
      go_region_held3 (fun w' => w'.cell? ⟨w.heap.size, 0, none⟩ = some (.int .i64 n) ∧ w'.cell? ⟨w.heap.size, 1, none⟩ = some (.slice a es.length cap) ∧ w'.cell? ⟨w.heap.size + 1, 0, none⟩ = some (.string s) ∧ w'.cell? ⟨w.heap.size + 1, 1, none⟩ = some (.slice ca cs.length cc)) (go_keep) (first
        | (go_at_call 60; with_reducible refine (CL ao cp wq Bq Tq).mono ?_; rintro e wz ⟨rz, rfl, hrz, hbz⟩; have Bz := btrans Bq hbz; have Cz := btrans Cq hbz; clear hbz; obtain ⟨⟨v0, v1⟩, -⟩ := blk2 (blk_keep Cz X); obtain ⟨⟨v2, v3⟩, -⟩ := blk2 (blk_keep Cz Y))
        | (go_at_call 33; with_reducible refine (CD va vb wm Bm n2 n3).mono ?_; rintro e wq ⟨ao, cp, rfl, oq, hbq⟩; have Bq := btrans Bm hbq; have Cq := btrans Cm hbq; have Tq := Trips.of_pairs oq ((IW wq Bq).snoc (Im.below hbq)); clear hbq oq; obtain ⟨⟨v0, v1⟩, -⟩ := blk2 (blk_keep Cq X); obtain ⟨⟨v2, v3⟩, -⟩ := blk2 (blk_keep Cq Y))
        | (go_at_call 34; with_reducible refine M.mono ?_; intro e wm hA; obtain ⟨va, vb, rfl, Im, hbm⟩ := hA.parts; have Cm := undrew hbm; have Bm := btrans HB Cm; obtain ⟨n2, n3⟩ := Im.one; clear hbm hA; obtain ⟨⟨v0, v1⟩, -⟩ := blk2 (blk_keep Cm X); obtain ⟨⟨v2, v3⟩, -⟩ := blk2 (blk_keep Cm Y)))
      replace X := blk_keep Cz X
      replace Y := blk_keep Cz Y
      clear v0 v1 v2 v3 x0 x1 y0 y1
      cases rz
      · have hno2 : Hid (∀ j, j < k + 1 → ¬ PushAt n es ts ⟨s, cs⟩ h j) := by
          refine hide (fun j hj g => ?_)
          by_cases hjk : j = k
          · subst hjk
            have := hrz.2 (PB.out g)
            cases this
          · exact hno.out j (by omega) g
        clear hrz
        go_wp2
        go_roundw
        case rel => exact ⟨k + 1, by omega, by go_num, hno2, X, Y, Bz⟩
        case measure => simp [intOf]; omega
      · have hyes := hide (PA.out (hrz.1 rfl))
        clear hrz
        go_wp2
        go_ret
        exact ⟨_, rfl, .inr ⟨hC.out, .inl ⟨k, by omega, rfl, hyes.out, hno.out⟩⟩, Bz⟩
    · obtain rfl : k = 121 := by omega
      go_wp2
      go_ret
      exact ⟨_, rfl, .inr ⟨hC.out, .inr ⟨rfl, fun j hj => hno.out j (by omega)⟩⟩, HB⟩
end Go.Proofs.YtbghfihlpbcomaaGreat

