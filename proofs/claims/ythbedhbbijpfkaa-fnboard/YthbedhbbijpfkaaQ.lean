/- Lists of trips: measured, copied, compared. -/
import Derived.Test.YthbedhbbijpfkaaV
import Derived.Test.YthbedhbbijpfkaaWA
namespace Go.Proofs.Ythbedhbbijpfkaa
open Go.RowKit
def flatP (vs : List (Value × Value)) : List Value := vs.flatMap fun q => [q.1, q.2]
theorem flatP_cons (q : Value × Value) (vs : List (Value × Value)) : flatP (q :: vs) = q.1 :: q.2 :: flatP vs := rfl
theorem flatP_len (vs : List (Value × Value)) : (flatP vs).length = vs.length * 2 := by
  induction vs with
  | nil => rfl
  | cons e es ih => rw [flatP_cons]; simp only [List.length_cons, ih]; omega
theorem flatP_app (xs ys : List (Value × Value)) : flatP (xs ++ ys) = flatP xs ++ flatP ys := by simp [flatP]
theorem flatP_get (vs : List (Value × Value)) : ∀ i, (hi : i < vs.length) → (flatP vs)[i * 2]? = some vs[i].1 ∧ (flatP vs)[i * 2 + 1]? = some vs[i].2 := by
  induction vs with
  | nil => intro i hi; simp at hi
  | cons e es ih =>
    intro i hi
    rw [flatP_cons]
    cases i with
    | zero => simp
    | succ i =>
      have h := ih i (by simpa using hi)
      have e1 : (i + 1) * 2 = i * 2 + 1 + 1 := by omega
      rw [e1]
      simpa using h

def zeroT (n : Nat) : List Value := flatP (List.replicate n (.string ⟨#[]⟩, .slice none 0 0))
theorem zeroT_len (n : Nat) : (zeroT n).length = n * 2 := by unfold zeroT; rw [flatP_len]; simp
theorem zeroT_succ (n : Nat) : zeroT (n + 1) = .string ⟨#[]⟩ :: .slice none 0 0 :: zeroT n := by unfold zeroT; rw [List.replicate_succ, flatP_cons]
theorem infoTrip : (Try.prog.info? 31).map (fun i => (i.zero, i.size, i.bytes)) = some (some (.agg #[.string ⟨#[]⟩, .slice none 0 0]), 2, 40) := by kernel_rfl
theorem madeTrip (n : Nat) : (madeCells (Value.agg #[.string ⟨#[]⟩, .slice none 0 0]).cells (n * 2)).toList = zeroT n := by
  apply List.ext_getElem?
  intro j
  by_cases hj : j < n * 2
  · have h4 : j % 2 < 2 := Nat.mod_lt _ (by omega)
    have hd : j / 2 < (List.replicate n ((.string ⟨#[]⟩, .slice none 0 0) : Value × Value)).length := by simp; omega
    obtain ⟨g0, g1⟩ := flatP_get (List.replicate n (.string ⟨#[]⟩, .slice none 0 0)) (j / 2) hd
    unfold zeroT
    simp only [madeCells, Value.cells]
    generalize hq : j % 2 = q at h4
    match q, h4 with
    | 0, _ =>
      have e : j = j / 2 * 2 := by omega
      have ee := (congrArg (fun i => (flatP (List.replicate n ((.string ⟨#[]⟩, .slice none 0 0) : Value × Value)))[i]?) e).trans g0
      rw [ee]
      simp [hj, hq]
    | 1, _ =>
      have e : j = j / 2 * 2 + 1 := by omega
      have ee := (congrArg (fun i => (flatP (List.replicate n ((.string ⟨#[]⟩, .slice none 0 0) : Value × Value)))[i]?) e).trans g1
      rw [ee]
      simp [hj, hq]
  · rw [List.getElem?_eq_none (by simp [madeCells]; omega), List.getElem?_eq_none (by rw [zeroT_len]; omega)]
theorem stepTrip (vs : List (Value × Value)) (n k : Nat) (va vb : Value) (hv : vs.length = k) (hk : k < n) :
    ((flatP vs ++ zeroT (n - k)).set (k * 2) va).set (k * 2 + 1) vb = flatP (vs ++ [(va, vb)]) ++ zeroT (n - (k + 1)) := by
  have e1 : n - k = n - (k + 1) + 1 := by omega
  have e2 : (flatP vs).length = k * 2 := by rw [flatP_len, hv]
  rw [List.set_append_right _ _ (by omega), List.set_append_right _ _ (by omega), e2, e1, zeroT_succ, flatP_app]
  have a0 : k * 2 - k * 2 = 0 := by omega
  have a1 : k * 2 + 1 - k * 2 = 1 := by omega
  rw [a0, a1]
  simp [flatP]
/-- A trip whose calls are a row of its own, from lo on. -/
def TripOwn (w : World) (lo : Nat) (va vb : Value) (t : TripV) : Prop :=
  va = .string t.name ∧ ∃ a c, vb = .slice a t.calls.length c ∧ w.ownsRow lo 33 3 (.slice a t.calls.length c) t.calls.length (flatHalts t.calls)
theorem TripOwn.below {w w' : World} {lo : Nat} {va vb : Value} {t : TripV} (h : TripOwn w lo va vb t) (hb : Below w.heap.size w w') : TripOwn w' lo va vb t := by
  obtain ⟨h1, a, c, h2, h3⟩ := h
  exact ⟨h1, a, c, h2, own_keep h3 hb⟩
theorem TripOwn.set {w : World} {lo b i : Nat} {u va vb : Value} {t : TripV} (h : TripOwn w lo va vb t) (hb : b < lo) : TripOwn (w.setCell ⟨b, i, none⟩ u) lo va vb t := by
  obtain ⟨h1, a, c, h2, h3⟩ := h
  exact ⟨h1, a, c, h2, own_set h3 (fun k hk => by have := own_from h3 (Nat.le_refl _) k hk; omega)⟩
theorem TripOwn.read {w : World} {lo : Nat} {va vb : Value} {t : TripV} (h : TripOwn w lo va vb t) : TripIn w va vb t := by
  obtain ⟨h1, a, c, h2, h3⟩ := h
  exact ⟨h1, a, c, h2, by rcases h3.2 with ⟨h2, h0⟩ | ⟨g, cap, cur, hv, hg, hh, hc, r⟩
                          · omega
                          · simp only [Value.slice.injEq] at hv; omega, Halts.own h3⟩
/-- Trips that the call itself made: the list's own block lies ahead of all of theirs. -/
def TripsOwn (w : World) (g : Nat) (ts : List TripV) : Prop :=
  ∃ vs : List (Value × Value), vs.length = ts.length ∧ w.ownsRow g 31 2 (.slice (some ⟨g, 0, none⟩) ts.length ts.length) ts.length (flatP vs) ∧
    ∀ j, (hj : j < vs.length) → TripOwn w (g + 1) vs[j].1 vs[j].2 (ts.getD j TripV.zero)
theorem TripsOwn.below {w w' : World} {g : Nat} {ts : List TripV} (h : TripsOwn w g ts) (hb : Below w.heap.size w w') : TripsOwn w' g ts := by
  obtain ⟨vs, h1, h2, h3⟩ := h
  exact ⟨vs, h1, own_keep h2 hb, fun j hj => (h3 j hj).below hb⟩
theorem TripsOwn.read {w : World} {g : Nat} {ts : List TripV} (h : TripsOwn w g ts) : Trips w (some ⟨g, 0, none⟩) ts := by
  obtain ⟨vs, h1, h2, h3⟩ := h
  refine .inr ⟨g, 0, rfl, fun i hi => ?_⟩
  have hi' : i < vs.length := by omega
  obtain ⟨q1, q2⟩ := flatP_get vs i hi'
  refine ⟨_, _, ?_, ?_, (h3 i hi').read⟩
  · rw [Nat.zero_add, h2.cellAt _ (by omega)]; exact q1
  · rw [Nat.zero_add, h2.cellAt _ (by omega)]; exact q2

set_option maxHeartbeats 3200000 in
theorem cToTrips (a : Option Addr) (cap : Nat) (ts : List TripV) (w : World) (hR : Trips w a ts) (hS : Small ts) :
    Calls Try.prog 11 #[.slice a ts.length cap] w fun e w' => e = .returned (.slice (some ⟨w.heap.size, 0, none⟩) ts.length ts.length) ∧ TripsOwn w' w.heap.size ts ∧ Below w.heap.size w w' := by
  obtain ⟨hl, he⟩ := hS
  obtain ⟨i0, hi, hz0, hz1, hz2⟩ := info_parts infoTrip
  go_enter Try.func11, Try.ntmps11
  go_wp2_with (at_make; refine wpList_make_full _ rfl _ _ 24 rfl w.heap.size 31 i0 (.agg #[.string ⟨#[]⟩, .slice none 0 0]) 2 Try.underlying24 hi hz0 hz1 _ _ _ _ ts.length rfl rfl rfl rfl (by rw [hz2]; omega) (by unfold maxLen; omega) (Nat.le_refl _) ?_; intro w1 hown hgrow)
  have hown' : w1.ownsRow w.heap.size 31 2 (.slice (some ⟨w.heap.size, 0, none⟩) ts.length ts.length) ts.length (flatP [] ++ zeroT (ts.length - 0)) := by
    rw [madeTrip] at hown
    simpa [flatP] using hown
  have hbel : Below w.heap.size w w1 := (Below.refl _ _).grown hgrow (Nat.le_refl _) (fun k hk => by cases hk)
  clear hown hgrow
  go_loopw [4] (fun i wr => ∃ (k : Nat) (vs : List (Value × Value)), k ≤ ts.length ∧ i = .int .i64 k ∧ vs.length = k ∧ wr.ownsRow w.heap.size 31 2 (.slice (some ⟨w.heap.size, 0, none⟩) ts.length ts.length) ts.length (flatP vs ++ zeroT (ts.length - k)) ∧ (∀ j, (hj : j < vs.length) → TripOwn wr (w.heap.size + 1) vs[j].1 vs[j].2 (ts.getD j TripV.zero)) ∧ Below w.heap.size w wr) (fun i _ => ts.length - (intOf i).toNat)
  case atStart => exact ⟨0, [], Nat.zero_le _, rfl, rfl, hown', fun j hj => by simp at hj, hbel⟩
  case round =>
    obtain ⟨k, vs, hk, rfl, hvl, hown, hall, hb⟩ := hrel
    by_cases hlt : k < ts.length
    · obtain ⟨b, off, n, cn, rfl, c1, c2, -, c3⟩ := (hR.below hb).at hlt
      have e0 : ts.getD k TripV.zero = ts[k] := by simp [List.getD, hlt]
      have hek := he ts[k] (List.getElem_mem hlt)
      rw [e0] at c1 c2 c3
      have hbs := cell_lt c1
      have CT := cToTrip ts[k].name n cn ts[k].calls wr c3 hek.2
      have hg : w.heap.size < wr.heap.size := owns_lt hown
      replace e0 := hide e0
      generalize ts[k] = R at *
      clear hown' hbel c3 hek
      go_wp2_with fail
      refine CT.mono ?_
      rintro e w2 ⟨g2, rfl, hro, hb1⟩
      have HB1 := btrans hb hb1
      have O1 := own_keep hown hb1
      have f0 := O1.frozenAt (k * 2)
      have f1 := O1.frozenAt (k * 2 + 1)
      have e2 : ts.length - k = ts.length - (k + 1) + 1 := by omega
      have z0 : w2.cell? ⟨w.heap.size, k * 2, none⟩ = some (.string ⟨#[]⟩) := by
        rw [O1.cellAt _ (by omega), List.getElem?_append_right (by rw [flatP_len]; omega), flatP_len, hvl, Nat.sub_self, e2, zeroT_succ]; rfl
      have z1 : w2.cell? ⟨w.heap.size, k * 2 + 1, none⟩ = some (.slice none 0 0) := by
        rw [O1.cellAt _ (by omega), List.getElem?_append_right (by rw [flatP_len]; omega), flatP_len, hvl, show k * 2 + 1 - k * 2 = 1 by omega, e2, zeroT_succ]; rfl
      have O2 := ((O1.stored (k * 2) (.string R.name)).1.stored (k * 2 + 1) (.slice (some ⟨g2, 0, none⟩) R.calls.length R.calls.length)).1
      rw [stepTrip vs ts.length k _ _ hvl hlt] at O2
      have HB2 := ((HB1.setCell (p := ⟨w.heap.size, k * 2, none⟩) (Nat.le_refl _) (.string R.name)).setCell (p := ⟨w.heap.size, k * 2 + 1, none⟩) (Nat.le_refl _) (.slice (some ⟨g2, 0, none⟩) R.calls.length R.calls.length))
      have hsz := hb1.size
      have A2 : ∀ j, (hj : j < (vs ++ [((.string R.name, .slice (some ⟨g2, 0, none⟩) R.calls.length R.calls.length) : Value × Value)]).length) → TripOwn ((w2.setCell ⟨w.heap.size, k * 2, none⟩ (.string R.name)).setCell ⟨w.heap.size, k * 2 + 1, none⟩ (.slice (some ⟨g2, 0, none⟩) R.calls.length R.calls.length)) (w.heap.size + 1) (vs ++ [((.string R.name, .slice (some ⟨g2, 0, none⟩) R.calls.length R.calls.length) : Value × Value)])[j].1 (vs ++ [((.string R.name, .slice (some ⟨g2, 0, none⟩) R.calls.length R.calls.length) : Value × Value)])[j].2 (ts.getD j TripV.zero) := by
        intro j hj
        refine TripOwn.set (TripOwn.set ?_ (by omega)) (by omega)
        by_cases hjk : j < vs.length
        · rw [List.getElem_append_left hjk]
          exact (hall j hjk).below hb1
        · have hjj : j = k := by simp at hj; omega
          subst hjj
          have e : (vs ++ [((.string R.name, .slice (some ⟨g2, 0, none⟩) R.calls.length R.calls.length) : Value × Value)])[j] = (.string R.name, .slice (some ⟨g2, 0, none⟩) R.calls.length R.calls.length) := by simp [List.getElem_append_right, hvl]
          rw [e, e0.out]
          exact ⟨rfl, _, _, rfl, own_base hro (by omega)⟩
      clear O1 hown hb1 hb HB1 hall hro e2
      go_wp2
      go_roundw
      case rel => exact ⟨k + 1, vs ++ [(_, _)], by omega, by go_num, by simp [hvl], O2, A2, HB2⟩
      case measure => simp [intOf]; omega
    · obtain rfl : k = ts.length := by omega
      have K : TripsOwn wr w.heap.size ts := ⟨vs, hvl, by simpa [zeroT, flatP] using hown, hall⟩
      clear hown hall hR
      go_wp2
      go_ret
      exact ⟨rfl, K, hb⟩

set_option maxHeartbeats 1600000 in
theorem cEqTrips (a1 a2 : Option Addr) (p1 p2 : Nat) (ts : List TripV) (w : World) (h1 : Trips w a1 ts) (h2 : Trips w a2 ts) (hS : Small ts) :
    Calls Try.prog 13 #[.slice a1 ts.length p1, .slice a2 ts.length p2] w fun e w' => e = .returned (.bool true) ∧ Below w.heap.size w w' := by
  obtain ⟨hl, he⟩ := hS
  go_enter Try.func13, Try.ntmps13
  go_wp2
  go_loopw [5] (fun i wr => ∃ k : Nat, k ≤ ts.length ∧ i = .int .i64 k ∧ Below w.heap.size w wr) (fun i _ => ts.length - (intOf i).toNat)
  case atStart => exact ⟨0, Nat.zero_le _, rfl, Below.refl _ _⟩
  case round =>
    obtain ⟨k, hk, rfl, hb⟩ := hrel
    by_cases hlt : k < ts.length
    · obtain ⟨b, off, n, cn, rfl, c1, c2, -, c3⟩ := (h1.below hb).at hlt
      obtain ⟨b', off', n', cn', rfl, d1, d2, -, d3⟩ := (h2.below hb).at hlt
      have e0 : ts.getD k TripV.zero = ts[k] := by simp [List.getD, hlt]
      have hek := he ts[k] (List.getElem_mem hlt)
      rw [e0] at c1 c2 c3 d1 d2 d3
      have CE := fun (w1 : World) (hb1 : Below wr.heap.size wr w1) => cEqTrip ts[k].name n n' cn cn' ts[k].calls w1 (c3.below hb1) (d3.below hb1) hek.2
      generalize ts[k] = R at *
      clear c3 d3 e0 hek h1 h2
      go_wp2_with fail
      go_region_with (go_at_call 32; refine (CE _ (bdraw (Below.refl _ _) 1)).mono ?_; rintro e w6 ⟨rfl, hb6⟩; have HB6 := btrans hb (undrew hb6))
      all_goals go_wp2
      all_goals go_roundw
      case rel => exact ⟨k + 1, by omega, by go_num, HB6⟩
      case measure => simp [intOf]; omega
      case rel => exact ⟨k + 1, by omega, by go_num, HB6⟩
      case measure => simp [intOf]; omega
    · go_wp2
      go_ret
      exact ⟨rfl, hb⟩

set_option maxHeartbeats 1600000 in
theorem cSzTrips (a : Option Addr) (cap : Nat) (ts : List TripV) (left : Int) (w : World) (hR : Trips w a ts) (h0 : 0 ≤ left) (h1 : left ≤ 1048576) (hB : Big ts) :
    Calls Try.prog 9 #[.slice a ts.length cap, .int .i64 left] w fun e w' => ∃ r, e = .returned (.int .i64 r) ∧ (r = -1 ∨ (0 ≤ r ∧ r ≤ left ∧ Small ts)) ∧ Below w.heap.size w w' := by
  obtain ⟨hm, he⟩ := hB
  unfold maxLen at hm
  by_cases hl : left - ts.length < 0
  · go_enter Try.func9, Try.ntmps9
    go_wp2
    go_ret
    exact ⟨_, rfl, .inl rfl, Below.refl _ _⟩
  have hrl : ts.length ≤ 1048576 := by omega
  go_enter Try.func9, Try.ntmps9
  go_wp2
  go_loopw [1, 5] (fun lf i wr => ∃ (k : Nat) (q : Int), k ≤ ts.length ∧ i = .int .i64 k ∧ lf = .int .i64 q ∧ 0 ≤ q ∧ q ≤ left ∧ (∀ j, (hj : j < ts.length) → j < k → ts[j].name.size ≤ 1048576 ∧ ts[j].calls.length ≤ 1048576) ∧ Below w.heap.size w wr) (fun _ i _ => ts.length - (intOf i).toNat)
  case atStart => exact ⟨0, left - ts.length, Nat.zero_le _, rfl, rfl, by omega, by omega, fun _ _ h => by omega, Below.refl _ _⟩
  case round =>
    obtain ⟨k, q, hk, rfl, rfl, hq0, hq1, hall, hb⟩ := hrel
    clear hl
    by_cases hlt : k < ts.length
    · obtain ⟨b, off, n, cn, rfl, c1, c2, _, _⟩ := (hR.below hb).at hlt
      have e0 : ts.getD k TripV.zero = ts[k] := by simp [List.getD, hlt]
      rw [e0] at c1 c2
      have hek := he ts[k] (List.getElem_mem hlt)
      have CZ := fun w1 => cSzTrip ts[k].name n ts[k].calls.length cn q w1 hq0 (by omega) hek.2 hek.1
      generalize hn1 : ts[k].calls.length = n1 at c2 CZ
      have hN := hide hn1
      generalize hn2 : ts[k].name = n2 at c1 CZ
      have hM := hide hn2
      clear hn1 hn2
      go_wp2_with fail
      refine (CZ _).mono ?_
      rintro e w1 ⟨z, rfl, hz, hb1⟩
      have HB := btrans hb hb1
      rcases hz with rfl | ⟨hz0, hz1⟩
      · go_wp2
        go_ret
        exact ⟨_, rfl, .inl rfl, HB⟩
      have hz4 : ¬ (z < 0) := by omega
      replace hz0 := hide hz0
      go_wp2
      go_roundw
      case rel =>
        have hz0 := hz0.out
        refine ⟨k + 1, z, by omega, by go_num, rfl, hz1, by omega, fun j hj hjk => ?_, HB⟩
        by_cases hjj : j = k
        · subst hjj; exact ⟨by rw [hM.out]; omega, by rw [hN.out]; omega⟩
        · exact hall j hj (by omega)
      case measure => simp [intOf]; omega
    · obtain rfl : k = ts.length := by omega
      go_wp2
      go_ret
      refine ⟨q, rfl, .inr ⟨hq0, hq1, hrl, fun t ht => ?_⟩, hb⟩
      obtain ⟨j, hj, rfl⟩ := List.getElem_of_mem ht
      exact hall j hj hj
end Go.Proofs.Ythbedhbbijpfkaa
