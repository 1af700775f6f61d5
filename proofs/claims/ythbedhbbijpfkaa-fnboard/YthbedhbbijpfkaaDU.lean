/- The draw of a right timetable. -/
import Derived.Test.YthbedhbbijpfkaaDQ
import Derived.Maps.AppendAt
namespace Go.Proofs.Ythbedhbbijpfkaa
open Go.RowKit
/-- Each pair is a trip's two cells. -/
def TripsIn (w : World) (vs : List (Value × Value)) (ts : List TripV) : Prop := vs.length = ts.length ∧ ∀ i, (hi : i < vs.length) → TripIn w vs[i].1 vs[i].2 (ts.getD i TripV.zero)
theorem Trips.of_pairs {w : World} {base n c : Nat} {a : Option Addr} {vs : List (Value × Value)} {ts : List TripV} (h : w.ownsRow base 31 2 (.slice a n c) n (flatP vs)) (g : TripsIn w vs ts) : Trips w a ts := by
  have hl := h.1
  rw [flatP_len, g.1] at hl
  rcases h.2 with ⟨_, h0⟩ | ⟨gb, cap', cur, he, _⟩
  · left
    exact List.length_eq_zero_iff.1 (by omega)
  · simp only [Value.slice.injEq] at he
    obtain ⟨rfl, _, rfl⟩ := he
    refine .inr ⟨gb, 0, rfl, fun i hi => ?_⟩
    have hi' : i < vs.length := by have := g.1; omega
    obtain ⟨q1, q2⟩ := flatP_get vs i hi'
    refine ⟨_, _, ?_, ?_, g.2 i hi'⟩
    · rw [Nat.zero_add, h.cellAt _ (by omega)]; exact q1
    · rw [Nat.zero_add, h.cellAt _ (by omega)]; exact q2

theorem flatP_snoc (vs : List (Value × Value)) (q : Value × Value) : flatP (vs ++ [q]) = flatP vs ++ [q.1, q.2] := by simp [flatP]
def TakenAns (ts : List TripV) (s : ByteArray) (w : World) (e : Ending) (w' : World) : Prop := ∃ r, e = .returned (.bool r) ∧ (r = false → ∀ i, i < ts.length → nmA ts i ≠ s) ∧ w' = w
set_option maxHeartbeats 800000 in
theorem cTaken (a : Option Addr) (cap : Nat) (ts : List TripV) (s : ByteArray) (w : World) (hz : Trips w a ts) (hl : ts.length ≤ 1048576) :
    Calls Try.prog 37 #[.slice a ts.length cap, .string s] w (TakenAns ts s w) := by
  go_enter Try.func37, Try.ntmps37
  go_wp2
  go_loop [5] (fun i => ∃ k : Nat, k ≤ ts.length ∧ i = .int .i64 k ∧ Hid (∀ i, i < k → nmA ts i ≠ s)) (fun i => ts.length - (intOf i).toNat)
  case atStart => exact ⟨0, Nat.zero_le _, rfl, hide (fun i h => by omega)⟩
  case round =>
    obtain ⟨k, hk, rfl, hI⟩ := hrel
    by_cases hlt : k < ts.length
    · have hlt' : (k : Int) < (ts.length : Int) := by omega
      obtain ⟨b, off, n, cn, rfl, c1, c2, -, c3⟩ := hz.at hlt
      have hnm : Hid ((ts.getD k TripV.zero).name = nmA ts k) := rfl
      generalize (ts.getD k TripV.zero).name = x at *
      clear c2 c3
      by_cases he : x = s
      · subst he
        clear hnm
        go_wp2
        go_ret
        exact ⟨_, rfl, (fun h => absurd h (by simp)), rfl⟩
      · have hne := str_ne he
        have hI2 : Hid (∀ i, i < k + 1 → nmA ts i ≠ s) := by
          refine hide (fun i hi h => ?_)
          by_cases hik : i = k
          · subst hik; rw [← hnm.out] at h; exact he h
          · exact hI.out i (by omega) h
        clear hnm
        go_wp2
        go_round
        case rel => exact ⟨k + 1, by omega, by go_num, hI2⟩
        case measure => simp [intOf]; omega
    · obtain rfl : k = ts.length := by omega
      clear hz
      go_wp2
      go_ret
      exact ⟨_, rfl, fun _ => hI.out, rfl⟩

/-- What is drawn of a timetable so far: the list is a row of its own, and so are the calls of each trip, apart from it. -/
structure TabD (B : Nat) (wr : World) (v : Value) (vs : List (Value × Value)) (ts : List TripV) : Prop where
  own : wr.ownsRow B 31 2 v ts.length (flatP vs)
  len : vs.length = ts.length
  each : ∀ j, (hj : j < vs.length) → TripOwn wr B vs[j].1 vs[j].2 (ts.getD j TripV.zero)
  apart : ∀ j, (hj : j < vs.length) → ∀ k, vs[j].2.ownBlock = some k → v.ownBlock ≠ some k
  ok : ∀ j, j < ts.length → tripB (ts.getD j TripV.zero) = true
  names : ∀ i j, i < j → j < ts.length → nmA ts i ≠ nmA ts j
theorem TripOwn.far {w w' : World} {lo : Nat} {va vb : Value} {t : TripV} {r : Option Nat} (h : TripOwn w lo va vb t) (hg : w.grownBy w' r) (hne : ∀ k, vb.ownBlock = some k → r ≠ some k) : TripOwn w' lo va vb t := by
  obtain ⟨h1, a, c, h2, h3⟩ := h
  subst h2
  exact ⟨h1, a, c, rfl, own_far h3 hg (fun k hk e => hne k hk e.symm)⟩
theorem TripOwn.lt {w : World} {lo : Nat} {va vb : Value} {t : TripV} (h : TripOwn w lo va vb t) : ∀ k, vb.ownBlock = some k → lo ≤ k ∧ k < w.heap.size := by
  obtain ⟨h1, a, c, h2, h3⟩ := h
  subst h2
  intro k hk
  exact ⟨own_from h3 (Nat.le_refl _) k hk, own_blk_lt h3 k hk⟩
theorem TabD.below {B : Nat} {wr w2 : World} {v : Value} {vs : List (Value × Value)} {ts : List TripV} (h : TabD B wr v vs ts) (hb : Below wr.heap.size wr w2) : TabD B w2 v vs ts :=
  ⟨own_keep h.own hb, h.len, fun j hj => (h.each j hj).below hb, h.apart, h.ok, h.names⟩
theorem TabD.cur {B cb : Nat} {wr w2 : World} {v : Value} {vs : List (Value × Value)} {ts : List TripV} (h : TabD B wr v vs ts) (hcb : cb < B) (hg : wr.grownBy w2 (some cb)) : TabD B w2 v vs ts :=
  ⟨own_far h.own hg (fun k hk e => by have := own_from h.own (Nat.le_refl _) k hk; simp at e; omega), h.len, fun j hj => (h.each j hj).far hg (fun k hk e => by have := (h.each j hj).lt k hk; simp at e; omega), h.apart, h.ok, h.names⟩
theorem TabD.read {B : Nat} {wr : World} {v : Value} {vs : List (Value × Value)} {ts : List TripV} (h : TabD B wr v vs ts) : TripsIn wr vs ts := ⟨h.len, fun i hi => (h.each i hi).read⟩
theorem nmA_app {ts : List TripV} {t : TripV} {i : Nat} (h : i < ts.length) : nmA (ts ++ [t]) i = nmA ts i := by simp [nmA, List.getD, List.getElem?_append_left h]
theorem getD_app {ts : List TripV} {t : TripV} {i : Nat} (h : i < ts.length) : (ts ++ [t]).getD i TripV.zero = ts.getD i TripV.zero := by simp [List.getD, List.getElem?_append_left h]
theorem getD_end {ts : List TripV} {t : TripV} : (ts ++ [t]).getD ts.length TripV.zero = t := by simp [List.getD]
/-- One trip more. -/
theorem TabD.push {B : Nat} {wr wx w2 : World} {v v2 va vb : Value} {vs : List (Value × Value)} {ts : List TripV} {t : TripV} (h : TabD B wr v vs ts) (hx : Below wr.heap.size wr wx)
    (hown : w2.ownsRow B 31 2 v2 (ts.length + 1) (flatP vs ++ [va, vb])) (hgrow : wx.grownBy w2 v.ownBlock) (hwhere : v2.ownBlock = v.ownBlock ∨ v2.ownBlock = some wx.heap.size)
    (hT : TripOwn wx B va vb t) (hap : ∀ k, vb.ownBlock = some k → v.ownBlock ≠ some k) (h1 : tripB t = true) (h2 : ∀ i, i < ts.length → nmA ts i ≠ t.name) :
    TabD B w2 v2 (vs ++ [(va, vb)]) (ts ++ [t]) := by
  have hl := h.len
  have hx' := h.below hx
  have key : ∀ j, (hj : j < vs.length) → (vs ++ [(va, vb)])[j]'(by simp; omega) = vs[j] := fun j hj => List.getElem_append_left hj
  have keyE : (vs ++ [(va, vb)])[vs.length]'(by simp) = (va, vb) := by simp
  refine ⟨?_, by simp [hl], fun j hj => ?_, fun j hj k hk => ?_, fun j hj => ?_, fun i j hij hj => ?_⟩
  · rw [flatP_snoc]; simpa using hown
  · by_cases hjl : j < vs.length
    · rw [key j hjl, getD_app (by omega)]
      exact (hx'.each j hjl).far hgrow (hx'.apart j hjl)
    · obtain rfl : j = vs.length := by simp at hj; omega
      rw [keyE, hl, getD_end]
      exact hT.far hgrow hap
  · by_cases hjl : j < vs.length
    · rw [key j hjl] at hk
      rcases hwhere with hw | hw
      · rw [hw]; exact h.apart j hjl k hk
      · rw [hw]; intro e; have := ((hx'.each j hjl).lt k hk).2; simp at e; omega
    · obtain rfl : j = vs.length := by simp at hj; omega
      rw [keyE] at hk
      rcases hwhere with hw | hw
      · rw [hw]; exact hap k hk
      · rw [hw]; intro e; have := (hT.lt k hk).2; simp at e; omega
  · by_cases hjl : j < ts.length
    · rw [getD_app hjl]; exact h.ok j hjl
    · obtain rfl : j = ts.length := by simp at hj; omega
      rw [getD_end]; exact h1
  · by_cases hjl : j < ts.length
    · rw [nmA_app hjl, nmA_app (by omega)]; exact h.names i j hij hjl
    · obtain rfl : j = ts.length := by simp at hj; omega
      rw [nmA_app hij, show nmA (ts ++ [t]) ts.length = t.name by unfold nmA; rw [getD_end]]
      exact h2 i hij

/-- A drawn timetable: right, its memory its own. -/
def DrawnTab (w : World) (cb cap : Nat) (a : Option Addr) (zs : List Int) (e : Ending) (w' : World) : Prop :=
  ∃ ao cp vs ts, e = .returned (.slice ao (List.length ts) cp) ∧ TabD w.heap.size w' (.slice ao ts.length cp) vs ts ∧ ts.length ≤ 11 ∧ Cur w' cb a cap zs ∧ w.grownBy w' (some cb)
theorem TabD.mono {B B' : Nat} {wr : World} {v : Value} {vs : List (Value × Value)} {ts : List TripV} (h : TabD B wr v vs ts) (hB : B' ≤ B) : TabD B' wr v vs ts :=
  ⟨own_base h.own hB, h.len, fun j hj => by obtain ⟨h1, a, c, h2, h3⟩ := h.each j hj; exact ⟨h1, a, c, h2, own_base h3 hB⟩, h.apart, h.ok, h.names⟩

set_option maxRecDepth 100000 in
set_option maxHeartbeats 6400000 in
theorem cDrawTab (cb cap : Nat) (a : Option Addr) (zs : List Int) (n : Int) (CT : ∀ w, Cur w cb a cap zs → cb < w.heap.size → Calls Try.prog 36 #[.pointer (some ⟨cb, 0, none⟩), .agg #[.int .i64 n, .slice none 0 0], .int .i64 4] w (DrawnTrip w cb cap a zs)) (most : Int) (hm1 : 1 ≤ most) (hm6 : most ≤ 11) (w : World) (hc : Cur w cb a cap zs) (hl : zs.length ≤ 1048576) (hcb : cb < w.heap.size) :
    Calls Try.prog 18 #[.pointer (some ⟨cb, 0, none⟩), .agg #[.int .i64 n, .slice none 0 0], .int .i64 most] w (DrawnTab w cb cap a zs) := by
  have hOn : ∀ k, OnCur cb a zs k → k < w.heap.size := fun k hk => hc.lt hk
  obtain ⟨i0, hi, hz0, hz1, hz2⟩ := info_parts infoTrip
  have hb0 := btrans (balloc w (.cells #[.int .i64 n, .slice none 0 0] 49)) (balloc _ (.cells #[] 31))
  have A0 := blk_keep (balloc _ (.cells #[] 31)) (one_block w (.cells #[.int .i64 n, .slice none 0 0] 49))
  have hO := World.ownsRow_made (base := w.heap.size + 1) (e := 31) (size := 2) (w.alloc (.cells #[.int .i64 n, .slice none 0 0] 49)) #[] 0 (by simp) (by unfold maxLen; omega) rfl
  rw [sz1] at hO
  go_enter Try.func18, Try.ntmps18
  go_wp2_with fail
  generalize (w.alloc (.cells #[.int .i64 n, .slice none 0 0] 49)).alloc (.cells #[] 31) = V at *
  have T0 : TabD (w.heap.size + 1) V (.slice (some ⟨w.heap.size + 1, 0, none⟩) 0 0) [] [] := ⟨hO, rfl, fun j hj => by simp at hj, fun j hj => by simp at hj, fun j hj => by simp at hj, fun i j h hj => by simp at hj⟩
  have hc0 := hc.below hb0
  have G0 := gofr (some cb) hb0
  clear hc hb0 hO
  refine (cbelow cb cap a zs most _ hc0 hl (by omega) (by omega)).mono ?_
  rintro e w1 ⟨r, rfl, r0, r1, hc1, hg1⟩
  have G1 := gtrans G0 hg1
  have A1 := far_blk hg1 A0 (fun j hj => by simp at hj; omega)
  have T1 := T0.cur (by omega) hg1
  have hw1 : IntKind.i64.wrap (1 + r) = 1 + r := wrap_in _ (by omega) (by omega)
  obtain ⟨N, hN⟩ : ∃ N : Nat, 1 + r = (N : Int) := ⟨(1 + r).toNat, by omega⟩
  have hN6 : N ≤ 11 := by omega
  replace hN := hide hN
  clear hg1 hc0 G0 A0 T0
  go_wp2
  go_loopw [7, 8] (fun vo vi wr => ∃ (j : Nat) (vs : List (Value × Value)) (ts : List TripV), j + ts.length ≤ N ∧ vi = .int .i64 j ∧ TabD (w.heap.size + 1) wr vo vs ts ∧ wr.heap[w.heap.size]? = some (.cells #[.int .i64 n, .slice none 0 0] 49) ∧ Cur wr cb a cap zs ∧ w.grownBy wr (some cb)) (fun _ vi _ => (intOf vi).toNat)
  case atStart => exact ⟨N, [], [], by simp, by rw [hN.out], T1, A1, hc1, G1⟩
  case round =>
    clear T1 A1 hc1 G1 hw1 hN r0 r1
    obtain ⟨j, vs, ts, hj, rfl, T, A, hC, G⟩ := hrel
    obtain ⟨ao, cp, rfl⟩ := own_form T.own
    by_cases hj0 : 0 < j
    · have hj0' : (0 : Int) < (j : Int) := by omega
      obtain ⟨⟨x0, x1⟩, -⟩ := blk2 A
      have hAl := lt_of_block A
      go_wp2_with fail
      refine (CT _ hC (by omega)).mono ?_
      rintro e w2 ⟨s, cs, ca, cc, rfl, hok, ho, hc2, hg2⟩
      have G2 := gtrans G hg2
      have A2 := far_blk hg2 A (fun j hj => by simp at hj; omega)
      have T2 := T.cur (by omega) hg2
      have hws := hg2.size
      have hvlt := own_blk_lt T.own
      have hap : ∀ k, (Value.slice ca cs.length cc).ownBlock = some k → (Value.slice ao ts.length cp).ownBlock ≠ some k := fun k hk e => by
        have h1 := own_from ho (Nat.le_refl _) k hk
        have h2 := hvlt k e
        omega
      have hTo : TripOwn w2 (w.heap.size + 1) (.string s) (.slice ca cs.length cc) ⟨s, cs⟩ := ⟨rfl, ca, cc, rfl, own_base ho (by omega)⟩
      clear hC G A T hg2 x0 x1 hvlt ho
      have hx := balloc w2 (.cells #[.string s, .slice ca cs.length cc] 31)
      have B3 := one_block w2 (.cells #[.string s, .slice ca cs.length cc] 31)
      have T3 := T2.below hx
      have A3 := blk_keep hx A2
      have C3 := hc2.below hx
      have G3 := gtrans G2 (gofr (some cb) hx)
      have hTo3 := hTo.below hx
      have h3s := hx.size
      clear T2 A2 hc2 G2 hTo
      obtain ⟨⟨y0, y1⟩, -⟩ := blk2 B3
      go_wp2_with fail
      generalize w2.alloc (.cells #[.string s, .slice ca cs.length cc] 31) = w3 at *
      refine (cTaken ao cp ts s _ (Trips.of_pairs T3.own T3.read) (by omega)).mono ?_
      rintro e w4 ⟨r, rfl, hr, hw4⟩
      subst w4
      have hwj : IntKind.i64.wrap ((j : Int) - 1) = ((j - 1 : Nat) : Int) := by rw [wrap_in _ (by omega) (by omega)]; omega
      cases r
      · have hnm := hide (hr rfl)
        clear hr
        have hx4 := balloc w3 (.cells #[.string s, .slice ca cs.length cc] 31)
        have hB4 := one_block w3 (.cells #[.string s, .slice ca cs.length cc] 31)
        have o4 := own_keep T3.own hx4
        have hG3s := G3.size
        have h3l := lt_of_block A3
        go_wp2_with (at_builtin; refine wpList_append_own_at _ rfl _ _ 24 rfl (w.heap.size + 1) 31 i0 _ 2 40 Try.underlying24 hi hz0 hz1 hz2 rfl (by decide) _ _ _ rfl o4 ⟨w3.heap.size, 0, none⟩ 1 1 [.string s, .slice ca cs.length cc] rfl rfl ?c1 ?c2 ?c3 ?c4 ?c5 ?_)
        case c1 => exact World.news_of_block hB4
        case c2 => simp [Value.oneCell']
        case c3 => unfold maxLen; omega
        case c4 => omega
        case c5 => simp; omega
        intro v5 w5 hown hgrow _ hwhere
        have T5 := T3.push hx4 hown hgrow (by rw [sz1]; exact hwhere) (hTo3.below hx4) hap hok hnm.out
        have hge := own_from T3.own (Nat.le_refl _)
        have A5 := far_blk hgrow (blk_keep hx4 A3) (fun j hj => by have := hge j hj; omega)
        have C5 : Cur w5 cb a cap zs := (C3.below hx4).grow hOn hgrow (fun k hk => by have := hge k hk; omega)
        have G5 : w.grownBy w5 (some cb) := grown_far (gtrans G3 (gofr _ hx4)) hgrow (fun k hk => by have := hge k hk; omega)
        clear hown hgrow hwhere hx4 hB4 o4 hge T3 A3 C3 G3 hnm hTo3 hap hok
        go_wp2
        go_roundw
        case rel => exact ⟨j - 1, vs ++ [(.string s, .slice ca cs.length cc)], ts ++ [⟨s, cs⟩], by simp; omega, by first | rfl | (congr 1; omega), T5, A5, C5, G5⟩
        case measure => simp [intOf]; omega
      · clear hr
        go_wp2
        go_roundw
        case rel => exact ⟨j - 1, vs, ts, by omega, by first | rfl | (congr 1; omega), T3, A3, C3, G3⟩
        case measure => simp [intOf]; omega
    · obtain rfl : j = 0 := by omega
      go_wp2
      go_ret
      exact ⟨ao, cp, vs, ts, rfl, T.mono (by omega), by omega, hC, G⟩
end Go.Proofs.Ythbedhbbijpfkaa
