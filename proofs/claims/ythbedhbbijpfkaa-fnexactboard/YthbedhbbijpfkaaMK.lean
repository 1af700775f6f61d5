/- Marks written into a list of trips that a call made: what lies outside of its blocks stays. -/
import Derived.Test.YthbedhbbijpfkaaQ
import Derived.Laws.BytesArg
namespace Go.Proofs.Ythbedhbbijpfkaa
open Go.RowKit
theorem size_set (w : World) (p : Addr) (v : Value) : (w.setCell p v).heap.size = w.heap.size := by simp
/-- The second cells are rows of blocks between g and hi, each another. -/
def ApartV (g hi : Nat) (vs : List (Value × Value)) : Prop :=
  (∀ j, (hj : j < vs.length) → ∃ b n c, vs[j].2 = .slice (some ⟨b, 0, none⟩) n c ∧ g < b ∧ b < hi) ∧
    ∀ i j, (hi : i < vs.length) → (hj : j < vs.length) → i < j → vs[i].2.ownBlock ≠ vs[j].2.ownBlock
theorem ApartV.nil (g hi : Nat) : ApartV g hi [] := ⟨fun j hj => by simp at hj, fun i j hi => by simp at hi⟩
theorem ApartV.snoc {g hi hi' b n c : Nat} {vs : List (Value × Value)} {va : Value} (h : ApartV g hi vs) (hb : hi ≤ b) (hb' : b < hi') (hg : g < b) : ApartV g hi' (vs ++ [(va, .slice (some ⟨b, 0, none⟩) n c)]) := by
  have last : ∀ j, (hj : j < (vs ++ [((va, .slice (some ⟨b, 0, none⟩) n c) : Value × Value)]).length) → ¬ j < vs.length → (vs ++ [((va, .slice (some ⟨b, 0, none⟩) n c) : Value × Value)])[j] = (va, .slice (some ⟨b, 0, none⟩) n c) := by
    intro j hj hn
    rw [List.getElem_append_right (by omega)]
    simp
  refine ⟨fun j hj => ?_, fun i j hi hj hij => ?_⟩
  · by_cases hl : j < vs.length
    · rw [List.getElem_append_left hl]
      obtain ⟨b1, n1, c1, e, h1, h2⟩ := h.1 j hl
      exact ⟨b1, n1, c1, e, h1, by omega⟩
    · rw [last j hj hl]
      exact ⟨b, n, c, rfl, hg, hb'⟩
  · by_cases hl : j < vs.length
    · rw [List.getElem_append_left hl, List.getElem_append_left (by omega)]
      exact h.2 i j (by omega) hl hij
    · have hil : i < vs.length := by simp at hj; omega
      rw [last j hj hl, List.getElem_append_left hil]
      obtain ⟨b1, n1, c1, e, h1, h2⟩ := h.1 i hil
      rw [e]
      simp only [Value.ownBlock, ne_eq, Option.some.injEq]
      omega
/-- Trips that a call made, each call list in another block, all of them below hi. -/
def TripsApart (w : World) (g hi : Nat) (ts : List TripV) : Prop :=
  ∃ vs : List (Value × Value), vs.length = ts.length ∧ w.ownsRow g 31 2 (.slice (some ⟨g, 0, none⟩) ts.length ts.length) ts.length (flatP vs) ∧
    (∀ j, (hj : j < vs.length) → TripOwn w (g + 1) vs[j].1 vs[j].2 (ts.getD j TripV.zero)) ∧ ApartV g hi vs
theorem TripsApart.below {w w' : World} {g hi : Nat} {ts : List TripV} (h : TripsApart w g hi ts) (hb : Below w.heap.size w w') : TripsApart w' g hi ts := by
  obtain ⟨vs, h1, h2, h3, h4⟩ := h
  exact ⟨vs, h1, own_keep h2 hb, fun j hj => (h3 j hj).below hb, h4⟩
/-- Nothing turns but what lies in the blocks from g to hi. -/
structure Span (g hi : Nat) (w w' : World) : Prop where
  os : w'.os = w.os
  tape : w'.tape = w.tape
  output : w'.output = w.output
  size : w.heap.size ≤ w'.heap.size
  block : ∀ k, k < w.heap.size → (k < g ∨ hi ≤ k) → w'.heap[k]? = w.heap[k]?
theorem Span.refl (g hi : Nat) (w : World) : Span g hi w w := ⟨rfl, rfl, rfl, Nat.le_refl _, fun _ _ _ => rfl⟩
theorem Span.trans {g hi : Nat} {w w' w2 : World} (h : Span g hi w w') (k : Span g hi w' w2) : Span g hi w w2 :=
  ⟨k.os.trans h.os, k.tape.trans h.tape, k.output.trans h.output, Nat.le_trans h.size k.size, fun j hj hx => (k.block j (Nat.lt_of_lt_of_le hj h.size) hx).trans (h.block j hj hx)⟩
theorem Span.of {g hi : Nat} {w w' : World} (h : Below w.heap.size w w') : Span g hi w w' := ⟨h.os, h.tape, h.output, h.size, fun j hj _ => h.block j hj⟩
theorem Span.ofg {g hi : Nat} {w w' : World} {r : Option Nat} (h : w.grownBy w' r) (hr : ∀ b, r = some b → g ≤ b ∧ b < hi) : Span g hi w w' :=
  ⟨h.os, h.tape, h.output, h.size, fun j hj hx => h.block j hj (fun e => by have := hr j e.symm; omega)⟩
theorem Span.below {g hi : Nat} {w0 w w' : World} (h : Span g hi w w') (hb : Below w0.heap.size w0 w) (hg : w0.heap.size ≤ g) : Below w0.heap.size w0 w' :=
  ⟨h.os.trans hb.os, h.tape.trans hb.tape, h.output.trans hb.output, Nat.le_trans hb.size h.size, fun k hk => (h.block k (Nat.lt_of_lt_of_le hk hb.size) (.inl (by omega))).trans (hb.block k hk)⟩
theorem own_span {g hi : Nat} {w w' : World} {base e sz n : Nat} {v : Value} {xs : List Value} (h : w.ownsRow base e sz v n xs) (hs : Span g hi w w') (hx : ∀ k, v.ownBlock = some k → k < g ∨ hi ≤ k) : w'.ownsRow base e sz v n xs := by
  obtain ⟨h1, h2⟩ := h
  refine ⟨h1, ?_⟩
  rcases h2 with h2 | ⟨q, cap, cur, hv, hg, hh, r⟩
  · exact .inl h2
  · exact .inr ⟨q, cap, cur, hv, hg, (hs.block q (lt_of_block hh) (hx q (by rw [hv]; rfl))).trans hh, r⟩

set_option maxHeartbeats 3200000 in
theorem cMarkHaltsL (B g cap : Nat) (es : List HaltV) (k : Int) (w : World) (ho : w.ownsRow B 33 3 (.slice (some ⟨g, 0, none⟩) es.length cap) es.length (flatHalts es)) (hl : es.length ≤ 1048576) (hk0 : 0 ≤ k) (hk1 : k ≤ 10000000000000) :
    Calls Try.prog 34 #[.slice (some ⟨g, 0, none⟩) es.length cap, .int .i64 k] w fun e w' => e = .returned (.int .i64 (k + 3 * es.length)) ∧
      w'.ownsRow B 33 3 (.slice (some ⟨g, 0, none⟩) es.length cap) es.length (flatHalts (marksHalts k es.length)) ∧ w.grownBy w' (some g) := by
  go_enter Try.func34, Try.ntmps34
  go_wp2
  go_loopw [1, 5] (fun kk i wr => ∃ j : Nat, j ≤ es.length ∧ i = .int .i64 j ∧ kk = .int .i64 (k + 3 * j) ∧ wr.ownsRow B 33 3 (.slice (some ⟨g, 0, none⟩) es.length cap) es.length (flatHalts (marksHalts k j ++ es.drop j)) ∧ w.grownBy wr (some g)) (fun _ i _ => es.length - (intOf i).toNat)
  case atStart => exact ⟨0, Nat.zero_le _, rfl, by simp, by simpa [marksHalts] using ho, World.grownBy.refl _ _⟩
  case round =>
    obtain ⟨j, hj, rfl, rfl, hown, hg⟩ := hrel
    by_cases hlt : j < es.length
    · have hlen : (marksHalts k j ++ es.drop j).length = es.length := by rw [List.length_append, marksHalts_len, List.length_drop]; omega
      obtain ⟨y0, y1, y2⟩ := flatHalts_get (marksHalts k j ++ es.drop j) j (by omega)
      have f0 := hown.frozenAt (j * 3)
      have z0 := (hown.cellAt (j * 3) (by omega)).trans y0
      have f1 := hown.frozenAt (j * 3 + 1)
      have z1 := (hown.cellAt (j * 3 + 1) (by omega)).trans y1
      have f2 := hown.frozenAt (j * 3 + 2)
      have z2 := (hown.cellAt (j * 3 + 2) (by omega)).trans y2
      generalize (marksHalts k j ++ es.drop j).getD j HaltV.zero = E at z0 z1 z2
      clear y0 y1 y2
      obtain ⟨s1, t1⟩ := hown.stored (j * 3) (.int .i64 (k + 3 * j))
      obtain ⟨s2, t2⟩ := s1.stored (j * 3 + 1) (.int .i64 (k + 3 * j + 1))
      obtain ⟨s3, t3⟩ := s2.stored (j * 3 + 2) (.int .i64 (k + 3 * j + 2))
      rw [markHalts_step es k j hlt] at s3
      have hg' := gtrans hg (gtrans t1 (gtrans t2 (t3)))
      have w1 : IntKind.i64.wrap (k + 3 * (j : Int) + 1) = k + 3 * (j : Int) + 1 := (wrap_in _ (by omega) (by omega)).trans (by omega)
      have w2 : IntKind.i64.wrap (k + 3 * (j : Int) + 1 + 1) = k + 3 * (j : Int) + 2 := (wrap_in _ (by omega) (by omega)).trans (by omega)
      have w3 : IntKind.i64.wrap (k + 3 * (j : Int) + 2 + 1) = k + 3 * ((j : Int) + 1) := (wrap_in _ (by omega) (by omega)).trans (by omega)
      clear hown s1 s2 t1 t2 t3 hg hlen
      go_wp2
      exact ⟨⟨j + 1, by omega, by go_num, by go_num, s3, hg'⟩, by simp [intOf]; omega⟩
    · have hjj : j = es.length := by omega
      subst hjj
      have hown2 : wr.ownsRow B 33 3 (.slice (some ⟨g, 0, none⟩) es.length cap) es.length (flatHalts (marksHalts k es.length)) := by simpa using hown
      clear hown
      go_wp2
      go_ret
      exact ⟨rfl, hown2, hg⟩


set_option maxHeartbeats 3200000 in
theorem cToTripsA (a : Option Addr) (cap : Nat) (ts : List TripV) (w : World) (hR : Trips w a ts) (hS : Small ts) :
    Calls Try.prog 11 #[.slice a ts.length cap] w fun e w' => e = .returned (.slice (some ⟨w.heap.size, 0, none⟩) ts.length ts.length) ∧ TripsOwn w' w.heap.size ts ∧ TripsApart w' w.heap.size w'.heap.size ts ∧ Below w.heap.size w w' := by
  obtain ⟨hl, he⟩ := hS
  obtain ⟨i0, hi, hz0, hz1, hz2⟩ := info_parts infoTrip
  go_enter Try.func11, Try.ntmps11
  go_wp2_with (at_make; refine wpList_make_full _ rfl _ _ 24 rfl w.heap.size 31 i0 (.agg #[.string ⟨#[]⟩, .slice none 0 0]) 2 Try.underlying24 hi hz0 hz1 _ _ _ _ ts.length rfl rfl rfl rfl (by rw [hz2]; omega) (by unfold maxLen; omega) (Nat.le_refl _) ?_; intro w1 hown hgrow)
  have hown' : w1.ownsRow w.heap.size 31 2 (.slice (some ⟨w.heap.size, 0, none⟩) ts.length ts.length) ts.length (flatP [] ++ zeroT (ts.length - 0)) := by
    rw [madeTrip] at hown
    simpa [flatP] using hown
  have hbel : Below w.heap.size w w1 := (Below.refl _ _).grown hgrow (Nat.le_refl _) (fun k hk => by cases hk)
  clear hown hgrow
  go_loopw [4] (fun i wr => ∃ (k : Nat) (vs : List (Value × Value)), k ≤ ts.length ∧ i = .int .i64 k ∧ vs.length = k ∧ wr.ownsRow w.heap.size 31 2 (.slice (some ⟨w.heap.size, 0, none⟩) ts.length ts.length) ts.length (flatP vs ++ zeroT (ts.length - k)) ∧ (∀ j, (hj : j < vs.length) → TripOwn wr (w.heap.size + 1) vs[j].1 vs[j].2 (ts.getD j TripV.zero)) ∧ ApartV w.heap.size wr.heap.size vs ∧ Below w.heap.size w wr) (fun i _ => ts.length - (intOf i).toNat)
  case atStart => exact ⟨0, [], Nat.zero_le _, rfl, rfl, hown', fun j hj => by simp at hj, ApartV.nil _ _, hbel⟩
  case round =>
    obtain ⟨k, vs, hk, rfl, hvl, hown, hall, hap, hb⟩ := hrel
    by_cases hlt : k < ts.length
    · obtain ⟨b, off, n, cn, rfl, c1, c2, -, c3⟩ := (hR.below hb).at hlt
      have e0 : ts.getD k TripV.zero = ts[k] := by simp [List.getD, hlt]
      have hek := he ts[k] (List.getElem_mem hlt)
      rw [e0] at c1 c2 c3
      have hbs := cell_lt c1
      have CT := cToTrip ts[k].name n cn ts[k].calls wr c3 hek.2
      have hg : w.heap.size < wr.heap.size := owns_lt hown
      replace e0 := hide e0
      generalize ts[k] = R at *
      clear hown' hbel c3 hek
      go_wp2_with fail
      refine CT.mono ?_
      rintro e w2 ⟨g2, rfl, hro, hb1⟩
      have HB1 := btrans hb hb1
      have O1 := own_keep hown hb1
      have f0 := O1.frozenAt (k * 2)
      have f1 := O1.frozenAt (k * 2 + 1)
      have e2 : ts.length - k = ts.length - (k + 1) + 1 := by omega
      have z0 : w2.cell? ⟨w.heap.size, k * 2, none⟩ = some (.string ⟨#[]⟩) := by
        rw [O1.cellAt _ (by omega), List.getElem?_append_right (by rw [flatP_len]; omega), flatP_len, hvl, Nat.sub_self, e2, zeroT_succ]; rfl
      have z1 : w2.cell? ⟨w.heap.size, k * 2 + 1, none⟩ = some (.slice none 0 0) := by
        rw [O1.cellAt _ (by omega), List.getElem?_append_right (by rw [flatP_len]; omega), flatP_len, hvl, show k * 2 + 1 - k * 2 = 1 by omega, e2, zeroT_succ]; rfl
      have O2 := ((O1.stored (k * 2) (.string R.name)).1.stored (k * 2 + 1) (.slice (some ⟨g2, 0, none⟩) R.calls.length R.calls.length)).1
      rw [stepTrip vs ts.length k _ _ hvl hlt] at O2
      have HB2 := ((HB1.setCell (p := ⟨w.heap.size, k * 2, none⟩) (Nat.le_refl _) (.string R.name)).setCell (p := ⟨w.heap.size, k * 2 + 1, none⟩) (Nat.le_refl _) (.slice (some ⟨g2, 0, none⟩) R.calls.length R.calls.length))
      have hsz := hb1.size
      have hap2 : ApartV w.heap.size ((w2.setCell ⟨w.heap.size, k * 2, none⟩ (.string R.name)).setCell ⟨w.heap.size, k * 2 + 1, none⟩ (.slice (some ⟨g2, 0, none⟩) R.calls.length R.calls.length)).heap.size (vs ++ [(.string R.name, .slice (some ⟨g2, 0, none⟩) R.calls.length R.calls.length)]) := by
        have h1 := own_from hro (Nat.le_refl _) g2 rfl
        have h2 := owns_lt hro
        simp only [size_set]
        exact hap.snoc (by omega) (by omega) (by omega)
      clear hap
      have A2 : ∀ j, (hj : j < (vs ++ [((.string R.name, .slice (some ⟨g2, 0, none⟩) R.calls.length R.calls.length) : Value × Value)]).length) → TripOwn ((w2.setCell ⟨w.heap.size, k * 2, none⟩ (.string R.name)).setCell ⟨w.heap.size, k * 2 + 1, none⟩ (.slice (some ⟨g2, 0, none⟩) R.calls.length R.calls.length)) (w.heap.size + 1) (vs ++ [((.string R.name, .slice (some ⟨g2, 0, none⟩) R.calls.length R.calls.length) : Value × Value)])[j].1 (vs ++ [((.string R.name, .slice (some ⟨g2, 0, none⟩) R.calls.length R.calls.length) : Value × Value)])[j].2 (ts.getD j TripV.zero) := by
        intro j hj
        refine TripOwn.set (TripOwn.set ?_ (by omega)) (by omega)
        by_cases hjk : j < vs.length
        · rw [List.getElem_append_left hjk]
          exact (hall j hjk).below hb1
        · have hjj : j = k := by simp at hj; omega
          subst hjj
          have e : (vs ++ [((.string R.name, .slice (some ⟨g2, 0, none⟩) R.calls.length R.calls.length) : Value × Value)])[j] = (.string R.name, .slice (some ⟨g2, 0, none⟩) R.calls.length R.calls.length) := by simp [List.getElem_append_right, hvl]
          rw [e, e0.out]
          exact ⟨rfl, _, _, rfl, own_base hro (by omega)⟩
      clear O1 hown hb1 hb HB1 hall hro e2
      go_wp2
      go_roundw
      case rel => exact ⟨k + 1, vs ++ [(_, _)], by omega, by go_num, by simp [hvl], O2, A2, hap2, HB2⟩
      case measure => simp [intOf]; omega
    · obtain rfl : k = ts.length := by omega
      have K : TripsOwn wr w.heap.size ts := ⟨vs, hvl, by simpa [zeroT, flatP] using hown, hall⟩
      have K2 : TripsApart wr w.heap.size wr.heap.size ts := ⟨vs, hvl, by simpa [zeroT, flatP] using hown, hall, hap⟩
      clear hown hall hR hap
      go_wp2
      go_ret
      exact ⟨rfl, K, K2, hb⟩


theorem str_sz (b : UInt8) (s : ByteArray) : ((⟨#[b]⟩ : ByteArray) ++ s).size = s.size + 1 := by
  rw [ByteArray.size_append]
  show 1 + s.size = _
  omega
theorem conv_any (wr : World) (z : Int) : ∃ b, Sem.run Try.prog (convert 22 9 (Value.slice (some ⟨wr.heap.size, 0, none⟩) 1 1)) (wr.alloc (Obj.cells #[Value.int .u8 z] 5)) =
    .ok (.string ⟨#[b]⟩) (wr.alloc (Obj.cells #[Value.int .u8 z] 5)) := by
  have h := run_convert_bytes_arg (P := Try.prog) (wr.alloc (Obj.cells #[Value.int .u8 z] 5)) 22 5 Try.underlying22 Try.underlying5 wr.heap.size 0 1 1 [z] rfl
    (fun i hi => by obtain rfl : i = 0 := by omega
                    simp) 9 Try.underlying9
  exact ⟨_, h⟩
set_option maxRecDepth 100000 in
set_option maxHeartbeats 800000 in
theorem cMarkText (k : Int) (w : World) (h0 : 0 ≤ k) (hk : k ≤ 10000000000000) : Calls Try.prog 33 #[.int .i64 k] w fun e w' => ∃ s, e = .returned (.string s) ∧ Below w.heap.size w w' := by
  by_cases hz : k ≤ 0
  · go_enter Try.func33, Try.ntmps33
    go_wp2
    go_ret
    exact ⟨_, rfl, Below.refl _ _⟩
  go_enter Try.func33, Try.ntmps33
  go_wp2
  go_loopw [0, 3] (fun xx out wr => ∃ (n : Nat) (s : ByteArray), xx = .int .i64 n ∧ out = .string s ∧ s.size + n ≤ 10000000000000 ∧ Below w.heap.size w wr) (fun xx _ _ => (intOf xx).toNat)
  case atStart => exact ⟨k.toNat, ⟨#[]⟩, by congr 1; omega, rfl, by show 0 + _ ≤ _; omega, Below.refl _ _⟩
  case round =>
    obtain ⟨n, s, rfl, rfl, hlen, hb⟩ := hrel
    by_cases hn0 : n = 0
    · subst hn0
      have hlt : ¬ ((0 : Int) < ((0 : Nat) : Int)) := by simp
      have hs : ¬ 9223372036854775807 < 1 + s.size := by omega
      go_wp2
      go_ret
      exact ⟨⟨_, rfl⟩, hb⟩
    · have hlt : (0 : Int) < (n : Int) := by omega
      have HN := hide hn0
      clear hn0
      obtain ⟨b, hconv⟩ := conv_any wr (48 + (n : Int) % 10)
      have hs : ¬ 9223372036854775807 < 1 + s.size := by omega
      go_wp2
      go_roundw
      case rel => exact ⟨n / 10, _, by go_num, rfl, by have := HN.out; rw [str_sz]; omega, hb.alloc hb.size _⟩
      case measure => have := HN.out; simp [intOf]; omega

theorem flatP_set (vs : List (Value × Value)) (i : Nat) (hi : i < vs.length) (u : Value) : (flatP vs).set (i * 2) u = flatP (vs.set i (u, vs[i].2)) := by
  induction vs generalizing i with
  | nil => simp at hi
  | cons e es ih =>
    cases i with
    | zero => simp [flatP_cons]
    | succ i =>
      have e1 : (i + 1) * 2 = i * 2 + 1 + 1 := by omega
      rw [e1, flatP_cons]
      simp only [List.set_cons_succ, List.getElem_cons_succ]
      rw [ih i (by simpa using hi), flatP_cons]

set_option maxRecDepth 100000 in
set_option maxHeartbeats 3200000 in
theorem cMarkTrips (g hi : Nat) (ts : List TripV) (k : Int) (w : World) (hA : TripsApart w g hi ts) (hg : g < hi) (hS : Small ts) (h0 : 0 ≤ k) (hk : k ≤ 10000000) :
    Calls Try.prog 14 #[.slice (some ⟨g, 0, none⟩) ts.length ts.length, .int .i64 k] w fun e w' => ∃ r, e = .returned (.int .i64 r) ∧ 0 ≤ r ∧ Span g hi w w' := by
  obtain ⟨hl, he⟩ := hS
  obtain ⟨vs, hvl, hown, hall, hap⟩ := hA
  go_enter Try.func14, Try.ntmps14
  go_wp2
  go_loopw [1, 5] (fun kk i wr => ∃ (j : Nat) (q : Int) (us : List (Value × Value)), j ≤ ts.length ∧ i = .int .i64 j ∧ kk = .int .i64 q ∧ 0 ≤ q ∧ q ≤ 10000000 + 3145729 * (j : Int) ∧ us.length = ts.length ∧ Hid (∀ m, (h1 : m < us.length) → (h2 : m < vs.length) → us[m].2 = vs[m].2) ∧ Hid (∀ m, (hm : m < us.length) → ∃ s, us[m].1 = .string s) ∧ wr.ownsRow g 31 2 (.slice (some ⟨g, 0, none⟩) ts.length ts.length) ts.length (flatP us) ∧ Hid (∀ m, (hm : m < vs.length) → j ≤ m → TripOwn wr (g + 1) vs[m].1 vs[m].2 (ts.getD m TripV.zero)) ∧ Span g hi w wr) (fun _ i _ => ts.length - (intOf i).toNat)
  case atStart => exact ⟨0, k, vs, Nat.zero_le _, rfl, rfl, h0, by omega, hvl, hide (fun _ _ _ => rfl), hide (fun m hm => ⟨_, (hall m hm).1⟩), hown, hide (fun m hm _ => hall m hm), Span.refl _ _ _⟩
  case round =>
    obtain ⟨j, q, us, hj, rfl, rfl, hq0, hq1, hul, hu2, hu1, hown', hrest, hsp⟩ := hrel
    clear hown hall
    by_cases hlt : j < ts.length
    · have hju : j < us.length := by omega
      have hjv : j < vs.length := by omega
      have e0 : ts.getD j TripV.zero = ts[j] := by simp [List.getD, hlt]
      have hek := (he ts[j] (List.getElem_mem hlt)).2
      obtain ⟨-, a, c, hv, ho⟩ := hrest.out j hjv (Nat.le_refl _)
      rw [e0] at hv ho
      obtain ⟨b, n1, c1, hv', hgb, hbh⟩ := hap.1 j hjv
      rw [hv'] at hv
      obtain ⟨rfl, rfl, rfl⟩ : (some ⟨b, 0, none⟩ : Option Addr) = a ∧ n1 = ts[j].calls.length ∧ c1 = c := by simpa using hv
      obtain ⟨s0, hs0⟩ := hu1.out j hju
      obtain ⟨y0, y1⟩ := flatP_get us j hju
      rw [hs0] at y0
      rw [hu2.out j hju hjv, hv'] at y1
      have f0 := hown'.frozenAt (j * 2)
      have z0 := (hown'.cellAt (j * 2) (by omega)).trans y0
      have z1 := (hown'.cellAt (j * 2 + 1) (by omega)).trans y1
      have hlen := hlt
      have hgl := owns_lt hown'
      have hq2 : ¬ (10000000000000 < q) := by omega
      generalize hC : ts[j].calls = C at *
      have hvv := hide hv'
      clear y0 y1 hv hv' hs0
      go_wp2_with fail
      refine (cMarkText q _ hq0 (by omega)).mono ?_
      rintro e w1 ⟨s1, rfl, hb1⟩
      have O1 := own_keep hown' hb1
      have f0 := O1.frozenAt (j * 2)
      have z0 := ble hb1 z0
      obtain ⟨O2, G2⟩ := O1.stored (j * 2) (.string s1)
      rw [flatP_set us j hju] at O2
      have z1 : (w1.setCell ⟨g, j * 2, none⟩ (.string s1)).cell? ⟨g, j * 2 + 1, none⟩ = some (.slice (some ⟨b, 0, none⟩) C.length c1) := by
        rw [O2.cellAt _ (by omega), (flatP_get _ j (by simpa using hju)).2]
        simp only [List.getElem_set_self]
        rw [hu2.out j hju hjv, hvv.out]
      have H2 := own_set (b := g) (i := j * 2) (u := .string s1) (own_keep ho hb1) (fun k hk => by have := own_from ho (Nat.le_refl _) k hk; omega)
      have S2 : Span g hi w (w1.setCell ⟨g, j * 2, none⟩ (.string s1)) := (hsp.trans (Span.of hb1)).trans (Span.ofg G2 (fun b h => by cases h; omega))
      have R2 : Hid (∀ m, (hm : m < vs.length) → j + 1 ≤ m → TripOwn (w1.setCell ⟨g, j * 2, none⟩ (.string s1)) (g + 1) vs[m].1 vs[m].2 (ts.getD m TripV.zero)) := hide (fun m hm hjm => TripOwn.set ((hrest.out m hm (by omega)).below hb1) (by omega))
      have U2 : Hid (∀ m, (h1 : m < (us.set j (.string s1, us[j].2)).length) → (h2 : m < vs.length) → (us.set j (.string s1, us[j].2))[m].2 = vs[m].2) := hide (fun m h1 h2 => by
        rw [List.getElem_set]
        split
        · next e => subst e; exact hu2.out _ hju hjv
        · exact hu2.out m (by simpa using h1) h2)
      have U1 : Hid (∀ m, (hm : m < (us.set j (.string s1, us[j].2)).length) → ∃ s, (us.set j (.string s1, us[j].2))[m].1 = .string s) := hide (fun m hm => by
        rw [List.getElem_set]
        split
        · exact ⟨_, rfl⟩
        · exact hu1.out m (by simpa using hm))
      have UL : (us.set j (.string s1, us[j].2)).length = ts.length := by simpa using hul
      generalize us.set j (.string s1, us[j].2) = us2 at *
      have hqq : IntKind.i64.wrap (q + 1) = q + 1 := wrap_in _ (by omega) (by omega)
      clear O1 hown' hrest hu1 hu2 hsp ho hul hju
      go_wp2_with fail
      refine (cMarkHaltsL (g + 1) b c1 C (q + 1) _ H2 hek (by omega) (by omega)).mono ?_
      rintro e w3 ⟨rfl, -, G3⟩
      have O3 := own_far O2 G3 (fun k hk e => by cases e; simp [Value.ownBlock] at hk; omega)
      have R3 : Hid (∀ m, (hm : m < vs.length) → j + 1 ≤ m → TripOwn w3 (g + 1) vs[m].1 vs[m].2 (ts.getD m TripV.zero)) := hide (fun m hm hjm => by
        obtain ⟨t1, a, c, t2, t3⟩ := R2.out m hm hjm
        refine ⟨t1, a, c, t2, own_far t3 G3 (fun k hk e => ?_)⟩
        have hne := hap.2 j m hjv hm (by omega)
        rw [hvv.out, t2, hk] at hne
        exact hne e.symm)
      have S3 := S2.trans (Span.ofg G3 (fun b' h => by cases h; exact ⟨by omega, hbh⟩))
      clear O2 R2 S2 H2 G2 G3 z0 z1 f0 hap
      go_wp2
      go_roundw
      case rel => exact ⟨j + 1, q + 1 + 3 * C.length, us2, by omega, by go_num, rfl, by omega, by omega, UL, U2, U1, O3, R3, S3⟩
      case measure => simp [intOf]; omega
    · obtain rfl : j = ts.length := by omega
      clear hown' hrest hu1 hu2 hap he
      go_wp2
      go_ret
      exact ⟨q, rfl, hq0, hsp⟩
end Go.Proofs.Ythbedhbbijpfkaa
