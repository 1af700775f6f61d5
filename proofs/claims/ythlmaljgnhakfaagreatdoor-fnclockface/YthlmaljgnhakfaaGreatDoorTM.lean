/- A trip's text is read as it was: the mathematics. -/
import Derived.Test.YthlmaljgnhakfaaGreatDoorRT1
import Derived.Test.YthlmaljgnhakfaaGreatDoorSPM
namespace Go.Proofs.YthlmaljgnhakfaaGreatDoor
open Go.RowKit
theorem two_digit (x : Nat) : ∀ c ∈ two x, 48 ≤ c.toNat ∧ c.toNat ≤ 57 := by
  intro c hc
  unfold two at hc
  split at hc
  · rcases List.mem_cons.1 hc with rfl | hc
    · decide
    · exact dec_digit x c hc
  · exact dec_digit x c hc
theorem tt_byte (m : Int) : ∀ c ∈ tt m, 48 ≤ c.toNat ∧ c.toNat ≤ 58 := by
  intro c hc
  unfold tt at hc
  split at hc
  · unfold ttL at hc
    rcases List.mem_append.1 hc with hc | hc
    · have := two_digit _ c hc; omega
    · rcases List.mem_cons.1 hc with rfl | hc
      · decide
      · have := two_digit _ c hc; omega
  · simp at hc
theorem tt_no {m : Int} {b : UInt8} (hb : b.toNat < 48 ∨ 58 < b.toNat) : ∀ c ∈ tt m, c ≠ b := fun c hc e => by
  have := tt_byte m c hc; rw [e] at this; omega
theorem dec_no {n : Nat} {b : UInt8} (hb : b.toNat < 48 ∨ 58 < b.toNat) : ∀ c ∈ Lib.decDigits n, c ≠ b := fun c hc e => by
  have := dec_digit n c hc; rw [e] at this; omega
theorem call_nat {x : HaltV} (h : callB x = true) : ∃ n a d : Nat, x = ⟨n, a, d⟩ ∧ n ≤ 29 ∧ a ≤ d ∧ d ≤ 100000 := by
  obtain ⟨n, a, d⟩ := x
  simp only [callB, Bool.and_eq_true] at h
  have h1 := inB_true h.1.1
  have h2 := inB_true h.1.2
  have h3 := inB_true h.2
  exact ⟨n.toNat, a.toNat, d.toNat, by simp only [HaltV.mk.injEq]; omega, by omega, by omega, by omega⟩
theorem tt_read (n : Nat) (hn : n ≤ 100000) : readB (tt (n : Int)) = n := by rw [tt_nat n hn]; exact readB_ttL n hn
/-- What a call's text is cut into. -/
theorem call_cut {x : HaltV} {p : List UInt8} (h : callB x = true) (hp : callL x = p) : ∃ n a d : Nat, x = ⟨n, a, d⟩ ∧ n ≤ 29 ∧ splitL 64 p = [Lib.decDigits n, tt a ++ (45 :: tt d)] ∧ splitL 45 (tt a ++ (45 :: tt d)) = [tt a, tt d] ∧ readB (tt a) = a ∧ readB (tt d) = d := by
  obtain ⟨n, a, d, rfl, h1, h2, h3⟩ := call_nat h
  refine ⟨n, a, d, rfl, h1, ?_, ?_, tt_read a (by omega), tt_read d h3⟩
  · subst hp
    unfold callL
    dsimp only [Int.toNat_natCast]
    rw [splitL_cut (dec_no (.inr (by decide))), splitL_one]
    intro c hc
    rcases List.mem_append.1 hc with hc | hc
    · exact tt_no (.inr (by decide)) c hc
    · rcases List.mem_cons.1 hc with rfl | hc
      · decide
      · exact tt_no (.inr (by decide)) c hc
  · rw [splitL_cut (tt_no (.inl (by decide))), splitL_one (tt_no (.inl (by decide)))]
theorem callL_no {x : HaltV} : ∀ c ∈ callL x, c ≠ 32 := by
  intro c hc
  unfold callL at hc
  rcases List.mem_append.1 hc with hc | hc
  · exact dec_no (.inl (by decide)) c hc
  rcases List.mem_cons.1 hc with rfl | hc
  · decide
  rcases List.mem_append.1 hc with hc | hc
  · exact tt_no (.inl (by decide)) c hc
  rcases List.mem_cons.1 hc with rfl | hc
  · decide
  · exact tt_no (.inl (by decide)) c hc
theorem split_rest : ∀ (cs : List HaltV) (p : List UInt8), (∀ c ∈ p, c ≠ 32) → splitL 32 (p ++ restL cs) = p :: cs.map callL
  | [], p, h => by simp [restL, splitL_one h]
  | c :: cs, p, h => by
    have e : p ++ restL (c :: cs) = p ++ 32 :: (callL c ++ restL cs) := by simp [restL]
    rw [e, splitL_cut h, split_rest cs (callL c) callL_no]
    rfl
theorem name_no {s : ByteArray} (h : nameB s = true) : ∀ c ∈ s.data.toList, c ≠ 32 := by
  intro c hc e
  simp only [nameB, Bool.and_eq_true] at h
  have := List.all_eq_true.1 h.1 c hc
  rw [e] at this
  revert this; decide
theorem tripM {t : TripV} (h : tripB t = true) : nameB t.name = true ∧ t.calls.all callB = true ∧ t.calls.length ≤ 12 ∧ 2 ≤ t.calls.length := by
  simp only [tripB, Bool.and_eq_true] at h
  have := inB_true h.1.1.2
  exact ⟨h.1.1.1, h.1.2, by omega, by omega⟩
theorem trip_words {t : TripV} {l : List UInt8} (h : tripB t = true) (hl : tripL t = l) : splitL 32 l = t.name.data.toList :: t.calls.map callL := by
  unfold tripL at hl
  rw [if_pos h] at hl
  rw [← hl]
  exact split_rest _ _ (name_no (tripM h).1)
theorem callL_inj {x y : HaltV} (hx : callB x = true) (hy : callB y = true) (h : callL x = callL y) : x = y := by
  obtain ⟨n, a, d, rfl, -, h1, h2, h3, h4⟩ := call_cut hx rfl
  obtain ⟨n', a', d', rfl, -, g1, g2, g3, g4⟩ := call_cut hy rfl
  rw [h] at h1
  rw [h1] at g1
  simp only [List.cons.injEq, and_true] at g1
  obtain ⟨e1, e2⟩ := g1
  rw [e2] at h2
  rw [h2] at g2
  simp only [List.cons.injEq, and_true] at g2
  have e3 : n = n' := by have := congrArg valD e1; rwa [val_dec, val_dec] at this
  rw [g2.1] at h3
  rw [g2.2] at h4
  simp only [HaltV.mk.injEq]
  omega
theorem calls_inj : ∀ {xs ys : List HaltV}, xs.all callB = true → ys.all callB = true → xs.map callL = ys.map callL → xs = ys
  | [], [], _, _, _ => rfl
  | [], _ :: _, _, _, h => by simp at h
  | _ :: _, [], _, _, h => by simp at h
  | x :: xs, y :: ys, hx, hy, h => by
    simp only [List.all_cons, Bool.and_eq_true] at hx hy
    simp only [List.map_cons, List.cons.injEq] at h
    rw [callL_inj hx.1 hy.1 h.1, calls_inj hx.2 hy.2 h.2]
theorem trip_inj {t u : TripV} (ht : tripB t = true) (hu : tripB u = true) (h : tripL t = tripL u) : t = u := by
  have h1 := trip_words ht rfl
  have h2 := trip_words hu rfl
  rw [h] at h1
  rw [h1] at h2
  simp only [List.cons.injEq] at h2
  obtain ⟨s, cs⟩ := t
  obtain ⟨s', cs'⟩ := u
  have e1 : s = s' := by
    obtain ⟨⟨x⟩⟩ := s
    obtain ⟨⟨y⟩⟩ := s'
    simpa using h2.1
  have e2 : cs = cs' := calls_inj (tripM ht).2.1 (tripM hu).2.1 h2.2
  rw [e1, e2]
/-- What is read of a text: the right trip whose text it is, or none. -/
def RdT (l : List UInt8) (o : Option TripV) : Prop := (∃ t, o = some t ∧ tripB t = true ∧ tripL t = l) ∨ (o = none ∧ ∀ t, tripB t = true → tripL t ≠ l)
theorem RdT.unique {l : List UInt8} {o p : Option TripV} (h : RdT l o) (g : RdT l p) : o = p := by
  rcases h with ⟨t, rfl, h1, h2⟩ | ⟨rfl, h1⟩ <;> rcases g with ⟨u, rfl, g1, g2⟩ | ⟨rfl, g1⟩
  · rw [trip_inj h1 g1 (h2.trans g2.symm)]
  · exact absurd h2 (g1 t h1)
  · exact absurd g2 (h1 u g1)
  · rfl
/-- What is parsed of the words so far. -/
def CcI (ps : List (List UInt8)) (i : Nat) (cs : List HaltV) : Prop := cs.length = i ∧ ∀ j, j < i → ∀ x, callB x = true → callL x = ps.getD (j + 1) [] → cs.getD j HaltV.zero = x
theorem CcI.zero (ps : List (List UInt8)) : CcI ps 0 [] := ⟨rfl, fun j hj => absurd hj (by omega)⟩
theorem CcI.push {ps : List (List UInt8)} {i : Nat} {cs : List HaltV} {y : HaltV} (h : CcI ps i cs) (hy : ∀ x, callB x = true → callL x = ps.getD (i + 1) [] → y = x) : CcI ps (i + 1) (cs ++ [y]) := by
  refine ⟨by simp [h.1], fun j hj x hx hp => ?_⟩
  by_cases hji : j < i
  · have : (cs ++ [y]).getD j HaltV.zero = cs.getD j HaltV.zero := by simp [List.getD, List.getElem?_append_left (show j < cs.length by rw [h.1]; exact hji)]
    rw [this]; exact h.2 j hji x hx hp
  · obtain rfl : j = i := by omega
    have : (cs ++ [y]).getD j HaltV.zero = y := by simp [List.getD, ← h.1]
    rw [this]; exact hy x hx hp
theorem CcI.all {l : List UInt8} {cs : List HaltV} {q : Nat} {t : TripV} (h : CcI (splitL 32 l) q cs) (hq : q + 1 = (splitL 32 l).length) (ht : tripB t = true) (hl : tripL t = l) : t = ⟨⟨((splitL 32 l).getD 0 []).toArray⟩, cs⟩ := by
  have e := trip_words ht hl
  rw [e] at h hq ⊢
  obtain ⟨s, xs⟩ := t
  dsimp only at *
  have hlen : cs.length = xs.length := by rw [h.1]; simp at hq; exact hq
  have e2 : xs = cs := by
    apply List.ext_getElem hlen.symm
    intro j hj hj'
    have := h.2 j (by rw [← h.1]; exact hj') (xs.getD j HaltV.zero) (by
      have := List.all_eq_true.1 (tripM ht).2.1 xs[j] (List.getElem_mem hj)
      simpa [List.getD, hj] using this) (by simp [List.getD, hj])
    simpa [List.getD, hj, hj'] using this.symm
  rw [e2]
  congr 1
theorem rdt_bad {l : List UInt8} {j : Nat} (hj : j + 1 < (splitL 32 l).length) (hb : ∀ x, callB x = true → callL x ≠ (splitL 32 l).getD (j + 1) []) : RdT l none := by
  refine .inr ⟨rfl, fun t ht hl => ?_⟩
  have e := trip_words ht hl
  rw [e] at hj hb
  have hj' : j < t.calls.length := by simpa using hj
  refine hb (t.calls.getD j HaltV.zero) ?_ (by simp [List.getD, hj'])
  have := List.all_eq_true.1 (tripM ht).2.1 t.calls[j] (List.getElem_mem hj')
  simpa [List.getD, hj'] using this
theorem rdt_end {l : List UInt8} {cs : List HaltV} {q : Nat} (h : CcI (splitL 32 l) q cs) (hq : q + 1 = (splitL 32 l).length) :
    (tripB ⟨⟨((splitL 32 l).getD 0 []).toArray⟩, cs⟩ = true ∧ tripL ⟨⟨((splitL 32 l).getD 0 []).toArray⟩, cs⟩ = l → RdT l (some ⟨⟨((splitL 32 l).getD 0 []).toArray⟩, cs⟩)) ∧ (¬ (tripB ⟨⟨((splitL 32 l).getD 0 []).toArray⟩, cs⟩ = true ∧ tripL ⟨⟨((splitL 32 l).getD 0 []).toArray⟩, cs⟩ = l) → RdT l none) :=
  ⟨fun ⟨h1, h2⟩ => .inl ⟨_, rfl, h1, h2⟩, fun hn => .inr ⟨rfl, fun t ht hl => by
    have := h.all hq ht hl
    rw [this] at ht hl
    exact hn ⟨ht, hl⟩⟩⟩
theorem callL_len {x : HaltV} (h : callB x = true) : (callL x).length ≤ 18 := by
  obtain ⟨n, a, d, rfl, h1, h2, h3⟩ := call_nat h
  have e1 : (Lib.decDigits n).length ≤ 2 := by
    by_cases h : n < 10
    · rw [dec_low n h]; simp
    · rw [dec_app n h, dec_low (n / 10) (by omega)]; simp
  have e2 := ttL_len a (by omega)
  have e3 := ttL_len d h3
  unfold callL
  dsimp only [Int.toNat_natCast]
  rw [tt_nat a (by omega), tt_nat d h3]
  simp only [List.length_append, List.length_cons]
  omega
theorem restL_len {cs : List HaltV} (h : cs.all callB = true) : (restL cs).length ≤ 19 * cs.length := by
  induction cs with
  | nil => simp [restL]
  | cons c cs ih =>
    simp only [List.all_cons, Bool.and_eq_true] at h
    have h1 := ih h.2
    have h2 := callL_len h.1
    have e : restL (c :: cs) = (32 :: callL c) ++ restL cs := by simp [restL]
    rw [e]
    simp only [List.length_append, List.length_cons]
    omega
theorem tripL_len {t : TripV} (h : tripB t = true) : (tripL t).length ≤ 240 := by
  unfold tripL
  rw [if_pos h]
  obtain ⟨h1, h2, h3, -⟩ := tripM h
  have := restL_len h2
  simp only [nameB, Bool.and_eq_true] at h1
  have h4 := inB_true h1.2
  have h5 := size_list t.name
  rw [List.length_append]
  omega
end Go.Proofs.YthlmaljgnhakfaaGreatDoor
