/- A text cut at a byte: the mathematics. -/
import Derived.Test.YthlmaljgnhakfaaGreatDoorNM
namespace Go.Proofs.YthlmaljgnhakfaaGreatDoor
open Go.RowKit
/-- The pieces of a text, cut at each byte b. -/
def splitL (b : UInt8) : List UInt8 → List (List UInt8)
  | [] => [[]]
  | c :: l => if c = b then [] :: splitL b l else ((c :: (splitL b l).headD []) :: (splitL b l).tail)
theorem splitL_ne (b : UInt8) (l : List UInt8) : splitL b l ≠ [] := by
  cases l with
  | nil => simp [splitL]
  | cons c l => unfold splitL; split <;> simp
theorem splitL_one {b : UInt8} : ∀ {p : List UInt8}, (∀ c ∈ p, c ≠ b) → splitL b p = [p]
  | [], _ => rfl
  | c :: p, h => by
    rw [splitL, if_neg (h c (by simp)), splitL_one (p := p) (fun x hx => h x (List.mem_cons_of_mem _ hx))]
    rfl
theorem splitL_cut {b : UInt8} : ∀ {p r : List UInt8}, (∀ c ∈ p, c ≠ b) → splitL b (p ++ b :: r) = p :: splitL b r
  | [], r, _ => by simp [splitL]
  | c :: p, r, h => by
    rw [List.cons_append, splitL, if_neg (h c (by simp)), splitL_cut (p := p) (fun x hx => h x (List.mem_cons_of_mem _ hx))]
    rfl
theorem splitL_len (b : UInt8) : ∀ l : List UInt8, (splitL b l).length ≤ l.length + 1
  | [] => by simp [splitL]
  | c :: l => by
    have ih := splitL_len b l
    unfold splitL
    split
    · simp; exact ih
    · simp
      have := splitL_ne b l
      have : 0 < (splitL b l).length := List.length_pos_iff.2 this
      omega
theorem splitL_each (b : UInt8) : ∀ (l : List UInt8) (p : List UInt8), p ∈ splitL b l → p.length ≤ l.length
  | [], p, h => by simp [splitL] at h; simp [h]
  | c :: l, p, h => by
    have ih := splitL_each b l
    unfold splitL at h
    split at h
    · rcases List.mem_cons.1 h with rfl | h
      · simp
      · have := ih p h; simp; omega
    · have hne := splitL_ne b l
      cases hs : splitL b l with
      | nil => exact absurd hs hne
      | cons q qs =>
        rw [hs] at h ih
        rcases List.mem_cons.1 h with rfl | h
        · have := ih q (by simp); simpa using this
        · have := ih p (List.mem_cons_of_mem _ h); simp; omega
/-- What stands when k bytes have been looked at: the pieces so far, and where the next begins. -/
def SpI (b : UInt8) (l : List UInt8) (k f : Nat) (outs : List (List UInt8)) : Prop :=
  outs.length ≤ k ∧ ((k ≤ l.length ∧ f ≤ k ∧ splitL b l = outs ++ splitL b (l.drop f) ∧ ∀ c ∈ (l.drop f).take (k - f), c ≠ b) ∨ (k = l.length + 1 ∧ outs = splitL b l))
theorem SpI.start (b : UInt8) (l : List UInt8) : SpI b l 0 0 [] := ⟨Nat.le_refl _, .inl ⟨Nat.zero_le _, Nat.le_refl _, rfl, fun c hc => by simp at hc⟩⟩
theorem SpI.skip {b : UInt8} {l : List UInt8} {k f : Nat} {outs : List (List UInt8)} (h : SpI b l k f outs) (hk : k < l.length) (hb : l[k] ≠ b) : SpI b l (k + 1) f outs := by
  obtain ⟨h0, ⟨h1, h2, h3, h4⟩ | ⟨h1, _⟩⟩ := h
  · refine ⟨by omega, .inl ⟨by omega, by omega, h3, ?_⟩⟩
    have e : k + 1 - f = (k - f) + 1 := by omega
    rw [e, List.take_succ_eq_append_getElem (by simp; omega)]
    intro c hc
    rcases List.mem_append.1 hc with hc | hc
    · exact h4 c hc
    · simp only [List.mem_singleton, List.getElem_drop] at hc
      rw [hc]
      have : f + (k - f) = k := by omega
      simp only [this]; exact hb
  · omega
theorem SpI.from_le {b : UInt8} {l : List UInt8} {k f : Nat} {outs : List (List UInt8)} (h : SpI b l k f outs) (hk : k ≤ l.length) : f ≤ k := by
  obtain ⟨h0, ⟨h1, h2, h3, h4⟩ | ⟨h1, _⟩⟩ := h
  · exact h2
  · omega
theorem SpI.piece {b : UInt8} {l : List UInt8} {k f : Nat} {outs : List (List UInt8)} (h : SpI b l k f outs) (hk : k < l.length) (hb : l[k] = b) : SpI b l (k + 1) (k + 1) (outs ++ [(l.drop f).take (k - f)]) := by
  obtain ⟨h0, ⟨h1, h2, h3, h4⟩ | ⟨h1, _⟩⟩ := h
  · refine ⟨by simp; omega, .inl ⟨by omega, Nat.le_refl _, ?_, by simp⟩⟩
    have e : l.drop f = (l.drop f).take (k - f) ++ b :: l.drop (k + 1) := by
      have h5 := List.take_append_drop (k - f) (l.drop f)
      rw [List.drop_drop, show f + (k - f) = k by omega, List.drop_eq_getElem_cons hk, hb] at h5
      exact h5.symm
    rw [h3, List.append_assoc]
    congr 1
    rw [e, splitL_cut h4, ← e]
    rfl
  · omega
theorem SpI.last {b : UInt8} {l : List UInt8} {f : Nat} {outs : List (List UInt8)} (h : SpI b l l.length f outs) : SpI b l (l.length + 1) (l.length + 1) (outs ++ [(l.drop f).take (l.length - f)]) := by
  obtain ⟨h0, ⟨h1, h2, h3, h4⟩ | ⟨h1, _⟩⟩ := h
  · have e : (l.drop f).take (l.length - f) = l.drop f := List.take_of_length_le (by simp)
    rw [e] at h4 ⊢
    exact ⟨by simp; omega, .inr ⟨rfl, by rw [h3, splitL_one h4]⟩⟩
  · omega
theorem SpI.done {b : UInt8} {l : List UInt8} {k f : Nat} {outs : List (List UInt8)} (h : SpI b l k f outs) (hk : ¬ k ≤ l.length) : outs = splitL b l := by
  obtain ⟨h0, ⟨h1, h2, h3, h4⟩ | ⟨h1, h2⟩⟩ := h
  · omega
  · exact h2
theorem ext_piece (l : List UInt8) (f k : Nat) : (⟨l.toArray⟩ : ByteArray).extract f k = ⟨((l.drop f).take (k - f)).toArray⟩ := by
  apply ByteArray.ext
  simp [ByteArray.data_extract, List.extract_eq_take_drop]
def strsL (ps : List (List UInt8)) : List Value := ps.map fun p => .string ⟨p.toArray⟩
theorem strsL_snoc (ps : List (List UInt8)) (p : List UInt8) : strsL (ps ++ [p]) = strsL ps ++ [.string ⟨p.toArray⟩] := by simp [strsL]
theorem strsL_len (ps : List (List UInt8)) : (strsL ps).length = ps.length := by simp [strsL]
/-- The pieces, in a row of their own. -/
def SpAns (w : World) (ps : List (List UInt8)) (e : Ending) (W : World) : Prop :=
  ∃ a c, e = .returned (.slice a ps.length c) ∧ W.ownsRow w.heap.size 9 1 (.slice a ps.length c) ps.length (strsL ps) ∧ Below w.heap.size w W
theorem strs_cell {w : World} {B n c : Nat} {a : Option Addr} {ps : List (List UInt8)} (h : w.ownsRow B 9 1 (.slice a n c) n (strsL ps)) {j : Nat} (hj : j < ps.length) :
    ∃ g, a = some ⟨g, 0, none⟩ ∧ w.cell? ⟨g, j, none⟩ = some (.string ⟨(ps.getD j []).toArray⟩) := by
  have hl := h.1
  rw [strsL_len] at hl
  rcases h.2 with ⟨_, h0⟩ | ⟨g, cap', cur, he, _⟩
  · omega
  · simp only [Value.slice.injEq] at he
    obtain ⟨rfl, _, rfl⟩ := he
    refine ⟨g, rfl, ?_⟩
    rw [h.cellAt _ (by omega), strsL, List.getElem?_map, List.getElem?_eq_getElem hj]
    simp [List.getD, hj]
end Go.Proofs.YthlmaljgnhakfaaGreatDoor
