/- The mathematics of standing: who stands where up to a minute, and who is in the way of whom. -/
import Derived.Test.YteklmeekapegpaaSH
namespace Go.Proofs.Yteklmeekapegpaa
open Go.RowKit

/-- Stay i comes to its bay while stay k, which came ahead of it, still holds it. -/
def Clash (ss : List StayV) (g : Int) (ls : List Int) (i k : Nat) : Prop := ls.getD i 0 = ls.getD k 0 ∧ 0 ≤ ls.getD i 0 ∧ before ss k i ∧ fA ss i < tA ss k + g
/-- Each has a bay that is one of n, or none. -/
def Placed (n : Nat) (ls : List Int) : Prop := ∀ i, i < ls.length → ls.getD i 0 = -1 ∨ ∃ b : Nat, b < n ∧ ls.getD i 0 = b
structure SInv (n : Nat) (ss : List StayV) (g : Int) (ls : List Int) (es : List PassV) (j : Nat) (occ : Nat → Option Int) : Prop where
  occ1 : ∀ b, b < n → ∀ i, i < ss.length → comeP ss i ∈ es.take j → leaveP ss g i ∉ es.take j → ls.getD i 0 = b → occ b = some (i : Int)
  occ2 : ∀ b, b < n → ∀ p, occ b = some p → ∃ i, i < ss.length ∧ p = (i : Int) ∧ comeP ss i ∈ es.take j ∧ leaveP ss g i ∉ es.take j ∧ ls.getD i 0 = b
  clean : ∀ i k, i < ss.length → k < ss.length → comeP ss i ∈ es.take j → ¬ Clash ss g ls i k
theorem SInv.start (n : Nat) (ss : List StayV) (g : Int) (ls : List Int) (es : List PassV) : SInv n ss g ls es 0 (fun _ => none) :=
  ⟨fun b _ i _ h => (by simp at h), fun b _ p h => (by cases h), fun i k _ _ h => (by simp at h)⟩
theorem come_mem {ss : List StayV} {g : Int} {es : List PassV} {j i k : Nat} (hI : IsPass ss g ss.length es) (hj : j < es.length) (he : es[j] = comeP ss i) (hk : k < ss.length) : comeP ss k ∈ es.take j ↔ before ss k i := by
  rw [mem_take hI.sorted hj ((hI.mem _).2 ⟨k, hk, .inl rfl⟩), he, come_lt]
theorem leave_mem {ss : List StayV} {g : Int} {es : List PassV} {j i k : Nat} (hI : IsPass ss g ss.length es) (hj : j < es.length) (he : es[j] = comeP ss i) (hk : k < ss.length) : leaveP ss g k ∈ es.take j ↔ tA ss k + g ≤ fA ss i := by
  rw [mem_take hI.sorted hj ((hI.mem _).2 ⟨k, hk, .inr rfl⟩), he, leave_lt]
theorem come_next {ss : List StayV} {es : List PassV} {j i : Nat} (hj : j < es.length) (he : es[j] = comeP ss i) (k : Nat) : comeP ss k ∈ es.take (j + 1) ↔ comeP ss k ∈ es.take j ∨ k = i := by
  rw [mem_take_succ hj, he]
  constructor
  · rintro (h | h)
    · exact .inl h
    · exact .inr (Classical.byContradiction fun hn => come_ne hn h)
  · rintro (h | rfl)
    · exact .inl h
    · exact .inr rfl
theorem come_next_leave {ss : List StayV} {g : Int} {es : List PassV} {j i : Nat} (hj : j < es.length) (he : es[j] = comeP ss i) (k : Nat) : leaveP ss g k ∈ es.take (j + 1) ↔ leaveP ss g k ∈ es.take j := by
  rw [mem_take_succ hj, he]
  exact ⟨fun h => h.resolve_right (fun e => come_leave e.symm), .inl⟩
theorem leave_next {ss : List StayV} {g : Int} {es : List PassV} {j i : Nat} (hj : j < es.length) (he : es[j] = leaveP ss g i) (k : Nat) : leaveP ss g k ∈ es.take (j + 1) ↔ leaveP ss g k ∈ es.take j ∨ k = i := by
  rw [mem_take_succ hj, he]
  constructor
  · rintro (h | h)
    · exact .inl h
    · exact .inr (Classical.byContradiction fun hn => leave_ne hn h)
  · rintro (h | rfl)
    · exact .inl h
    · exact .inr rfl
theorem leave_next_come {ss : List StayV} {g : Int} {es : List PassV} {j i : Nat} (hj : j < es.length) (he : es[j] = leaveP ss g i) (k : Nat) : comeP ss k ∈ es.take (j + 1) ↔ comeP ss k ∈ es.take j := by
  rw [mem_take_succ hj, he]
  exact ⟨fun h => h.resolve_right come_leave, .inl⟩
theorem leave_not {ss : List StayV} {g : Int} {es : List PassV} {j i : Nat} (hI : IsPass ss g ss.length es) (hg : 1 ≤ g) (hF : Fine ss ss.length) (hj : j < es.length) (hi : i < ss.length) (he : es[j] = comeP ss i) : leaveP ss g i ∉ es.take j := by
  rw [leave_mem hI hj he hi]
  have := hF i hi
  omega
theorem come_in {ss : List StayV} {g : Int} {es : List PassV} {j i : Nat} (hI : IsPass ss g ss.length es) (hg : 1 ≤ g) (hF : Fine ss ss.length) (hj : j < es.length) (hi : i < ss.length) (he : es[j] = leaveP ss g i) : comeP ss i ∈ es.take j ∧ leaveP ss g i ∉ es.take j := by
  constructor
  · rw [mem_take hI.sorted hj ((hI.mem _).2 ⟨i, hi, .inl rfl⟩), he]
    have := hF i hi
    unfold ltP comeP leaveP
    unfold fA tA at this
    dsimp only; omega
  · rw [← he]; exact not_mem_take hI.sorted hj
/-- Who has no bay comes. -/
theorem SInv.comeNone {n : Nat} {ss : List StayV} {g : Int} {ls : List Int} {es : List PassV} {j : Nat} {occ : Nat → Option Int} (h : SInv n ss g ls es j occ) {i : Nat} (hj : j < es.length) (he : es[j] = comeP ss i) (hm : ls.getD i 0 < 0) : SInv n ss g ls es (j + 1) occ := by
  refine ⟨fun b hb k hk hc hl e => ?_, fun b hb p hp => ?_, fun x k hx hk hc hcl => ?_⟩
  · rcases (come_next hj he k).1 hc with hc | rfl
    · exact h.occ1 b hb k hk hc (fun hx => hl ((come_next_leave hj he k).2 hx)) e
    · omega
  · obtain ⟨k, hk, e1, hc, hl, e2⟩ := h.occ2 b hb p hp
    exact ⟨k, hk, e1, (come_next hj he k).2 (.inl hc), fun hx => hl ((come_next_leave hj he k).1 hx), e2⟩
  · rcases (come_next hj he x).1 hc with hc | rfl
    · exact h.clean x k hx hk hc hcl
    · have := hcl.2.1; omega
theorem SInv.come {n : Nat} {ss : List StayV} {g : Int} {ls : List Int} {es : List PassV} {j : Nat} {occ : Nat → Option Int} (h : SInv n ss g ls es j occ) (hI : IsPass ss g ss.length es) (hg : 1 ≤ g) (hF : Fine ss ss.length) {i : Nat} (hi : i < ss.length) (hj : j < es.length) (he : es[j] = comeP ss i) {b : Nat} (hb : b < n) (hm : ls.getD i 0 = b) (ho : occ b = none) : SInv n ss g ls es (j + 1) (setOcc occ b (some (i : Int))) := by
  refine ⟨fun b' hb' k hk hc hl e => ?_, fun b' hb' p hp => ?_, fun x k hx hk hc hcl => ?_⟩
  · unfold setOcc
    rcases (come_next hj he k).1 hc with hc | rfl
    · have := h.occ1 b' hb' k hk hc (fun hx => hl ((come_next_leave hj he k).2 hx)) e
      rw [if_neg (fun e' => by subst e'; rw [ho] at this; cases this)]
      exact this
    · rw [if_pos (by omega)]
  · unfold setOcc at hp
    split at hp
    · rename_i e; subst e; cases hp
      exact ⟨i, hi, rfl, (come_next hj he i).2 (.inr rfl), fun hx => leave_not hI hg hF hj hi he ((come_next_leave hj he i).1 hx), hm⟩
    · obtain ⟨k, hk, e1, hc, hl, e2⟩ := h.occ2 b' hb' p hp
      exact ⟨k, hk, e1, (come_next hj he k).2 (.inl hc), fun hx => hl ((come_next_leave hj he k).1 hx), e2⟩
  · rcases (come_next hj he x).1 hc with hc | rfl
    · exact h.clean x k hx hk hc hcl
    · obtain ⟨c1, c2, c3, c4⟩ := hcl
      have h1 := (come_mem hI hj he hk).2 c3
      have h2 : leaveP ss g k ∉ es.take j := fun hx => by have := (leave_mem hI hj he hk).1 hx; omega
      have := h.occ1 b hb k hk h1 h2 (by omega)
      rw [ho] at this; cases this
theorem SInv.hit {n : Nat} {ss : List StayV} {g : Int} {ls : List Int} {es : List PassV} {j : Nat} {occ : Nat → Option Int} (h : SInv n ss g ls es j occ) (hI : IsPass ss g ss.length es) {i : Nat} (hj : j < es.length) (he : es[j] = comeP ss i) {b : Nat} (hb : b < n) (hm : ls.getD i 0 = b) {q : Int} (ho : occ b = some q) : ∃ k, k < ss.length ∧ Clash ss g ls i k := by
  obtain ⟨k, hk, e1, hc, hl, e2⟩ := h.occ2 b hb q ho
  refine ⟨k, hk, by rw [hm, e2], by omega, (come_mem hI hj he hk).1 hc, ?_⟩
  have := mt (leave_mem hI hj he hk).2 hl
  omega
theorem SInv.leaveNone {n : Nat} {ss : List StayV} {g : Int} {ls : List Int} {es : List PassV} {j : Nat} {occ : Nat → Option Int} (h : SInv n ss g ls es j occ) {i : Nat} (hj : j < es.length) (he : es[j] = leaveP ss g i) (hm : ls.getD i 0 < 0) : SInv n ss g ls es (j + 1) occ := by
  refine ⟨fun b hb k hk hc hl e => h.occ1 b hb k hk ((leave_next_come hj he k).1 hc) (fun hx => hl ((leave_next hj he k).2 (.inl hx))) e, fun b hb p hp => ?_, fun x k hx hk hc => h.clean x k hx hk ((leave_next_come hj he x).1 hc)⟩
  obtain ⟨k, hk, e1, hc, hl, e2⟩ := h.occ2 b hb p hp
  refine ⟨k, hk, e1, (leave_next_come hj he k).2 hc, fun hx => ?_, e2⟩
  rcases (leave_next hj he k).1 hx with hx | rfl
  · exact hl hx
  · omega
theorem SInv.leave {n : Nat} {ss : List StayV} {g : Int} {ls : List Int} {es : List PassV} {j : Nat} {occ : Nat → Option Int} (h : SInv n ss g ls es j occ) (hI : IsPass ss g ss.length es) (hg : 1 ≤ g) (hF : Fine ss ss.length) {i : Nat} (hi : i < ss.length) (hj : j < es.length) (he : es[j] = leaveP ss g i) {b : Nat} (hb : b < n) (hm : ls.getD i 0 = b) : SInv n ss g ls es (j + 1) (setOcc occ b none) := by
  obtain ⟨hc0, hl0⟩ := come_in hI hg hF hj hi he
  refine ⟨fun b' hb' k hk hc hl e => ?_, fun b' hb' p hp => ?_, fun x k hx hk hc => h.clean x k hx hk ((leave_next_come hj he x).1 hc)⟩
  · have hki : k ≠ i := fun e => hl ((leave_next hj he k).2 (.inr e))
    have ho := h.occ1 b' hb' k hk ((leave_next_come hj he k).1 hc) (fun hx => hl ((leave_next hj he k).2 (.inl hx))) e
    unfold setOcc
    rw [if_neg ?_]
    · exact ho
    · rintro rfl
      have := h.occ1 b' hb' i hi hc0 hl0 hm
      rw [ho] at this
      simp only [Option.some.injEq] at this
      omega
  · unfold setOcc at hp
    split at hp
    · cases hp
    · rename_i hne
      obtain ⟨k, hk, e1, hc, hl, e2⟩ := h.occ2 b' hb' p hp
      refine ⟨k, hk, e1, (leave_next_come hj he k).2 hc, fun hx => ?_, e2⟩
      rcases (leave_next hj he k).1 hx with hx | rfl
      · exact hl hx
      · rw [hm] at e2; omega
theorem SInv.there {n : Nat} {ss : List StayV} {g : Int} {ls : List Int} {es : List PassV} {j : Nat} {occ : Nat → Option Int} (h : SInv n ss g ls es j occ) (hI : IsPass ss g ss.length es) (hg : 1 ≤ g) (hF : Fine ss ss.length) {i : Nat} (hi : i < ss.length) (hj : j < es.length) (he : es[j] = leaveP ss g i) {b : Nat} (hb : b < n) (hm : ls.getD i 0 = b) : occ b = some (i : Int) := by
  obtain ⟨hc0, hl0⟩ := come_in hI hg hF hj hi he
  exact h.occ1 b hb i hi hc0 hl0 hm
/-- j is as far as the minute m goes. -/
def UpTo (es : List PassV) (m : Int) (j : Nat) : Prop := (∀ i, i < j → (es.getD i PassV.zero).m ≤ m) ∧ (j = es.length ∨ (j < es.length ∧ m < (es.getD j PassV.zero).m))
theorem UpTo.mem {es : List PassV} {m : Int} {j : Nat} (h : UpTo es m j) (hs : es.Pairwise ltP) {x : PassV} (hx : x ∈ es) : x ∈ es.take j ↔ x.m ≤ m := by
  obtain ⟨h1, h2⟩ := h
  obtain ⟨i, hi, rfl⟩ := List.mem_iff_getElem.1 hx
  constructor
  · intro hm
    obtain ⟨i', hi', e⟩ := List.mem_iff_getElem.1 hm
    rw [List.length_take] at hi'
    rw [List.getElem_take] at e
    have := h1 i' (by omega)
    simp only [List.getD, List.getElem?_eq_getElem (show i' < es.length by omega), Option.getD_some] at this
    rw [← e]; exact this
  · intro hm
    have hij : i < j := by
      rcases h2 with h2 | ⟨h2, h3⟩
      · omega
      · rcases Nat.lt_or_ge i j with h | h
        · exact h
        · exfalso
          simp only [List.getD, List.getElem?_eq_getElem h2, Option.getD_some] at h3
          by_cases e : i = j
          · subst e; omega
          · have := List.pairwise_iff_getElem.1 hs j i h2 hi (by omega)
            unfold ltP at this; omega
    exact List.mem_iff_getElem.2 ⟨i, by rw [List.length_take]; omega, by rw [List.getElem_take]⟩
end Go.Proofs.Yteklmeekapegpaa
