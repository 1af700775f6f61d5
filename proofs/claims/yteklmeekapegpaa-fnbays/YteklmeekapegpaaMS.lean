/- The mathematics of the assignment. -/
import Derived.Test.YteklmeekapegpaaMQ
namespace Go.Proofs.Yteklmeekapegpaa
open Go.RowKit

def before (ss : List StayV) (k i : Nat) : Prop := fA ss k < fA ss i ∨ (fA ss k = fA ss i ∧ k < i)
/-- Bay b is one that stay i could have: long enough, and free of those that got it earlier. -/
def CanHave (zs : List Int) (ss : List StayV) (g : Int) (A : Nat → Int) (i b : Nat) : Prop :=
  b < zs.length ∧ lenA ss i ≤ zs.getD b 0 ∧ ∀ k, k < ss.length → before ss k i → A k = b → tA ss k + g ≤ fA ss i
def AssignAt (zs : List Int) (ss : List StayV) (g : Int) (A : Nat → Int) (i : Nat) : Prop :=
  (∃ b : Nat, CanHave zs ss g A i b ∧ (∀ b', b' < b → ¬ CanHave zs ss g A i b') ∧ A i = b) ∨ ((∀ b, ¬ CanHave zs ss g A i b) ∧ A i = -1)
def IsAssign (zs : List Int) (ss : List StayV) (g : Int) (A : Nat → Int) : Prop := ∀ i, i < ss.length → AssignAt zs ss g A i
theorem canHave_congr {zs : List Int} {ss : List StayV} {g : Int} {A A' : Nat → Int} {i b : Nat} (h : ∀ k, k < ss.length → before ss k i → A k = A' k) : CanHave zs ss g A i b ↔ CanHave zs ss g A' i b := by
  unfold CanHave
  constructor
  · rintro ⟨h1, h2, h3⟩
    exact ⟨h1, h2, fun k hk hb e => h3 k hk hb ((h k hk hb).trans e)⟩
  · rintro ⟨h1, h2, h3⟩
    exact ⟨h1, h2, fun k hk hb e => h3 k hk hb ((h k hk hb).symm.trans e)⟩
theorem assignAt_congr {zs : List Int} {ss : List StayV} {g : Int} {A A' : Nat → Int} {i : Nat} (h : ∀ k, k < ss.length → before ss k i → A k = A' k) (hi : A i = A' i) (ha : AssignAt zs ss g A i) : AssignAt zs ss g A' i := by
  rcases ha with ⟨b, h1, h2, h3⟩ | ⟨h1, h2⟩
  · exact .inl ⟨b, (canHave_congr h).1 h1, fun b' hb' hc => h2 b' hb' ((canHave_congr h).2 hc), hi ▸ h3⟩
  · exact .inr ⟨fun b hc => h1 b ((canHave_congr h).2 hc), hi ▸ h2⟩
theorem IsAssign.unique {zs : List Int} {ss : List StayV} {g : Int} {A A' : Nat → Int} (h0 : ∀ k, k < ss.length → 0 ≤ fA ss k) (h : IsAssign zs ss g A) (h' : IsAssign zs ss g A') : ∀ i, i < ss.length → A i = A' i := by
  have key : ∀ m i, i < ss.length → (fA ss i).toNat * (ss.length + 1) + i = m → A i = A' i := by
    intro m
    induction m using Nat.strongRecOn with
    | _ m ih =>
      intro i hi hm
      have hk : ∀ k, k < ss.length → before ss k i → A k = A' k := by
        intro k hk hb
        refine ih _ ?_ k hk rfl
        rw [← hm]
        have a1 := h0 k hk
        have a2 := h0 i hi
        rcases hb with hb | ⟨hb, hki⟩
        · have : (fA ss k).toNat + 1 ≤ (fA ss i).toNat := by omega
          have := Nat.mul_le_mul_right (ss.length + 1) this
          rw [Nat.add_mul] at this
          omega
        · rw [hb]; omega
      rcases h i hi with ⟨b, h1, h2, h3⟩ | ⟨h1, h2⟩ <;> rcases h' i hi with ⟨b', h1', h2', h3'⟩ | ⟨h1', h2'⟩
      · rcases Nat.lt_trichotomy b b' with hb | hb | hb
        · exact absurd ((canHave_congr hk).1 h1) (h2' b hb)
        · rw [h3, h3', hb]
        · exact absurd ((canHave_congr hk).2 h1') (h2 b' hb)
      · exact absurd ((canHave_congr hk).1 h1) (h1' b)
      · exact absurd ((canHave_congr hk).2 h1') (h1 b')
      · rw [h2, h2']
  exact fun i hi => key _ i hi rfl

/-- What has been told up to a place is what stands ahead of what is there. -/
theorem mem_take {es : List PassV} (hs : es.Pairwise ltP) {j : Nat} (hj : j < es.length) {x : PassV} (hx : x ∈ es) : x ∈ es.take j ↔ ltP x es[j] := by
  obtain ⟨i, hi, rfl⟩ := List.mem_iff_getElem.1 hx
  constructor
  · intro h
    obtain ⟨i', hi', e⟩ := List.mem_iff_getElem.1 h
    rw [List.length_take] at hi'
    rw [List.getElem_take] at e
    rw [← e]
    exact List.pairwise_iff_getElem.1 hs i' j (by omega) hj (by omega)
  · intro h
    have hij : i < j := by
      rcases Nat.lt_trichotomy i j with h' | h' | h'
      · exact h'
      · subst h'; exact absurd h (ltP_irrefl _)
      · exact absurd (ltP_trans h (List.pairwise_iff_getElem.1 hs j i hj hi h')) (ltP_irrefl _)
    exact List.mem_iff_getElem.2 ⟨i, by rw [List.length_take]; omega, by rw [List.getElem_take]⟩
theorem mem_take_succ {es : List PassV} {j : Nat} (hj : j < es.length) {x : PassV} : x ∈ es.take (j + 1) ↔ x ∈ es.take j ∨ x = es[j] := by
  rw [List.take_succ_eq_append_getElem hj, List.mem_append, List.mem_singleton]
theorem not_mem_take {es : List PassV} (hs : es.Pairwise ltP) {j : Nat} (hj : j < es.length) : es[j] ∉ es.take j := by
  rw [mem_take hs hj (List.getElem_mem hj)]; exact ltP_irrefl _
theorem come_lt {ss : List StayV} {k i : Nat} : ltP (comeP ss k) (comeP ss i) ↔ before ss k i := by
  unfold ltP comeP before fA; simp only [true_and]; omega
theorem leave_lt {ss : List StayV} {g : Int} {k i : Nat} : ltP (leaveP ss g k) (comeP ss i) ↔ tA ss k + g ≤ fA ss i := by
  unfold ltP comeP leaveP fA tA; dsimp only; omega
theorem come_ne {ss : List StayV} {k i : Nat} (h : k ≠ i) : comeP ss k ≠ comeP ss i := fun e => h (by have := congrArg PassV.p e; simp [comeP] at this; omega)
theorem leave_ne {ss : List StayV} {g : Int} {k i : Nat} (h : k ≠ i) : leaveP ss g k ≠ leaveP ss g i := fun e => h (by have := congrArg PassV.p e; simp [leaveP] at this; omega)
theorem come_leave {ss : List StayV} {g : Int} {k i : Nat} : comeP ss k ≠ leaveP ss g i := fun e => by have := congrArg PassV.k e; simp [comeP, leaveP] at this
/-- The list and the bays behind j passages. -/
structure AInv (zs : List Int) (ss : List StayV) (g : Int) (es : List PassV) (j : Nat) (ls : List Int) (occ : Nat → Option Int) : Prop where
  len : ls.length = ss.length
  asg : ∀ i, i < ss.length → comeP ss i ∈ es.take j → AssignAt zs ss g (fun k => ls.getD k 0) i
  occ1 : ∀ b, b < zs.length → ∀ i, i < ss.length → comeP ss i ∈ es.take j → leaveP ss g i ∉ es.take j → ls.getD i 0 = b → occ b = some (i : Int)
  occ2 : ∀ b, b < zs.length → ∀ p, occ b = some p → ∃ i, i < ss.length ∧ p = (i : Int) ∧ comeP ss i ∈ es.take j ∧ leaveP ss g i ∉ es.take j ∧ ls.getD i 0 = b
theorem getD_set_same (ls : List Int) {i : Nat} (h : i < ls.length) (v : Int) : (ls.set i v).getD i 0 = v := by simp [List.getD, h]
theorem getD_set_ne (ls : List Int) {i k : Nat} (h : i ≠ k) (v : Int) : (ls.set i v).getD k 0 = ls.getD k 0 := by simp [List.getD, List.getElem?_set_ne h]
theorem AInv.serves {zs : List Int} {ss : List StayV} {g : Int} {es : List PassV} {j : Nat} {ls : List Int} {occ : Nat → Option Int} (h : AInv zs ss g es j ls occ) (hI : IsPass ss g ss.length es) (hj : j < es.length) {i : Nat} (he : es[j] = comeP ss i) {b : Nat} (hb : b < zs.length) :
    (lenA ss i ≤ zs.getD b 0 ∧ occ b = none) ↔ CanHave zs ss g (fun k => ls.getD k 0) i b := by
  have hC : ∀ k, k < ss.length → (comeP ss k ∈ es.take j ↔ before ss k i) := fun k hk => by rw [mem_take hI.sorted hj ((hI.mem _).2 ⟨k, hk, .inl rfl⟩), he, come_lt]
  have hL : ∀ k, k < ss.length → (leaveP ss g k ∈ es.take j ↔ tA ss k + g ≤ fA ss i) := fun k hk => by rw [mem_take hI.sorted hj ((hI.mem _).2 ⟨k, hk, .inr rfl⟩), he, leave_lt]
  constructor
  · rintro ⟨h1, h2⟩
    refine ⟨hb, h1, fun k hk hbk e => ?_⟩
    rw [← hL k hk]
    refine Classical.byContradiction fun hn => ?_
    have := h.occ1 b hb k hk ((hC k hk).2 hbk) hn e
    rw [h2] at this; cases this
  · rintro ⟨_, h1, h2⟩
    refine ⟨h1, ?_⟩
    cases ho : occ b with
    | none => rfl
    | some p =>
      obtain ⟨k, hk, _, hc, hl, e⟩ := h.occ2 b hb p ho
      exact absurd ((hL k hk).2 (h2 k hk ((hC k hk).1 hc) e)) hl
/-- Stay i comes and gets bay b, or none. -/
theorem AInv.come {zs : List Int} {ss : List StayV} {g : Int} {es : List PassV} {j : Nat} {ls : List Int} {occ occ' : Nat → Option Int} {v : Int} (h : AInv zs ss g es j ls occ) (hI : IsPass ss g ss.length es) (hg : 1 ≤ g) (hF : Fine ss ss.length) (hj : j < es.length) {i : Nat} (hi : i < ss.length) (he : es[j] = comeP ss i)
    (hv : (∃ b : Nat, CanHave zs ss g (fun k => ls.getD k 0) i b ∧ (∀ b', b' < b → ¬ CanHave zs ss g (fun k => ls.getD k 0) i b') ∧ v = b ∧ occ b = none ∧ occ' = fun x => if x = b then some (i : Int) else occ x) ∨ ((∀ b, ¬ CanHave zs ss g (fun k => ls.getD k 0) i b) ∧ v = -1 ∧ occ' = occ)) :
    AInv zs ss g es (j + 1) (ls.set i v) occ' := by
  have hil : i < ls.length := by rw [h.len]; exact hi
  have hnb : ∀ k, k < ss.length → (comeP ss k ∈ es.take j) → i ≠ k := fun k _ hc e => by subst e; rw [← he] at hc; exact not_mem_take hI.sorted hj hc
  have hbi : ¬ before ss i i := by unfold before; omega
  have hT : ∀ k, k < ss.length → (comeP ss k ∈ es.take (j + 1) ↔ comeP ss k ∈ es.take j ∨ k = i) := fun k hk => by
    rw [mem_take_succ hj, he]
    constructor
    · rintro (h | h)
      · exact .inl h
      · exact .inr (Classical.byContradiction fun hn => come_ne hn h)
    · rintro (h | rfl)
      · exact .inl h
      · exact .inr rfl
  have hTL : ∀ k, (leaveP ss g k ∈ es.take (j + 1) ↔ leaveP ss g k ∈ es.take j) := fun k => by
    rw [mem_take_succ hj, he]
    exact ⟨fun h => h.resolve_right (fun e => come_leave e.symm), .inl⟩
  have hLi : leaveP ss g i ∉ es.take j := by
    rw [mem_take hI.sorted hj ((hI.mem _).2 ⟨i, hi, .inr rfl⟩), he, leave_lt]
    have := hF i hi
    omega
  have hAi : AssignAt zs ss g (fun k => (ls.set i v).getD k 0) i := by
    have hc : ∀ k, k < ss.length → before ss k i → (fun k => ls.getD k 0) k = (fun k => (ls.set i v).getD k 0) k := fun k hk hb => (getD_set_ne ls (fun e => hbi (by rw [← e] at hb; exact hb)) v).symm
    rcases hv with ⟨b, h1, h2, rfl, _⟩ | ⟨h1, rfl, _⟩
    · exact .inl ⟨b, (canHave_congr hc).1 h1, fun b' hb' hx => h2 b' hb' ((canHave_congr hc).2 hx), getD_set_same ls hil _⟩
    · exact .inr ⟨fun b hx => h1 b ((canHave_congr hc).2 hx), getD_set_same ls hil _⟩
  refine ⟨by rw [List.length_set, h.len], fun k hk hc => ?_, fun b hb k hk hc hl e => ?_, fun b hb p hp => ?_⟩
  · rcases (hT k hk).1 hc with hc | rfl
    · have hki := hnb k hk hc
      have hbk : before ss k i := by rwa [mem_take hI.sorted hj ((hI.mem _).2 ⟨k, hk, .inl rfl⟩), he, come_lt] at hc
      refine assignAt_congr (fun k' hk' hb' => (getD_set_ne ls (fun e => ?_) v).symm) (getD_set_ne ls hki v).symm (h.asg k hk hc)
      subst e
      unfold before at hb' hbk
      omega
    · exact hAi
  · rcases (hT k hk).1 hc with hc | rfl
    · have hki := hnb k hk hc
      rw [getD_set_ne ls hki] at e
      have ho := h.occ1 b hb k hk hc (fun hx => hl ((hTL k).2 hx)) e
      rcases hv with ⟨b', h1, h2, rfl, hn, rfl⟩ | ⟨h1, rfl, rfl⟩
      · dsimp only
        rw [if_neg (fun e => by subst e; rw [hn] at ho; cases ho)]
        exact ho
      · exact ho
    · rw [getD_set_same ls hil] at e
      rcases hv with ⟨b', h1, h2, rfl, hn, rfl⟩ | ⟨h1, rfl, rfl⟩
      · dsimp only
        rw [if_pos (by omega)]
      · omega
  · rcases hv with ⟨b', h1, h2, rfl, hn, rfl⟩ | ⟨h1, rfl, rfl⟩
    · dsimp only at hp
      split at hp
      · rename_i e
        subst e
        cases hp
        exact ⟨i, hi, rfl, (hT i hi).2 (.inr rfl), fun hx => hLi ((hTL i).1 hx), getD_set_same ls hil _⟩
      · obtain ⟨k, hk, e1, hc, hl, e2⟩ := h.occ2 b hb p hp
        exact ⟨k, hk, e1, (hT k hk).2 (.inl hc), fun hx => hl ((hTL k).1 hx), by rw [getD_set_ne ls (hnb k hk hc)]; exact e2⟩
    · obtain ⟨k, hk, e1, hc, hl, e2⟩ := h.occ2 b hb p hp
      exact ⟨k, hk, e1, (hT k hk).2 (.inl hc), fun hx => hl ((hTL k).1 hx), by rw [getD_set_ne ls (hnb k hk hc)]; exact e2⟩
/-- Stay i, which has come, leaves. -/
theorem AInv.there {zs : List Int} {ss : List StayV} {g : Int} {es : List PassV} {j : Nat} {ls : List Int} {occ : Nat → Option Int} (h : AInv zs ss g es j ls occ) (hI : IsPass ss g ss.length es) (hg : 1 ≤ g) (hF : Fine ss ss.length) (hj : j < es.length) {i : Nat} (hi : i < ss.length) (he : es[j] = leaveP ss g i) :
    comeP ss i ∈ es.take j ∧ leaveP ss g i ∉ es.take j ∧ (ls.getD i 0 = -1 ∨ ∃ b : Nat, b < zs.length ∧ ls.getD i 0 = b ∧ occ b = some (i : Int)) := by
  have hc : comeP ss i ∈ es.take j := by
    rw [mem_take hI.sorted hj ((hI.mem _).2 ⟨i, hi, .inl rfl⟩), he]
    have := hF i hi
    unfold ltP comeP leaveP
    unfold fA tA at this
    dsimp only; omega
  have hl : leaveP ss g i ∉ es.take j := by rw [← he]; exact not_mem_take hI.sorted hj
  refine ⟨hc, hl, ?_⟩
  rcases h.asg i hi hc with ⟨b, h1, _, h3⟩ | ⟨_, h2⟩
  · exact .inr ⟨b, h1.1, h3, h.occ1 b h1.1 i hi hc hl h3⟩
  · exact .inl h2
theorem AInv.leave {zs : List Int} {ss : List StayV} {g : Int} {es : List PassV} {j : Nat} {ls : List Int} {occ occ' : Nat → Option Int} (h : AInv zs ss g es j ls occ) (hI : IsPass ss g ss.length es) (hg : 1 ≤ g) (hF : Fine ss ss.length) (hj : j < es.length) {i : Nat} (hi : i < ss.length) (he : es[j] = leaveP ss g i)
    (hv : (ls.getD i 0 = -1 ∧ occ' = occ) ∨ ∃ b : Nat, b < zs.length ∧ ls.getD i 0 = b ∧ occ' = fun x => if x = b then none else occ x) : AInv zs ss g es (j + 1) ls occ' := by
  obtain ⟨hc0, hl0, hw⟩ := h.there hI hg hF hj hi he
  have hT : ∀ k, (comeP ss k ∈ es.take (j + 1) ↔ comeP ss k ∈ es.take j) := fun k => by
    rw [mem_take_succ hj, he]
    exact ⟨fun h => h.resolve_right come_leave, .inl⟩
  have hTL : ∀ k, (leaveP ss g k ∈ es.take (j + 1) ↔ leaveP ss g k ∈ es.take j ∨ k = i) := fun k => by
    rw [mem_take_succ hj, he]
    constructor
    · rintro (h | h)
      · exact .inl h
      · exact .inr (Classical.byContradiction fun hn => leave_ne hn h)
    · rintro (h | rfl)
      · exact .inl h
      · exact .inr rfl
  refine ⟨h.len, fun k hk hc => h.asg k hk ((hT k).1 hc), fun b hb k hk hc hl e => ?_, fun b hb p hp => ?_⟩
  · have hki : k ≠ i := fun e => hl ((hTL k).2 (.inr e))
    have ho := h.occ1 b hb k hk ((hT k).1 hc) (fun hx => hl ((hTL k).2 (.inl hx))) e
    rcases hv with ⟨_, rfl⟩ | ⟨b', hb', e', rfl⟩
    · exact ho
    · dsimp only
      rw [if_neg ?_]
      · exact ho
      · rintro rfl
        have := h.occ1 b hb i hi hc0 hl0 e'
        rw [ho] at this
        simp only [Option.some.injEq] at this
        omega
  · rcases hv with ⟨hm, rfl⟩ | ⟨b', hb', e', rfl⟩
    · obtain ⟨k, hk, e1, hc, hl, e2⟩ := h.occ2 b hb p hp
      refine ⟨k, hk, e1, (hT k).2 hc, fun hx => ?_, e2⟩
      rcases (hTL k).1 hx with hx | rfl
      · exact hl hx
      · omega
    · dsimp only at hp
      split at hp
      · cases hp
      · rename_i hne
        obtain ⟨k, hk, e1, hc, hl, e2⟩ := h.occ2 b hb p hp
        refine ⟨k, hk, e1, (hT k).2 hc, fun hx => ?_, e2⟩
        rcases (hTL k).1 hx with hx | rfl
        · exact hl hx
        · rw [e'] at e2; omega
theorem AInv.start (zs : List Int) (ss : List StayV) (g : Int) (es : List PassV) (ls : List Int) (hl : ls.length = ss.length) : AInv zs ss g es 0 ls (fun _ => none) :=
  ⟨hl, fun i _ h => by simp at h, fun b _ i _ h => by simp at h, fun b _ p h => by cases h⟩
theorem AInv.done {zs : List Int} {ss : List StayV} {g : Int} {es : List PassV} {ls : List Int} {occ : Nat → Option Int} (h : AInv zs ss g es es.length ls occ) (hI : IsPass ss g ss.length es) : IsAssign zs ss g (fun k => ls.getD k 0) := fun i hi =>
  h.asg i hi (by rw [List.take_length]; exact (hI.mem _).2 ⟨i, hi, .inl rfl⟩)
end Go.Proofs.Yteklmeekapegpaa
