/- The mathematics of seats, the second part: what is put in and taken out, sales, spreads. -/
import Derived.Test.YtgnlcehpajbnoaaMA
namespace Go.Proofs.Ytgnlcehpajbnoaa
open Go.RowKit

/-- A booking put in by its id. -/
def insB (b : BkV) : List BkV → List BkV
  | [] => [b]
  | x :: r => if b.i < x.i then b :: x :: r else x :: insB b r
theorem insB_mem {b x : BkV} : ∀ {hs : List BkV}, x ∈ insB b hs ↔ x = b ∨ x ∈ hs
  | [] => by simp [insB]
  | y :: r => by
    unfold insB; split
    · simp
    · simp only [List.mem_cons, insB_mem (hs := r)]
      constructor
      · rintro (h | h | h)
        · exact .inr (.inl h)
        · exact .inl h
        · exact .inr (.inr h)
      · rintro (h | h | h)
        · exact .inr (.inl h)
        · exact .inl h
        · exact .inr (.inr h)
theorem insB_len (b : BkV) : ∀ hs : List BkV, (insB b hs).length = hs.length + 1
  | [] => rfl
  | y :: r => by
    unfold insB; split
    · simp
    · simp [insB_len b r]
theorem insB_low {b : BkV} : ∀ {l : List BkV}, (∀ x ∈ l, x.i ≤ b.i) → insB b l = l ++ [b]
  | [], _ => rfl
  | x :: r, h => by
    unfold insB
    rw [if_neg (by have := h x (by simp); omega), insB_low (fun y hy => h y (by simp [hy]))]
    rfl
theorem insB_at {b x : BkV} (hx : b.i < x.i) (r : List BkV) : ∀ {l : List BkV}, (∀ y ∈ l, y.i ≤ b.i) → insB b (l ++ x :: r) = l ++ b :: x :: r
  | [], _ => by simp [insB, hx]
  | y :: l, h => by
    rw [List.cons_append, insB, if_neg (by have := h y (by simp); omega), insB_at hx r (fun z hz => h z (by simp [hz]))]
    rfl
theorem insB_past {b : BkV} (r : List BkV) : ∀ {l : List BkV}, (∃ y ∈ l, b.i < y.i) → insB b (l ++ r) = insB b l ++ r
  | [], h => by obtain ⟨y, hy, _⟩ := h; simp at hy
  | y :: l, h => by
    rw [List.cons_append, insB, insB]
    split
    · rfl
    · rename_i hc
      obtain ⟨z, hz, hlt⟩ := h
      rcases List.mem_cons.1 hz with rfl | hz
      · exact absurd hlt hc
      · rw [insB_past r ⟨z, hz, hlt⟩]; rfl
/-- Where an id is, or would be. -/
def IsPl (hs : List BkV) (id : Int) (pl : Nat) : Prop := pl ≤ hs.length ∧ (∀ j, j < pl → (hs.getD j BkV.zero).i < id) ∧ (∀ j, pl ≤ j → j < hs.length → id ≤ (hs.getD j BkV.zero).i)
theorem insB_pl {b : BkV} : ∀ {hs : List BkV} {pl : Nat}, IsPl hs b.i pl → (∀ x ∈ hs, x.i ≠ b.i) → hs.take pl ++ b :: hs.drop pl = insB b hs
  | [], pl, h, _ => by simp [insB]
  | x :: r, pl, ⟨h1, h2, h3⟩, hne => by
    have hx := hne x (by simp)
    unfold insB
    by_cases hc : b.i < x.i
    · have hp : pl = 0 := by
        cases pl with
        | zero => rfl
        | succ q => have := h2 0 (by omega); simp at this; omega
      subst hp
      simp [hc]
    · rw [if_neg hc]
      cases pl with
      | zero => have := h3 0 (by omega) (by simp); simp at this; omega
      | succ q =>
        have ih := insB_pl (b := b) (hs := r) (pl := q) ⟨by simpa using h1, fun j hj => by have := h2 (j + 1) (by omega); simpa using this, fun j hj hl => by have := h3 (j + 1) (by omega) (by simpa using hl); simpa using this⟩ (fun y hy => hne y (by simp [hy]))
        simp only [List.take_succ_cons, List.drop_succ_cons, List.cons_append, ih]
theorem pl_there {hs : List BkV} {id : Int} {pl : Nat} (h : IsPl hs id pl) (ha : hs.Pairwise fun a b => a.i < b.i) : (∃ x ∈ hs, x.i = id) ↔ pl < hs.length ∧ (hs.getD pl BkV.zero).i = id := by
  constructor
  · rintro ⟨x, hx, rfl⟩
    obtain ⟨j, hj, rfl⟩ := List.getElem_of_mem hx
    have e : (hs.getD j BkV.zero) = hs[j] := by simp [List.getD, hj]
    by_cases h1 : j < pl
    · have := h.2.1 j h1; rw [e] at this; omega
    · by_cases h2 : j = pl
      · subst h2; exact ⟨hj, by rw [e]⟩
      · have hlt : pl < hs.length := by omega
        have h3 := h.2.2 pl (Nat.le_refl _) hlt
        have h4 := List.pairwise_iff_getElem.1 ha pl j hlt hj (by omega)
        have e2 : (hs.getD pl BkV.zero) = hs[pl] := by simp [List.getD, hlt]
        rw [e2] at h3; omega
  · rintro ⟨h1, h2⟩
    exact ⟨hs[pl], List.getElem_mem h1, by simpa [List.getD, h1] using h2⟩
theorem out_pl {hs : List BkV} {id : Int} {pl : Nat} (ha : hs.Pairwise fun a b => a.i < b.i) (hp : pl < hs.length) (hi : (hs.getD pl BkV.zero).i = id) : hs.take pl ++ hs.drop (pl + 1) = hs.filter fun x => decide (x.i ≠ id) := by
  have e : (hs.getD pl BkV.zero) = hs[pl] := by simp [List.getD, hp]
  rw [e] at hi
  have hs0 : hs = hs.take pl ++ hs[pl] :: hs.drop (pl + 1) := by rw [← List.drop_eq_getElem_cons hp, List.take_append_drop]
  rw [hs0] at ha
  obtain ⟨h1, h2, h3⟩ := List.pairwise_append.1 ha
  have h4 := (List.pairwise_cons.1 h2).1
  refine Eq.trans ?_ (congrArg (List.filter _) hs0.symm)
  rw [List.filter_append, List.filter_cons, if_neg (by simp [hi]), List.filter_eq_self.2, List.filter_eq_self.2]
  · intro x hx; have := h4 x hx; simp; omega
  · intro x hx; have := h3 x hx hs[pl] List.mem_cons_self; simp; omega
theorem out_ins {b : BkV} : ∀ {hs : List BkV}, (∀ x ∈ hs, x.i ≠ b.i) → (insB b hs).filter (fun x => decide (x.i ≠ b.i)) = hs
  | [], _ => by simp [insB]
  | x :: r, h => by
    have h1 : (x :: r).filter (fun x => decide (x.i ≠ b.i)) = x :: r := List.filter_eq_self.2 fun y hy => by simpa using h y hy
    unfold insB; split
    · rw [List.filter_cons, if_neg (by simp)]; exact h1
    · rw [List.filter_cons, if_pos (by simpa using h x (by simp)), out_ins (fun y hy => h y (by simp [hy]))]
theorem Rt.ins {S P : Int} {b : BkV} : ∀ {hs : List BkV}, Rt S P hs → bkB S P b = true → (∀ x ∈ hs, x.i ≠ b.i) → (∀ a ∈ hs, ¬ (a.s = b.s ∧ a.n < b.f ∧ b.n < a.f)) → Rt S P (insB b hs)
  | [], _, hb, _, _ => ⟨by simp [insB, hb], by simp [insB], by simp [insB]⟩
  | x :: r, h, hb, hne, hf => by
    obtain ⟨a1, a2⟩ := List.pairwise_cons.1 h.asc
    obtain ⟨f1, f2⟩ := List.pairwise_cons.1 h.far
    unfold insB
    split
    · rename_i hc
      refine ⟨fun y hy => ?_, List.pairwise_cons.2 ⟨fun y hy => ?_, h.asc⟩, List.pairwise_cons.2 ⟨fun y hy hcl => ?_, h.far⟩⟩
      · rcases List.mem_cons.1 hy with rfl | hy
        · exact hb
        · exact h.ok y hy
      · rcases List.mem_cons.1 hy with rfl | hy
        · exact hc
        · have := a1 y hy; omega
      · exact hf y hy ⟨hcl.1.symm, by omega, by omega⟩
    · rename_i hc
      have ih := Rt.ins (hs := r) (b := b) (h.sub (List.sublist_cons_self _ _)) hb (fun y hy => hne y (by simp [hy])) (fun y hy => hf y (by simp [hy]))
      have hx := hne x (by simp)
      refine ⟨fun y hy => ?_, List.pairwise_cons.2 ⟨fun y hy => ?_, ih.asc⟩, List.pairwise_cons.2 ⟨fun y hy => ?_, ih.far⟩⟩
      · rcases List.mem_cons.1 hy with rfl | hy
        · exact h.ok y (by simp)
        · exact ih.ok y hy
      · rcases insB_mem.1 hy with rfl | hy
        · omega
        · exact a1 y hy
      · rcases insB_mem.1 hy with rfl | hy
        · exact hf x (by simp)
        · exact f1 y hy
theorem heldB_ins (b : BkV) (s p : Int) : ∀ hs : List BkV, heldB (insB b hs) s p = (heldB hs s p || decide (b.s = s ∧ b.n ≤ p ∧ p < b.f))
  | [] => by simp [insB, heldB]
  | x :: r => by
    have e : ∀ (y : BkV) (l : List BkV), heldB (y :: l) s p = (decide (y.s = s ∧ y.n ≤ p ∧ p < y.f) || heldB l s p) := fun y l => by simp [heldB]
    unfold insB; split
    · rw [e, Bool.or_comm]
    · rw [e, heldB_ins b s p r, e, Bool.or_assoc]

def hasI (hs : List BkV) (id : Int) : Bool := hs.any fun x => decide (x.i = id)
theorem hasI_iff {hs : List BkV} {id : Int} : hasI hs id = true ↔ ∃ x ∈ hs, x.i = id := by simp [hasI]
theorem hasI_no {hs : List BkV} {id : Int} : hasI hs id = false ↔ ∀ x ∈ hs, x.i ≠ id := by
  rw [← Bool.not_eq_true, hasI_iff]
  constructor
  · intro h x hx he; exact h ⟨x, hx, he⟩
  · rintro h ⟨x, hx, he⟩; exact h x hx he
/-- Whether a booking may be sold at all. -/
def maySell (hs : List BkV) (id : Int) : Bool := decide (0 < id) && decide (hs.length < 200) && !hasI hs id
/-- The seat that is sold. -/
def seatV (S P : Int) (hs : List BkV) (on off : Int) : Int := if askB P on off then bestL (holeV hs P on off) (freeK hs on off S.toNat) else -1
def bookV (S P : Int) (hs : List BkV) (id on off : Int) : List BkV × Int :=
  if maySell hs id = true ∧ 0 ≤ seatV S P hs on off then (insB ⟨id, seatV S P hs on off, on, off⟩ hs, seatV S P hs on off) else (hs, -1)
theorem seatV_in {S P : Int} {hs : List BkV} {on off : Int} (h : 0 ≤ seatV S P hs on off) : askB P on off = true ∧ seatV S P hs on off ∈ freeK hs on off S.toNat := by
  unfold seatV at *
  split at h
  · rename_i hc
    rw [if_pos hc]
    refine ⟨hc, ?_⟩
    rcases bestL_in (holeV hs P on off) (freeK hs on off S.toNat) with g | g
    · rw [g] at h; omega
    · exact g
  · omega
theorem seatV_neg {S P : Int} {hs : List BkV} {on off : Int} (h : ¬ 0 ≤ seatV S P hs on off) : seatV S P hs on off = -1 := by
  unfold seatV at *
  split at h
  · rename_i hc
    rw [if_pos hc]
    rcases bestL_in (holeV hs P on off) (freeK hs on off S.toNat) with g | g
    · exact g
    · have := (freeK_mem.1 g).1; omega
  · rename_i hc; rw [if_neg hc]
theorem Tr.book {S P : Int} {hs : List BkV} (h : Tr S P hs) (id on off : Int) : Tr S P (bookV S P hs id on off).1 := by
  unfold bookV
  split
  · rename_i hc
    obtain ⟨hm, hs0⟩ := hc
    obtain ⟨ha, hf⟩ := seatV_in hs0
    simp only [maySell, Bool.and_eq_true, decide_eq_true_eq, Bool.not_eq_true'] at hm
    obtain ⟨⟨m1, m2⟩, m3⟩ := hm
    obtain ⟨f1, f2, f3⟩ := freeK_mem.1 hf
    obtain ⟨a1, a2, a3⟩ := askB_iff.1 ha
    have h1 := h.s1
    refine ⟨h.s1, h.s2, h.p1, h.p2, by rw [insB_len]; omega, h.rt.ins (bkB_iff.2 ⟨m1, f1, by dsimp only; omega, a1, a2, a3⟩) (hasI_no.1 m3) ((over_iff (b := ⟨id, _, on, off⟩) h.rt.ok a2).1 f3)⟩
  · exact h
def unbV (hs : List BkV) (id : Int) : List BkV := hs.filter fun x => decide (x.i ≠ id)
theorem unbV_no {hs : List BkV} {id : Int} (h : hasI hs id = false) : unbV hs id = hs := List.filter_eq_self.2 fun x hx => by simpa using hasI_no.1 h x hx
theorem unbV_len (hs : List BkV) (id : Int) : (unbV hs id).length ≤ hs.length := List.length_filter_le _ _
theorem Tr.out {S P : Int} {hs : List BkV} (h : Tr S P hs) (id : Int) : Tr S P (unbV hs id) :=
  ⟨h.s1, h.s2, h.p1, h.p2, Nat.le_trans (unbV_len _ _) h.len, h.rt.sub List.filter_sublist⟩
/-- One sale. -/
def stepV (S P : Int) (hs : List BkV) (s : SaV) : List BkV × Int :=
  if s.k = 0 then bookV S P hs s.i s.n s.f else if s.k = 1 then (unbV hs s.i, if hasI hs s.i then 0 else -1) else (hs, -1)
theorem Tr.step {S P : Int} {hs : List BkV} (h : Tr S P hs) (s : SaV) : Tr S P (stepV S P hs s).1 := by
  unfold stepV
  split
  · exact h.book _ _ _
  · split
    · exact h.out _
    · exact h
def playS (S P : Int) (st : List BkV × List Int) (s : SaV) : List BkV × List Int := ((stepV S P st.1 s).1, st.2 ++ [(stepV S P st.1 s).2])
def playV (S P : Int) (hs : List BkV) (l : List SaV) : List BkV × List Int := l.foldl (playS S P) (hs, [])
theorem playV_nil (S P : Int) (hs : List BkV) : playV S P hs [] = (hs, []) := rfl
theorem playV_snoc (S P : Int) (hs : List BkV) (l : List SaV) (s : SaV) : playV S P hs (l ++ [s]) = playS S P (playV S P hs l) s := by simp [playV]
theorem playV_take {S P : Int} {hs : List BkV} {l : List SaV} {k : Nat} (hk : k < l.length) : playV S P hs (l.take (k + 1)) = playS S P (playV S P hs (l.take k)) (l.getD k SaV.zero) := by
  rw [List.take_succ_eq_append_getElem hk, playV_snoc]; simp [List.getD, hk]
theorem playV_tr {S P : Int} {hs : List BkV} (h : Tr S P hs) (l : List SaV) : Tr S P (playV S P hs l).1 := by
  refine snoc_ind (p := fun l => Tr S P (playV S P hs l).1) h (fun l s ih => ?_) l
  rw [playV_snoc]; exact ih.step s
theorem playV_len (S P : Int) (hs : List BkV) (l : List SaV) : (playV S P hs l).2.length = l.length := by
  refine snoc_ind (p := fun l => (playV S P hs l).2.length = l.length) rfl (fun l s ih => ?_) l
  rw [playV_snoc]; simp [playS, ih]

/-- Of the first k seats the one that is free the farthest from p on, and up to where. -/
def farF (hs : List BkV) (p e : Nat) : Nat → Int × Nat
  | 0 => (-1, p)
  | k + 1 => if (farF hs p e k).2 < untilE hs (k : Int) p e then ((k : Int), untilE hs (k : Int) p e) else farF hs p e k
theorem farF_ge (hs : List BkV) (p e : Nat) : ∀ k, p ≤ (farF hs p e k).2
  | 0 => Nat.le_refl _
  | k + 1 => by
    unfold farF; have := farF_ge hs p e k
    split
    · dsimp only; omega
    · exact this
theorem farF_le {hs : List BkV} {p e : Nat} (h : p ≤ e) : ∀ k, (farF hs p e k).2 ≤ e
  | 0 => h
  | k + 1 => by
    unfold farF
    split
    · exact untilE_le h
    · exact farF_le h k
theorem farF_max (hs : List BkV) (p e : Nat) : ∀ k s : Nat, s < k → untilE hs (s : Int) p e ≤ (farF hs p e k).2
  | 0, s, h => by omega
  | k + 1, s, h => by
    unfold farF
    by_cases hs' : s = k
    · subst hs'; split
      · exact Nat.le_refl _
      · omega
    · have := farF_max hs p e k s (by omega)
      split
      · dsimp only; omega
      · exact this
theorem farF_is (hs : List BkV) (p e : Nat) : ∀ k, p < (farF hs p e k).2 → 0 ≤ (farF hs p e k).1 ∧ (farF hs p e k).1 < k ∧ untilE hs (farF hs p e k).1 p e = (farF hs p e k).2
  | 0, h => by simp [farF] at h
  | k + 1, h => by
    unfold farF at h ⊢
    split
    · exact ⟨by dsimp only; omega, by dsimp only; omega, rfl⟩
    · rename_i hc
      rw [if_neg hc] at h
      have := farF_is hs p e k h
      exact ⟨this.1, by omega, this.2.2⟩
/-- The seats piece by piece, with so many steps left. -/
def spreadF (hs : List BkV) (S e : Nat) : Nat → Nat → Option (List Int)
  | 0, _ => some []
  | m + 1, p => if e ≤ p then some [] else if (farF hs p e S).2 = p then none else
      (spreadF hs S e m (farF hs p e S).2).map fun r => List.replicate ((farF hs p e S).2 - p) (farF hs p e S).1 ++ r
def spreadV (S P : Int) (hs : List BkV) (on off : Int) : List Int := if trainB S P hs && askB P on off then (spreadF hs S.toNat off.toNat (off - on).toNat on.toNat).getD [] else []
/-- What the seats so far have to do with what is told in the end. -/
def SpInv (hs : List BkV) (S e : Nat) (tot : Option (List Int)) (p : Nat) (out : List Int) : Prop := ∃ m, e - p ≤ m ∧ tot = (spreadF hs S e m p).map fun r => out ++ r
theorem SpInv.start (hs : List BkV) (S e p : Nat) : SpInv hs S e (spreadF hs S e (e - p) p) p [] := ⟨e - p, Nat.le_refl _, by simp⟩
theorem SpInv.done {hs : List BkV} {S e p : Nat} {tot : Option (List Int)} {out : List Int} (h : SpInv hs S e tot p out) (hp : e ≤ p) : tot = some out := by
  obtain ⟨m, _, rfl⟩ := h
  cases m with
  | zero => simp [spreadF]
  | succ m => simp [spreadF, hp]
theorem SpInv.none {hs : List BkV} {S e p : Nat} {tot : Option (List Int)} {out : List Int} (h : SpInv hs S e tot p out) (hp : p < e) (hf : (farF hs p e S).2 = p) : tot = none := by
  obtain ⟨m, hm, rfl⟩ := h
  cases m with
  | zero => omega
  | succ m => unfold spreadF; rw [if_neg (by omega), if_pos hf]; rfl
theorem SpInv.step {hs : List BkV} {S e p : Nat} {tot : Option (List Int)} {out : List Int} (h : SpInv hs S e tot p out) (hp : p < e) (hf : (farF hs p e S).2 ≠ p) : SpInv hs S e tot (farF hs p e S).2 (out ++ List.replicate ((farF hs p e S).2 - p) (farF hs p e S).1) := by
  obtain ⟨m, hm, rfl⟩ := h
  have := farF_ge hs p e S
  cases m with
  | zero => omega
  | succ m =>
    refine ⟨m, by omega, ?_⟩
    rw [spreadF, if_neg (by omega), if_neg hf]
    cases spreadF hs S e m (farF hs p e S).2 with
    | none => rfl
    | some r => simp
end Go.Proofs.Ytgnlcehpajbnoaa
