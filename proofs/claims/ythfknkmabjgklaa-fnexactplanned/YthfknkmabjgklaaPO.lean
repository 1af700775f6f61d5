/- The order that the model finds. -/
import Derived.Test.YthfknkmabjgklaaPM
import Derived.Deep.AppendLies
namespace Go.Proofs.Ythfknkmabjgklaa
open Go.RowKit
def intsOf (os : List Nat) : List Int := os.map Int.ofNat
def lenOf : Value → Nat
  | .slice _ n _ => n
  | _ => 0
theorem sub_len : ∀ {l1 l2 : List Nat}, l1.Nodup → (∀ x ∈ l1, x ∈ l2) → l1.length ≤ l2.length
  | [], _, _, _ => Nat.zero_le _
  | a :: t, l2, hn, hs => by
    have ha : a ∈ l2 := hs a (List.mem_cons_self ..)
    have hn' := List.nodup_cons.1 hn
    have := sub_len (l1 := t) (l2 := l2.erase a) hn'.2 (fun x hx => (List.mem_erase_of_ne (fun e => hn'.1 (by rw [← e]; exact hx))).2 (hs x (List.mem_cons_of_mem _ hx)))
    rw [List.length_erase_of_mem ha] at this
    have := List.length_pos_of_mem ha
    simp only [List.length_cons]; omega
theorem intsOf_get (os : List Nat) {k : Nat} (hk : k < os.length) : (intsOf os).getD k 0 = ((os.getD k 0 : Nat) : Int) := by simp [intsOf, List.getD, hk]
theorem intsOf_mem {os : List Nat} {k : Nat} : (k : Int) ∈ intsOf os ↔ k ∈ os := by
  unfold intsOf
  rw [List.mem_map]
  constructor
  · rintro ⟨o, ho, e⟩; have : o = k := Int.ofNat.inj e
    subst this; exact ho
  · intro h; exact ⟨k, h, rfl⟩
theorem has_drop {zs : List Int} {x : Int} {k : Nat} (hk : k < zs.length) : decide (x ∈ zs.drop k) = (decide (zs[k] = x) || decide (x ∈ zs.drop (k + 1))) := by
  rw [List.drop_eq_getElem_cons hk, Bool.eq_iff_iff]
  simp only [Bool.or_eq_true, decide_eq_true_eq, List.mem_cons]
  constructor
  · rintro (h | h)
    · exact .inl h.symm
    · exact .inr h
  · rintro (h | h)
    · exact .inl h.symm
    · exact .inr h

set_option maxHeartbeats 800000 in
theorem cHas (a : Option Addr) (cap : Nat) (zs : List Int) (x : Int) (w : World) (hz : Ints w a zs) (hl : zs.length ≤ 1048576) :
    Calls Try.prog 38 #[.slice a zs.length cap, .int .i64 x] w fun e w' => e = .returned (.bool (decide (x ∈ zs))) ∧ w' = w := by
  generalize hr : decide (x ∈ zs) = res
  have hr0 : Hid (decide (x ∈ zs.drop 0) = res) := hr
  clear hr
  go_enter Try.func38, Try.ntmps38
  go_wp2
  go_loop [5] (fun i => ∃ k : Nat, k ≤ zs.length ∧ i = .int .i64 k ∧ Hid (decide (x ∈ zs.drop k) = res)) (fun i => zs.length - (intOf i).toNat)
  case atStart => exact ⟨0, Nat.zero_le _, rfl, hr0⟩
  case round =>
    obtain ⟨k, hk, rfl, hres⟩ := hrel
    clear hr0
    by_cases hlt : k < zs.length
    · rcases hz with h | ⟨b, off, rfl, hc⟩
      · simp [h] at hlt
      have q0 := hc k hlt
      have e0 : zs.getD k 0 = zs[k] := by simp [List.getD, hlt]
      rw [e0] at q0
      have hd := hide ((has_drop (x := x) hlt).symm.trans hres.out)
      generalize zs[k] = y at *
      clear hc e0 hres
      by_cases hy : y = x
      · have hf := hide (show res = true by rw [← hd.out]; simp [hy])
        clear hd
        subst hy
        go_wp2
        go_ret
        exact ⟨ret_bool hf.out.symm, rfl⟩
      · have hf := hide (show decide (x ∈ zs.drop (k + 1)) = res by rw [← hd.out]; simp [hy])
        clear hd
        go_wp2
        go_round
        case rel => exact ⟨k + 1, by omega, by go_num, hf⟩
        case measure => simp [intOf]; omega
    · obtain rfl : k = zs.length := by omega
      have hf := hide (show res = false by rw [← hres.out, List.drop_length]; simp)
      clear hz
      go_wp2
      go_ret
      exact ⟨ret_bool hf.out.symm, rfl⟩

def fK (ss : List RunV) (k : Nat) : Int := (ss.getD k RunV.zero).f
def before (ss : List RunV) (a b : Nat) : Prop := fK ss a < fK ss b ∨ (fK ss a = fK ss b ∧ a < b)
/-- The first of the stays, in their order. -/
structure IsOrder (ss : List RunV) (os : List Nat) : Prop where
  low : ∀ o ∈ os, o < ss.length
  nodup : os.Nodup
  sorted : os.Pairwise (before ss)
  rest : ∀ i, i < ss.length → i ∉ os → ∀ o ∈ os, before ss o i
theorem before_trans {ss : List RunV} {a b c : Nat} (h : before ss a b) (g : before ss b c) : before ss a c := by unfold before at *; omega
theorem before_irrefl {ss : List RunV} (a : Nat) : ¬ before ss a a := by unfold before; omega
theorem IsOrder.len {ss : List RunV} {os : List Nat} (h : IsOrder ss os) : os.length ≤ ss.length := by
  have := sub_len h.nodup (l2 := List.range ss.length) (fun o ho => List.mem_range.2 (h.low o ho))
  simpa using this
/-- What the search for the next one has found among the first k. -/
def NextTo (ss : List RunV) (os : List Nat) (k : Nat) (b : Int) : Prop :=
  (b = -1 ∧ ∀ i, i < k → i ∈ os) ∨ ∃ m : Nat, b = m ∧ m < k ∧ m ∉ os ∧ ∀ i, i < k → i ∉ os → i = m ∨ before ss m i
theorem NextTo.skip {ss : List RunV} {os : List Nat} {k : Nat} {b : Int} (h : NextTo ss os k b) (hk : k ∈ os) : NextTo ss os (k + 1) b := by
  rcases h with ⟨h1, h2⟩ | ⟨m, h1, h2, h3, h4⟩
  · refine .inl ⟨h1, fun i hi => ?_⟩
    by_cases e : i = k
    · subst e; exact hk
    · exact h2 i (by omega)
  · refine .inr ⟨m, h1, by omega, h3, fun i hi hn => ?_⟩
    by_cases e : i = k
    · subst e; exact absurd hk hn
    · exact h4 i (by omega) hn
theorem NextTo.first {ss : List RunV} {os : List Nat} {k : Nat} (h : NextTo ss os k (-1)) (hk : k ∉ os) : NextTo ss os (k + 1) k := by
  rcases h with ⟨_, h2⟩ | ⟨m, h1, _⟩
  · refine .inr ⟨k, rfl, by omega, hk, fun i hi hn => ?_⟩
    by_cases e : i = k
    · exact .inl e
    · exact absurd (h2 i (by omega)) hn
  · omega
theorem NextTo.less {ss : List RunV} {os : List Nat} {k m : Nat} (h : NextTo ss os k (m : Int)) (hk : k ∉ os) (hf : fK ss k < fK ss m) : NextTo ss os (k + 1) k := by
  rcases h with ⟨h1, _⟩ | ⟨m', h1, h2, h3, h4⟩
  · omega
  · obtain rfl : m = m' := by omega
    refine .inr ⟨k, rfl, by omega, hk, fun i hi hn => ?_⟩
    by_cases e : i = k
    · exact .inl e
    · refine .inr ?_
      rcases h4 i (by omega) hn with rfl | hb
      · exact .inl hf
      · exact before_trans (.inl hf) hb
theorem NextTo.more {ss : List RunV} {os : List Nat} {k m : Nat} (h : NextTo ss os k (m : Int)) (hf : ¬ fK ss k < fK ss m) : NextTo ss os (k + 1) m := by
  rcases h with ⟨h1, _⟩ | ⟨m', h1, h2, h3, h4⟩
  · omega
  · obtain rfl : m = m' := by omega
    refine .inr ⟨m, rfl, by omega, h3, fun i hi hn => ?_⟩
    by_cases e : i = k
    · subst e; refine .inr ?_; unfold before; omega
    · exact h4 i (by omega) hn
theorem IsOrder.push {ss : List RunV} {os : List Nat} {b : Int} (h : IsOrder ss os) (hl : os.length < ss.length) (hn : NextTo ss os ss.length b) : ∃ m : Nat, b = m ∧ m < ss.length ∧ IsOrder ss (os ++ [m]) := by
  rcases hn with ⟨_, h2⟩ | ⟨m, h1, h2, h3, h4⟩
  · exfalso
    have := sub_len (List.nodup_range (n := ss.length)) (l2 := os) (fun i hi => h2 i (List.mem_range.1 hi))
    simp at this; omega
  · refine ⟨m, h1, h2, ?_, ?_, ?_, ?_⟩
    · intro o ho
      rcases List.mem_append.1 ho with ho | ho
      · exact h.low o ho
      · simp at ho; omega
    · rw [List.nodup_append]
      refine ⟨h.nodup, by simp, fun a ha b hb e => ?_⟩
      simp at hb; subst hb; subst e; exact h3 ha
    · rw [List.pairwise_append]
      refine ⟨h.sorted, by simp, fun a ha b hb => ?_⟩
      simp at hb; subst hb
      exact h.rest b h2 h3 a ha
    · intro i hi hni o ho
      have hni' : i ∉ os := fun hx => hni (List.mem_append.2 (.inl hx))
      have him : i ≠ m := fun e => hni (List.mem_append.2 (.inr (by simp [e])))
      rcases List.mem_append.1 ho with ho | ho
      · exact h.rest i hi hni' o ho
      · simp at ho; subst ho
        exact (h4 i hi hni').resolve_left him
theorem IsOrder.nil (ss : List RunV) : IsOrder ss [] := ⟨fun o h => by simp at h, List.nodup_nil, List.Pairwise.nil, fun i _ _ o h => by simp at h⟩


theorem Ints.ownI {w : World} {B n c : Nat} {a : Option Addr} {zs : List Int} (h : w.ownsRow B 3 1 (.slice a n c) n (zs.map (Value.int .i64))) : Ints w a zs := by
  rcases h.2 with ⟨_, h0⟩ | ⟨g, cap', cur, e0, _⟩
  · left
    have := h.1
    simp at this
    exact List.length_eq_zero_iff.1 (by omega)
  · right
    injection e0 with e1 _ _
    subst e1
    refine ⟨g, 0, rfl, fun i hi => ?_⟩
    have hl := h.1
    simp at hl
    rw [Nat.zero_add, h.cellAt i (by omega)]
    simp [List.getD, hi]
/-- The runs in the order that was found. -/
def picks (all : List RunV) (os : List Nat) : List RunV := os.map fun o => all.getD o RunV.zero
theorem picks_perm {all : List RunV} {os : List Nat} (h : IsOrder all os) (hl : os.length = all.length) : (picks all os).Perm all := by
  have h1 : os.Perm (List.range all.length) := by
    refine (List.perm_ext_iff_of_nodup h.nodup List.nodup_range).2 fun a => ⟨fun ha => List.mem_range.2 (h.low a ha), fun ha => ?_⟩
    have ha := List.mem_range.1 ha
    by_cases hm : a ∈ os
    · exact hm
    · exfalso
      have := sub_len (l1 := a :: os) (l2 := List.range all.length) (List.nodup_cons.2 ⟨hm, h.nodup⟩) (fun x hx => by
        rcases List.mem_cons.1 hx with rfl | hx
        · exact List.mem_range.2 ha
        · exact List.mem_range.2 (h.low x hx))
      simp at this; omega
  have h2 := h1.map (fun o => all.getD o RunV.zero)
  have h3 : (List.range all.length).map (fun o => all.getD o RunV.zero) = all := by
    apply List.ext_getElem
    · simp
    · intro i h1 h2; simp [List.getD, h2]
  rw [h3] at h2
  exact h2
theorem picks_sort {all : List RunV} {os : List Nat} (h : IsOrder all os) (hm : all.Pairwise (fun x y => x.t ≤ y.t)) : SortR (picks all os) := by
  intro i j hij hj
  unfold picks at hj ⊢
  rw [List.length_map] at hj
  have hs := (List.pairwise_iff_getElem.1 h.sorted) i j (by omega) hj hij
  have li := h.low os[i] (List.getElem_mem (by omega))
  have lj := h.low os[j] (List.getElem_mem hj)
  rw [show (os.map fun o => all.getD o RunV.zero).getD j RunV.zero = all.getD os[j] RunV.zero by simp [List.getD, hj], show (os.map fun o => all.getD o RunV.zero).getD i RunV.zero = all.getD os[i] RunV.zero by simp [List.getD, show i < os.length by omega]]
  rw [cmpR_lt]
  unfold before fK at hs
  rcases hs with hs | ⟨h1, h2⟩
  · omega
  · have := (List.pairwise_iff_getElem.1 hm) os[i] os[j] li lj h2
    rw [show all[os[i]] = all.getD os[i] RunV.zero by simp [List.getD, li], show all[os[j]] = all.getD os[j] RunV.zero by simp [List.getD, lj]] at this
    omega
theorem picks_snoc (all : List RunV) (os : List Nat) (m : Nat) : picks all (os ++ [m]) = picks all os ++ [all.getD m RunV.zero] := by simp [picks]
end Go.Proofs.Ythfknkmabjgklaa
