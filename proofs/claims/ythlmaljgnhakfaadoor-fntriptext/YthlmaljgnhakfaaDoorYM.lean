/- A right trip moved, and turned round: mathematics. -/
import Derived.Test.YthlmaljgnhakfaaDoorBS
import Derived.Test.YthlmaljgnhakfaaDoorH
import Derived.Test.YthlmaljgnhakfaaDoorDR
import Derived.Test.YthlmaljgnhakfaaDoorTX
namespace Go.Proofs.YthlmaljgnhakfaaDoor
open Go.RowKit
theorem moved_all {cs : List HaltV} {x : Int} (hx : 0 ≤ x) (hx2 : x ≤ 255) (hall : cs.all callB = true) (hu : ∀ p ∈ cs, p.d ≤ 400) : (movedL x cs).all callB = true := by
  rw [List.all_eq_true] at hall ⊢
  intro c hc
  obtain ⟨p, hp, rfl⟩ := List.mem_map.1 hc
  obtain ⟨⟨a1, a2⟩, ⟨a3, a4⟩, a5⟩ := call_parts (hall p hp)
  have := hu p hp
  simp [callB, inB]; omega
theorem moved_chain (x : Int) : ∀ cs, chainB cs = true → chainB (movedL x cs) = true
  | [], _ => rfl
  | [_], _ => rfl
  | p :: q :: r, h => by
    simp only [chainB, Bool.and_eq_true] at h
    have ih := moved_chain x (q :: r) h.2
    have h1 : stepB ⟨p.n, p.a + x, p.d + x⟩ ⟨q.n, q.a + x, q.d + x⟩ = true := by
      have := h.1
      simp only [stepB, Bool.and_eq_true, decide_eq_true_eq] at this ⊢
      exact ⟨by omega, this.2⟩
    show chainB (_ :: movedL x (q :: r)) = true
    unfold movedL at ih ⊢
    simp only [List.map_cons, chainB, Bool.and_eq_true] at ih ⊢
    exact ⟨h1, ih⟩
theorem moved_ok {s : ByteArray} {cs : List HaltV} {x : Int} (h : tripB ⟨s, cs⟩ = true) (hx : 0 ≤ x) (hx2 : x ≤ 255) (hu : ∀ p ∈ cs, p.d ≤ 400) : tripB ⟨s, movedL x cs⟩ = true := by
  obtain ⟨h1, h2, h3, h4, h5⟩ := trip_parts h
  dsimp only at h1 h2 h3 h4 h5
  have h6 : inB (cs.length : Int) 2 12 = true := inB_yes (by omega) (by omega)
  simp only [tripB, h1, movedL_len, h6, moved_all hx hx2 h4 hu, moved_chain x cs h5, Bool.and_true]
theorem movedT_ok {s : ByteArray} {cs : List HaltV} {x : Int} (h : tripB ⟨s, cs⟩ = true) (hx : 0 ≤ x) (hx2 : x ≤ 255) (hu : ∀ p ∈ cs, p.d ≤ 400) : movedT ⟨s, cs⟩ x = ⟨s, movedL x cs⟩ := by
  unfold movedT
  rw [if_pos ⟨h, inB_yes (by omega) (by omega)⟩, ifOk, if_pos (moved_ok h hx hx2 hu)]
theorem movedL_back (cs : List HaltV) (x : Int) : movedL (-x) (movedL x cs) = cs := by
  unfold movedL
  rw [List.map_map]
  conv => rhs; rw [← List.map_id cs]
  apply List.map_congr_left
  intro c _
  obtain ⟨n, a, d⟩ := c
  simp only [Function.comp, id, HaltV.mk.injEq, true_and]
  omega
theorem movedT_back {s : ByteArray} {cs : List HaltV} {x : Int} (h : tripB ⟨s, cs⟩ = true) (hx : 0 ≤ x) (hx2 : x ≤ 255) (hu : ∀ p ∈ cs, p.d ≤ 400) : movedT ⟨s, movedL x cs⟩ (-x) = ⟨s, cs⟩ := by
  unfold movedT
  rw [if_pos ⟨moved_ok h hx hx2 hu, inB_yes (by omega) (by omega)⟩, movedL_back, ifOk, if_pos h]
theorem movedL_last {cs : List HaltV} (x : Int) (h : 0 < cs.length) : ((movedL x cs).getD (cs.length - 1) HaltV.zero).d = (cs.getD (cs.length - 1) HaltV.zero).d + x := by
  have e : cs.length - 1 < cs.length := by omega
  simp [movedL, List.getD, e]
theorem last_max : ∀ (cs : List HaltV), cs.all callB = true → chainB cs = true → ∀ p ∈ cs, p.d ≤ lastD cs
  | [], _, _, _, h => absurd h (by simp)
  | [c], _, _, p, h => by simp at h; subst h; exact Int.le_refl _
  | c :: q :: r, ha, hc, p, h => by
    rw [List.all_cons, Bool.and_eq_true] at ha
    simp only [chainB, Bool.and_eq_true] at hc
    have ih := last_max (q :: r) ha.2 hc.2
    have e : lastD (c :: q :: r) = lastD (q :: r) := by simp [lastD]
    rw [e]
    rcases List.mem_cons.1 h with rfl | h
    · have h1 := ih q List.mem_cons_self
      have h2 := hc.1
      simp only [stepB, Bool.and_eq_true, decide_eq_true_eq] at h2
      have h3 := (call_parts (List.all_eq_true.1 ha.2 q List.mem_cons_self)).2.1.2
      omega
    · exact ih p h
theorem backL_cons (T : Int) (c : HaltV) (cs : List HaltV) : backL T (c :: cs) = backL T cs ++ [backC T c] := by simp [backL]
theorem back_chain (T : Int) : ∀ cs, chainB cs = true → chainB (backL T cs) = true
  | [], _ => rfl
  | [_], _ => rfl
  | p :: q :: r, h => by
    simp only [chainB, Bool.and_eq_true] at h
    have ih := back_chain T (q :: r) h.2
    rw [backL_cons]
    refine chain_snoc _ _ ih ?_
    intro y hy
    rw [backL_cons, List.getLast?_append] at hy
    simp at hy
    subst hy
    have h1 := h.1
    simp only [stepB, Bool.and_eq_true, decide_eq_true_eq] at h1
    have h2 : ¬ p.n = q.n := by simpa using h1.2
    have h3 := h1.1
    have h4 : ¬ (backC T q).n = (backC T p).n := fun e => h2 (Eq.symm e)
    have h5 : (backC T q).d < (backC T p).a := show T - q.a < T - p.d by omega
    unfold stepB
    simp only [h4, h5, decide_true, decide_false, Bool.not_false, Bool.and_true]
theorem backC_backC (T : Int) (c : HaltV) : backC T (backC T c) = c := by
  obtain ⟨n, a, d⟩ := c
  simp only [backC, HaltV.mk.injEq, true_and]
  omega
theorem backL_backL (T : Int) (cs : List HaltV) : backL T (backL T cs) = cs := by
  unfold backL
  rw [← List.map_reverse, List.reverse_reverse, List.map_map]
  conv => rhs; rw [← List.map_id cs]
  apply List.map_congr_left
  intro c _
  exact backC_backC T c
theorem backL_first {cs : List HaltV} (T : Int) (h : 0 < cs.length) : (backL T cs).getD 0 HaltV.zero = backC T (cs.getD (cs.length - 1) HaltV.zero) := by
  have e : cs.length - 1 < cs.length := by omega
  simp [backL, List.getD, h, e]
theorem backL_last {cs : List HaltV} (T : Int) (h : 0 < cs.length) : lastD (backL T cs) = T - (cs.getD 0 HaltV.zero).a := by
  cases cs with
  | nil => simp at h
  | cons c cs => rw [lastD, backL_len, backL_cons]; simp [backL, List.getD, backC]
theorem back_ok {s : ByteArray} {cs : List HaltV} (h : tripB ⟨s, cs⟩ = true) (hu : ∀ p ∈ cs, p.d ≤ 400) : tripB ⟨s, backL ((cs.getD 0 HaltV.zero).a + lastD cs) cs⟩ = true := by
  obtain ⟨h1, h2, h3, h4, h5⟩ := trip_parts h
  dsimp only at h1 h2 h3 h4 h5
  have h6 : inB (cs.length : Int) 2 12 = true := inB_yes (by omega) (by omega)
  have h7 := last_max cs h4 h5
  have h8 := call_parts (call_at h4 (k := 0) (by omega))
  have e1 : cs.getD (cs.length - 1) HaltV.zero ∈ cs := by
    rw [show cs.getD (cs.length - 1) HaltV.zero = cs[cs.length - 1] by simp [List.getD, show cs.length - 1 < cs.length by omega]]; exact List.getElem_mem _
  have e0 : cs.getD 0 HaltV.zero ∈ cs := by
    rw [show cs.getD 0 HaltV.zero = cs[0] by simp [List.getD, show 0 < cs.length by omega]]; exact List.getElem_mem _
  have h9 : lastD cs ≤ 400 := hu _ e1
  have h10 := hu _ e0
  have hT1 : ∀ p ∈ cs, p.d ≤ (cs.getD 0 HaltV.zero).a + lastD cs := fun p hp => by have := h7 p hp; omega
  have hT2 : (cs.getD 0 HaltV.zero).a + lastD cs ≤ 800 := by omega
  generalize (cs.getD 0 HaltV.zero).a + lastD cs = T at *
  have hA : (backL T cs).all callB = true := by
    rw [List.all_eq_true]
    intro c hc
    obtain ⟨p, hp, rfl⟩ := List.mem_map.1 hc
    have hp := List.mem_reverse.1 hp
    obtain ⟨⟨a1, a2⟩, ⟨a3, a4⟩, a5⟩ := call_parts (List.all_eq_true.1 h4 p hp)
    have := hT1 p hp
    unfold callB backC
    dsimp only
    rw [inB_yes (by omega) (by omega), inB_yes (by omega) (by omega), inB_yes (by omega) (by omega)]; rfl
  simp only [tripB, h1, backL_len, h6, hA, back_chain _ cs h5, Bool.and_true]
theorem backT_ok {s : ByteArray} {cs : List HaltV} (h : tripB ⟨s, cs⟩ = true) (hu : ∀ p ∈ cs, p.d ≤ 400) : backT ⟨s, cs⟩ (cs.getD 0 HaltV.zero).a = ⟨s, backL ((cs.getD 0 HaltV.zero).a + lastD cs) cs⟩ := by
  obtain ⟨h1, h2, h3, h4, h5⟩ := trip_parts h
  dsimp only at h2 h4
  obtain ⟨-, h8, h9⟩ := call_parts (call_at h4 (k := 0) (by omega))
  unfold backT
  rw [if_pos ⟨h, inB_yes h8.1 (by omega)⟩, ifOk, if_pos (back_ok h hu)]
theorem backT_back {s : ByteArray} {cs : List HaltV} (h : tripB ⟨s, cs⟩ = true) (hu : ∀ p ∈ cs, p.d ≤ 400) : backT ⟨s, backL ((cs.getD 0 HaltV.zero).a + lastD cs) cs⟩ (cs.getD 0 HaltV.zero).a = ⟨s, cs⟩ := by
  obtain ⟨h1, h2, h3, h4, h5⟩ := trip_parts h
  dsimp only at h2 h4
  obtain ⟨-, h8, h9⟩ := call_parts (call_at h4 (k := 0) (by omega))
  unfold backT
  dsimp only
  rw [if_pos ⟨back_ok h hu, inB_yes h8.1 (by omega)⟩, backL_last _ (by omega), show (cs.getD 0 HaltV.zero).a + ((cs.getD 0 HaltV.zero).a + lastD cs - (cs.getD 0 HaltV.zero).a) = (cs.getD 0 HaltV.zero).a + lastD cs by omega, backL_backL, ifOk, if_pos h]
theorem not_text {t u : TripV} {l : List UInt8} {b : UInt8} (ht : tripL t = l) (hu : tripL u = l ++ [b]) : u ≠ t ∧ tripL u ≠ l := by
  constructor
  · intro e; rw [e, ht] at hu; have := congrArg List.length hu; simp at this
  · intro e; rw [e] at hu; have := congrArg List.length hu; simp at this
end Go.Proofs.YthlmaljgnhakfaaDoor
