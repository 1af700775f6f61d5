/- What Chains tells is right, whole, and as few as can be. -/
import Derived.Test.YtbnhkkaiohmllaaMH
import Derived.Test.YtbnhkkaiohmllaaCK
import Derived.Test.YtbnhkkaiohmllaaMG
namespace Go.Proofs.Ytbnhkkaiohmllaa
open Go.RowKit

theorem hOf_uL {h : Hist} {N : Nat} (D : Dealt h N) : hOf (uL h 0 N) (h.map (·.1)) = h := by
  unfold hOf
  rw [List.map_map]
  conv => rhs; rw [← List.map_id h]
  refine List.map_congr_left (fun x hx => ?_)
  obtain ⟨t, u⟩ := x
  have ht : t < N := (D.all t).1 (List.mem_map.2 ⟨_, hx, rfl⟩)
  simp only [Function.comp, id]
  rw [uL_get h 0 ht, unitD_mem D.nodup hx 0]
  rfl
theorem uL_mem {h : Hist} {N : Nat} (D : Dealt h N) (z : Int) : z ∈ uL h 0 N ↔ ∃ t u, (t, u) ∈ h ∧ z = (u : Int) := by
  unfold uL
  rw [List.mem_map]
  constructor
  · rintro ⟨t, ht, rfl⟩
    obtain ⟨u, hu, e⟩ := D.get (List.mem_range.1 ht)
    exact ⟨t, u, hu, e 0⟩
  · rintro ⟨t, u, hu, rfl⟩
    exact ⟨t, List.mem_range.2 ((D.all t).1 (List.mem_map.2 ⟨_, hu, rfl⟩)), unitD_mem D.nodup hu 0⟩
theorem chains_ok {ts : List TaskV} {n : Int} {os : List Nat} {h : Hist} (hO : Ord ts os) (hC : Chn ts n os h) (hok : (tasksB ts && turnB n) = true) : ChOk ts n (uL h 0 ts.length) := by
  have D := Dealt.of hO hC
  refine ⟨hok, uL_len _ _ _, ?_, os, hO, ?_⟩
  · rw [List.all_eq_true]
    intro z hz
    obtain ⟨t, u, hu, rfl⟩ := (uL_mem D z).1 hz
    have h1 := unit_lt hu
    have h2 := hC.nU_le
    have h3 := congrArg List.length hC.places
    rw [List.length_map] at h3
    have h4 := hO.len
    have h5 : ts.length ≤ 40 := by simp only [Bool.and_eq_true, tasksB, decide_eq_true_eq] at hok; exact hok.1.1
    exact inB_yes (by omega) (by omega)
  · have := hOf_uL D
    rw [hC.places] at this
    rw [this]
    exact hC.linked
theorem unit_used {ts : List TaskV} {n : Int} {os : List Nat} {h : Hist} (hO : Ord ts os) (hC : Chn ts n os h) {u : Nat} (hu : u < nU h) : (u : Int) ∈ uL h 0 ts.length := by
  have D := Dealt.of hO hC
  exact (uL_mem D _).2 ⟨_, u, runU_mem.1 (last_mem (hC.full u hu)), rfl⟩
theorem sum_units (ts : List TaskV) (M : Nat) : ∀ h : Hist, nU h ≤ M → sumTo (fun u => kmOf ts (runU h u)) M = kmOf ts (h.map (·.1)) := by
  intro h
  induction h using snoc_ind with
  | h0 => intro _; rw [sumTo_zero (fun u _ => by simp [runU, kmOf])]; simp [kmOf]
  | h1 h x ih =>
    obtain ⟨t, v⟩ := x
    intro hM
    rw [nU_snoc] at hM
    rw [sumTo_one (f := fun u => kmOf ts (runU (h ++ [(t, v)]) u)) (g := fun u => kmOf ts (runU h u)) (t := v) (by omega) (fun u hu => by rw [runU_snoc, if_neg (Ne.symm hu)]), ih (by omega), List.map_append]
    rw [runU_snoc, if_pos rfl, kmOf_snoc]
    simp only [List.map_cons, List.map_nil]
    rw [kmOf_snoc]
    omega
theorem sum_range (f : Nat → Int) (M : Nat) : ((List.range M).map f).sum = sumTo f M := by
  induction M with
  | zero => rfl
  | succ M ih => rw [List.range_succ, List.map_append, List.sum_append, ih, sumTo]; simp
theorem sum_all {ts : List TaskV} {n : Int} {os : List Nat} {h : Hist} (hO : Ord ts os) (hC : Chn ts n os h) : ((List.range (nU h)).map (fun u => kmOf ts (runU h u))).sum = sumTo (fun i => (tkA ts i).p) ts.length := by
  rw [sum_range, sum_units ts (nU h) h (Nat.le_refl _), hC.places, ← sum_list ts ts.length os hO.nodup (fun q hq => (hO.2 q).1 hq)]
  exact sumTo_congr (fun i hi => if_pos ((hO.2 i).2 hi))
theorem FlA.told {ts : List TaskV} {n z : Int} {os : List Nat} {h : Hist} (hz : FlA ts n z) (hO : Ord ts os) (hC : Chn ts n os h) (hok : (tasksB ts && turnB n) = true) : z = nU h := by
  rcases hz with ⟨h1, _⟩ | ⟨_, os', h', h2, h3, h4⟩
  · rw [hok] at h1; cases h1
  · have e := h2.uniq hO
    subst e
    rw [h4, h3.uniq hC]
end Go.Proofs.Ytbnhkkaiohmllaa
