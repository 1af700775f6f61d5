/- How the fleet turns with the turn, and with one task less. -/
import Derived.Test.YtbnhkkaiohmllaaFT
namespace Go.Proofs.Ytbnhkkaiohmllaa
open Go.RowKit

theorem Mat.mono {F G : Nat → Nat → Prop} {N : Nat} {m : Nat → Int} (h : Mat F N m) (hFG : ∀ a b, F a b → G a b) : Mat G N m :=
  ⟨fun b hb => by
    rcases h.val b hb with e | ⟨a, e, ha, hf⟩
    · exact .inl e
    · exact .inr ⟨a, e, ha, hFG a b hf⟩, h.inj⟩
theorem fol_turn {a b : TaskV} {n m : Int} (h0 : 0 ≤ n) (hnm : n ≤ m) (h : folB a b m = true) : folB a b n = true := by
  obtain ⟨h1, h2, h3, h4, h5⟩ := folB_iff.1 h
  have := inB_true h3
  exact folB_iff.2 ⟨h1, h2, inB_yes h0 (by omega), h4, by omega⟩
/-- What is known of a fleet: it is the tasks less the greatest matching. -/
theorem FlA.most {ts : List TaskV} {n z : Int} (h : FlA ts n z) (hok : (tasksB ts && turnB n) = true) : 0 ≤ z ∧ z ≤ ts.length ∧ (z = 0 ↔ ts.length = 0) ∧ (∃ m, Mat (FF ts n) ts.length m ∧ szM m ts.length = ts.length - z) ∧ ∀ m, Mat (FF ts n) ts.length m → szM m ts.length ≤ ts.length - z := by
  rcases h with ⟨h1, _⟩ | ⟨_, os, hh, h2, h3, rfl⟩
  · rw [hok] at h1; cases h1
  · have hr : ts.all taskB = true := by simp only [Bool.and_eq_true, tasksB, decide_eq_true_eq] at hok; exact hok.1.2
    obtain ⟨m, G⟩ := h3.grd h2.1
    have hs := G.size h2
    have hn := h3.nU_le
    have hp := congrArg List.length h3.places
    rw [List.length_map] at hp
    have hl := h2.len
    refine ⟨by omega, by omega, ⟨fun e => ?_, fun e => by omega⟩, ⟨m, G.mat h2, by omega⟩, fun m2 M2 => ?_⟩
    · by_cases e2 : ts.length = 0
      · exact e2
      · exfalso
        cases hh with
        | nil => simp at hp; omega
        | cons x l =>
          obtain ⟨t, u⟩ := x
          have := unit_lt (h := (t, u) :: l) (t := t) (u := u) (by simp)
          omega
    · have := G.most h2 hr M2; omega
theorem fleet_turn {ts : List TaskV} {n m x y : Int} (hx : FlA ts n x) (hy : FlA ts m y) (h1 : (tasksB ts && turnB n) = true) (h2 : (tasksB ts && turnB m) = true) (h0 : 0 ≤ n) (hnm : n ≤ m) : x ≤ y := by
  obtain ⟨_, _, _, _, a5⟩ := hx.most h1
  obtain ⟨_, _, _, ⟨m2, M2, e2⟩, _⟩ := hy.most h2
  have := a5 m2 (M2.mono (fun a b h => fol_turn h0 hnm h))
  omega
theorem sumTo_shift (f : Nat → Int) (n : Nat) : sumTo f (n + 1) = f 0 + sumTo (fun i => f (i + 1)) n := by
  induction n with
  | zero => simp [sumTo]
  | succ n ih => rw [sumTo, ih, sumTo]; omega
theorem sumTo_add (f g : Nat → Int) (n : Nat) : sumTo (fun i => f i + g i) n = sumTo f n + sumTo g n := by
  induction n with
  | zero => simp [sumTo]
  | succ n ih => rw [sumTo, sumTo, sumTo, ih]; omega
/-- At most one place holds what no two hold. -/
theorem sumTo_once {f : Nat → Prop} [DecidablePred f] : ∀ {n : Nat}, (∀ i j, i < n → j < n → f i → f j → i = j) → sumTo (fun i => if f i then 1 else 0) n ≤ 1 := by
  intro n
  induction n with
  | zero => intro _; simp [sumTo]
  | succ n ih =>
    intro h
    rw [sumTo]
    by_cases hf : f n
    · rw [sumTo_zero (fun i hi => if_neg (fun hi2 => by have := h i n (by omega) (by omega) hi2 hf; omega)), if_pos hf]; omega
    · rw [if_neg hf]; have := ih (fun i j hi hj => h i j (by omega) (by omega)); omega
theorem tkA_cons (t : TaskV) (ts : List TaskV) (i : Nat) : tkA (t :: ts) (i + 1) = tkA ts i := by simp [tkA, List.getD]
theorem fleet_tail {t : TaskV} {ts : List TaskV} {n x y : Int} (hx : FlA (t :: ts) n x) (hy : FlA ts n y) (h1 : (tasksB (t :: ts) && turnB n) = true) (h2 : (tasksB ts && turnB n) = true) : y ≤ x + 1 ∧ x - 1 ≤ y := by
  obtain ⟨_, _, _, ⟨ma, Ma, ea⟩, a5⟩ := hx.most h1
  obtain ⟨_, _, _, ⟨mb, Mb, eb⟩, b5⟩ := hy.most h2
  have hN : (t :: ts).length = ts.length + 1 := rfl
  rw [hN] at Ma ea a5
  constructor
  · -- the tail's matching out of the whole's
    have M : Mat (FF ts n) ts.length (fun b => if ma (b + 1) ≤ 0 then -1 else ma (b + 1) - 1) := by
      refine ⟨fun b hb => ?_, fun b b' hb hb' h0 e => ?_⟩
      · by_cases hm : ma (b + 1) ≤ 0
        · rw [if_pos hm]; exact .inl rfl
        · rw [if_neg hm]
          rcases Ma.val (b + 1) (by omega) with q | ⟨a, q, ha, hf⟩
          · omega
          · obtain ⟨c, rfl⟩ : ∃ c, a = c + 1 := ⟨a - 1, by omega⟩
            refine .inr ⟨c, by rw [q]; omega, by omega, ?_⟩
            unfold FF at hf ⊢
            rw [tkA_cons, tkA_cons] at hf
            exact hf
      · by_cases hm : ma (b + 1) ≤ 0
        · rw [if_pos hm] at h0; omega
        · rw [if_neg hm] at e
          by_cases hm' : ma (b' + 1) ≤ 0
          · rw [if_pos hm'] at e; omega
          · rw [if_neg hm'] at e
            have := Ma.inj (b + 1) (b' + 1) (by omega) (by omega) (by omega) (by omega)
            omega
    have hk := b5 _ M
    have hsum : szM ma (ts.length + 1) ≤ szM (fun b => if ma (b + 1) ≤ 0 then -1 else ma (b + 1) - 1) ts.length + 2 := by
      show sumTo (fun b => if 0 ≤ ma b then (1 : Int) else 0) (ts.length + 1) ≤ sumTo (fun i => if 0 ≤ (if ma (i + 1) ≤ 0 then -1 else ma (i + 1) - 1) then (1 : Int) else 0) ts.length + 2
      rw [sumTo_shift]
      have s1 : sumTo (fun i => if 0 ≤ ma (i + 1) then (1 : Int) else 0) ts.length ≤ sumTo (fun i => (if 0 ≤ (if ma (i + 1) ≤ 0 then -1 else ma (i + 1) - 1) then (1 : Int) else 0) + (if ma (i + 1) = 0 then (1 : Int) else 0)) ts.length := by
        refine sumTo_le (fun i _ => ?_)
        by_cases q1 : ma (i + 1) ≤ 0
        · by_cases q2 : ma (i + 1) = 0
          · simp [q2]
          · rw [if_neg (by omega), if_pos q1]; simp [q2]
        · rw [if_pos (by omega), if_neg q1, if_pos (by omega)]
          split <;> omega
      rw [sumTo_add] at s1
      have s2 : sumTo (fun i => if ma (i + 1) = 0 then (1 : Int) else 0) ts.length ≤ 1 := sumTo_once (f := fun i => ma (i + 1) = 0) (fun i j hi hj e1 e2 => by
        have := Ma.inj (i + 1) (j + 1) (by omega) (by omega) (by omega) (by omega)
        omega)
      have s3 : (if 0 ≤ ma 0 then (1 : Int) else 0) ≤ 1 := by split <;> omega
      omega
    omega
  · -- the whole's matching out of the tail's
    have M : Mat (FF (t :: ts) n) (ts.length + 1) (fun b => if b = 0 then -1 else if mb (b - 1) < 0 then -1 else mb (b - 1) + 1) := by
      refine ⟨fun b hb => ?_, fun b b' hb hb' h0 e => ?_⟩
      · by_cases hb0 : b = 0
        · rw [if_pos hb0]; exact .inl rfl
        · rw [if_neg hb0]
          obtain ⟨c, rfl⟩ : ∃ c, b = c + 1 := ⟨b - 1, by omega⟩
          rw [Nat.add_sub_cancel]
          rcases Mb.val c (by omega) with q | ⟨a, q, ha, hf⟩
          · rw [if_pos (by omega)]; exact .inl rfl
          · rw [if_neg (by omega)]
            refine .inr ⟨a + 1, by rw [q]; rfl, by omega, ?_⟩
            unfold FF at hf ⊢
            rw [tkA_cons, tkA_cons]
            exact hf
      · by_cases hb0 : b = 0
        · rw [if_pos hb0] at h0; omega
        · rw [if_neg hb0] at h0 e
          by_cases q1 : mb (b - 1) < 0
          · rw [if_pos q1] at h0; omega
          · rw [if_neg q1] at e
            by_cases hb1 : b' = 0
            · rw [if_pos hb1] at e; omega
            · rw [if_neg hb1] at e
              by_cases q2 : mb (b' - 1) < 0
              · rw [if_pos q2] at e; omega
              · rw [if_neg q2] at e
                have := Mb.inj (b - 1) (b' - 1) (by omega) (by omega) (by omega) (by omega)
                omega
    have hk := a5 _ M
    have hsum : szM (fun b => if b = 0 then -1 else if mb (b - 1) < 0 then -1 else mb (b - 1) + 1) (ts.length + 1) = szM mb ts.length := by
      unfold szM
      rw [sumTo_shift]
      have : (if (0 : Int) ≤ (if (0 : Nat) = 0 then -1 else if mb (0 - 1) < 0 then -1 else mb (0 - 1) + 1) then (1 : Int) else 0) = 0 := by simp
      rw [this, Int.zero_add]
      refine sumTo_congr (fun i _ => ?_)
      simp only [Nat.add_sub_cancel, if_neg (Nat.succ_ne_zero i)]
      by_cases q : mb i < 0
      · rw [if_pos q, if_neg (by omega), if_neg (by omega)]
      · rw [if_neg q, if_pos (by omega), if_pos (by omega)]
    omega
end Go.Proofs.Ytbnhkkaiohmllaa
