/- Trains: what the sums come to, step by step. -/
import Derived.Test.YtcadgafenbmihabPL
namespace Fl
open Ieee Go

def Car.zero : Car := ⟨0, 0, 0, 0⟩
def lenOk (n : Nat) : Bool := decide (1 ≤ (n : Int) ∧ (n : Int) ≤ 40)
def okTo (cs : List Car) (k : Nat) : Bool := (cs.take k).all carOk
def trainOk (cs : List Car) : Bool := lenOk cs.length && okTo cs cs.length

theorem okTo_succ {cs : List Car} {k : Nat} (hk : k < cs.length) (h : okTo cs k = true) (g : carOk cs[k] = true) : okTo cs (k + 1) = true := by
  unfold okTo at *
  rw [List.take_succ_eq_append_getElem hk, List.all_append, h]
  simp [g]
theorem okTo_at {cs : List Car} {k i : Nat} (h : okTo cs k = true) (hi : i < k) (hk : i < cs.length) : carOk cs[i] = true := by
  unfold okTo at h
  rw [List.all_eq_true] at h
  refine h _ ?_
  rw [List.mem_take_iff_getElem]
  exact ⟨i, by omega, rfl⟩
theorem train_bad {cs : List Car} {k : Nat} (hk : k < cs.length) (g : carOk cs[k] = false) : trainOk cs = false := by
  unfold trainOk
  cases h : okTo cs cs.length
  · simp
  · rw [okTo_at h hk hk] at g; cases g
theorem okTo_bad {cs : List Car} {k : Nat} (hk : k < cs.length) (g : carOk cs[k] = false) : okTo cs cs.length = false := by
  cases h : okTo cs cs.length
  · rfl
  · rw [okTo_at h hk hk] at g; cases g
theorem train_all {cs : List Car} (h : okTo cs cs.length = true) : trainOk cs = lenOk cs.length := by unfold trainOk; rw [h, Bool.and_true]
theorem train_len {cs : List Car} (h : trainOk cs = true) : 1 ≤ cs.length ∧ cs.length ≤ 40 := by
  unfold trainOk lenOk at h
  simp only [Bool.and_eq_true, decide_eq_true_eq] at h
  omega
theorem train_ok {cs : List Car} (h : trainOk cs = true) : ∀ c ∈ cs, carOk c = true := by
  unfold trainOk okTo at h
  rw [List.take_length, Bool.and_eq_true, List.all_eq_true] at h
  exact h.2
theorem train_take {cs : List Car} (h : trainOk cs = true) (k : Nat) : ∀ c ∈ cs.take k, carOk c = true :=
  fun c hc => train_ok h c (List.mem_of_mem_take hc)

def weigh (cs : List Car) : Nat := if trainOk cs = true then weighFrom 0 cs else 0
def drag (cs : List Car) (v sl : Nat) : Nat := if (trainOk cs && spd v && slp sl) = true then dragFrom v sl 0 cs else 0

theorem weigh_take {cs : List Car} (h : trainOk cs = true) {k : Nat} (hk : k ≤ cs.length) : Bd (1036 + k) (weighFrom 0 (cs.take k)) := by
  have hl := (train_len h).2
  have e : (cs.take k).length = k := by simp; omega
  have := weigh_bd (cs.take k) 0 1036 (train_take h k) (bd0 _) (by decide) (by omega)
  rwa [e] at this
theorem weigh_step {cs : List Car} (h : trainOk cs = true) {k : Nat} (hk : k < cs.length) :
    floatBits .add .f64 (weighFrom 0 (cs.take k)) cs[k].m = some (weighFrom 0 (cs.take (k + 1))) := by
  have hl := (train_len h).2
  rw [List.take_succ_eq_append_getElem hk, weighFrom_app]
  have bm := (car_bd (train_ok h cs[k] (List.getElem_mem hk))).1
  exact (vadd (weigh_take h (Nat.le_of_lt hk)) (bm.mono (by omega)) (by omega) (by omega)).1
theorem drag_take {cs : List Car} {v sl : Nat} (h : trainOk cs = true) (hs : slp sl = true) {k : Nat} (hk : k ≤ cs.length) : Bd (1047 + 2 * k) (dragFrom v sl 0 (cs.take k)) := by
  have hl := (train_len h).2
  have e : (cs.take k).length = k := by simp; omega
  have := drag_bd v sl hs (cs.take k) 0 1047 (train_take h k) (bd0 _) (by decide) (by omega)
  rwa [e] at this
theorem drag_step {cs : List Car} {v sl : Nat} (h : trainOk cs = true) (hs : slp sl = true) {k : Nat} (hk : k < cs.length) :
    floatBits .add .f64 (dragFrom v sl 0 (cs.take k)) (resist cs[k] v) = some (fadd (dragFrom v sl 0 (cs.take k)) (resist cs[k] v)) ∧
    floatBits .mul .f64 cs[k].m sl = some (fmul cs[k].m sl) ∧
    floatBits .add .f64 (fadd (dragFrom v sl 0 (cs.take k)) (resist cs[k] v)) (fmul cs[k].m sl) = some (dragFrom v sl 0 (cs.take (k + 1))) := by
  have hl := (train_len h).2
  have bd := drag_take (v := v) h hs (Nat.le_of_lt hk)
  obtain ⟨h1, h2, -⟩ := vadd bd ((resist_bd cs[k] v).mono (by omega)) (by omega) (by omega)
  have bm := (car_bd (train_ok h cs[k] (List.getElem_mem hk))).1
  obtain ⟨m0, m1⟩ := vmul 1036 bm (slp_bd hs) (by decide) (by decide) (by decide) (by decide) (by decide) (by decide) (by decide)
  obtain ⟨h3, -, -⟩ := vadd h2 (m1.mono (show 1036 ≤ 1047 + 2 * k + 1 by omega)) (by omega) (by omega)
  rw [List.take_succ_eq_append_getElem hk, dragFrom_app]
  exact ⟨h1, m0, h3⟩

theorem mass_ge {c : Car} (h : carOk c = true) : (U : Int) ≤ fv c.m := by
  simp only [carOk, Bool.and_eq_true] at h
  have := (inR_fin fin1 (by unfold fin rg; decide) h.1.1.1).2.1
  rwa [fv1] at this
/-- The first mass, added to nought. -/
theorem weigh_one {cs : List Car} (h : trainOk cs = true) (h0 : 0 < cs.length) (hm : cs[0].m < 2 ^ 64) : weighFrom 0 (cs.take 1) = cs[0].m := by
  have e : cs.take 1 = [cs[0]] := by
    rw [List.take_succ_eq_append_getElem h0]; simp
  have hc := train_ok h cs[0] (List.getElem_mem h0)
  rw [e]
  show fadd 0 cs[0].m = _
  exact fadd_zero ((car_bd hc).1.fin (by decide)) (Int.lt_of_lt_of_le one_pos (mass_ge hc)) hm

theorem drag_all {cs : List Car} {v sl : Nat} : Bd 1127 (drag cs v sl) := by
  unfold drag
  split
  · rename_i h
    simp only [Bool.and_eq_true] at h
    have h1 := drag_take (v := v) h.1.1 h.2 (Nat.le_refl _)
    rw [List.take_length] at h1
    have := (train_len h.1.1).2
    exact h1.mono (by omega)
  · exact bd0 _
theorem weigh_all {cs : List Car} (h : trainOk cs = true) : Bd 1076 (weigh cs) ∧ (U : Int) ≤ fv (weigh cs) := by
  have hl := train_len h
  unfold weigh
  rw [if_pos h]
  have h1 := weigh_take h (Nat.le_refl _)
  rw [List.take_length] at h1
  refine ⟨h1.mono (by omega), ?_⟩
  refine weigh_ge cs 0 1036 (train_ok h) (bd0 _) (by decide) (by omega) (by rw [fv0]; decide) (.inl ?_)
  rintro rfl
  simp at hl

def held (x : Nat) : Nat := if fle x 0 = true then 0 else if flt k200 x = true then k200 else x
def accel (l : Loco) (cs : List Car) (v sl : Nat) : Nat := fdiv (fsub (effort l v) (drag cs v sl)) (weigh cs)
def next (l : Loco) (cs : List Car) (v sl sp : Nat) : Nat := fadd v (fmul (accel l cs v sl) sp)
def pull (l : Loco) (cs : List Car) (v sl sp : Nat) : Nat :=
  if (locoOk l && trainOk cs && spd v && slp sl && spn sp) = true then held (next l cs v sl sp) else 0

theorem next_v {l : Loco} {cs : List Car} {v sl sp : Nat} (ht : trainOk cs = true) (hv : spd v = true) (hp : spn sp = true) :
    floatBits .sub .f64 (effort l v) (drag cs v sl) = some (fsub (effort l v) (drag cs v sl)) ∧
    floatBits .quo .f64 (fsub (effort l v) (drag cs v sl)) (weigh cs) = some (accel l cs v sl) ∧
    floatBits .mul .f64 (accel l cs v sl) sp = some (fmul (accel l cs v sl) sp) ∧
    floatBits .add .f64 v (fmul (accel l cs v sl) sp) = some (next l cs v sl sp) ∧ Bd 1134 (next l cs v sl sp) ∧
    Bd 1129 (accel l cs v sl) ∧ fv (next l cs v sl sp) = rv (fv v + fv (fmul (accel l cs v sl) sp)) := by
  obtain ⟨w1, w2⟩ := weigh_all ht
  obtain ⟨s1, s2⟩ := vsub ((effort_bd l v).mono (show 1037 ≤ 1127 by decide)) (drag_all (cs := cs) (v := v) (sl := sl)) (by decide) (by decide)
  have wp : fv (weigh cs) ≠ 0 := by have := one_pos; omega
  have wm : U ≤ mg (rg (weigh cs)) := by rw [← fv_abs]; omega
  obtain ⟨d1, -, -, d4⟩ := vdiv (s2.fin (by decide)) (w1.fin (by decide)) (rg_pos wp)
  rw [U_eq] at wm
  have d5 := d4 1128 (by decide) (by decide) s2 (P2_le (k := 1074) wm)
  obtain ⟨m1, m2⟩ := vmul 1133 d5 (spn_bd hp) (by decide) (by decide) (by decide) (by decide) (by decide) (by decide) (by decide)
  obtain ⟨a1, a2, a3⟩ := vadd ((spd_bd hv).mono (show 1031 ≤ 1133 by decide)) m2 (by decide) (by decide)
  exact ⟨s1, d1, m1, a1, a2, d5, a3⟩

theorem held_spd {x : Nat} (hx : fin x) : spd (held x) = true := by
  have h0 : spd 0 = true := by
    unfold spd inR
    rw [fle_eq fin0 fin0, fle_eq fin0 fin200, fv0]
    have : (0 : Int) ≤ fv k200 := by unfold fv; rw [show sg k200 = false by unfold sg; decide]; simp
    simp [this]
  unfold held
  split
  · exact h0
  · rename_i h1
    rw [fle_eq hx fin0, fv0] at h1
    have h1 : 0 < fv x := by simpa using h1
    split
    · unfold spd inR
      rw [fle_eq fin0 fin200, fle_eq fin200 fin200, fv0]
      have : (0 : Int) ≤ fv k200 := by unfold fv; rw [show sg k200 = false by unfold sg; decide]; simp
      simp [this]
    · rename_i h2
      rw [flt_eq fin200 hx] at h2
      have h2 : fv x ≤ fv k200 := by simpa using h2
      unfold spd inR
      rw [fle_eq fin0 hx, fle_eq hx fin200, fv0]
      simp [h2]; omega

/-- The other text's way of holding a speed. -/
theorem held_eq {x : Nat} (hx : fin x) : held x = if fgt x 0 = true then (if fgt x k200 = true then k200 else x) else 0 := by
  unfold held
  rw [fle_eq hx fin0, flt_eq fin200 hx, fgt_eq hx fin0, fgt_eq hx fin200, fv0]
  by_cases h : fv x ≤ 0
  · have h' : ¬ (0 < fv x) := by omega
    simp [h, h']
  · have h' : 0 < fv x := by omega
    simp [h, h']

theorem pull_spd {l : Loco} {cs : List Car} {v sl sp : Nat} (ht : trainOk cs = true) (hv : spd v = true) (hp : spn sp = true) : spd (held (next l cs v sl sp)) = true := by
  obtain ⟨-, -, -, -, b, -, -⟩ := next_v (l := l) (sl := sl) ht hv hp
  exact held_spd (b.fin (by decide))

end Fl
