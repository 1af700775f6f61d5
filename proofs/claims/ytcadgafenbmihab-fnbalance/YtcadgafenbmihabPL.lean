import Derived.Test.YtcadgafenbmihabFN
namespace Fl
open Ieee Go

abbrev k1 : Nat := 4607182418800017408
abbrev k5000 : Nat := 4662219572839972864
abbrev k1000 : Nat := 4652007308841189376
abbrev k100 : Nat := 4636737291354636288
abbrev k100000 : Nat := 4681608360884174848
abbrev k10000 : Nat := 4666723172467343360
abbrev k200 : Nat := 4641240890982006784
abbrev km1 : Nat := 13830554455654793216
abbrev k10 : Nat := 4621819117588971520

structure Car where
  m : Nat
  a : Nat
  b : Nat
  c : Nat
structure Loco where
  p : Nat
  g : Nat

def carOk (c : Car) : Bool := inR c.m k1 k5000 && inR c.a 0 k1000 && inR c.b 0 k100 && inR c.c 0 k100
def locoOk (l : Loco) : Bool := inR l.p k1 k100000 && inR l.g k1 k10000
def spd (v : Nat) : Bool := inR v 0 k200
def slp (v : Nat) : Bool := inR v km1 k1
def spn (v : Nat) : Bool := inR v 0 k10
def resist (c : Car) (v : Nat) : Nat := if (carOk c && spd v) = true then fadd (fadd c.a (fmul c.b v)) (fmul (fmul c.c v) v) else 0
def effort (l : Loco) (v : Nat) : Nat := if (locoOk l && spd v) = true then (if (feq v 0 || fgt (fdiv l.p v) l.g) = true then l.g else fdiv l.p v) else 0

theorem bd0 (e : Nat) : Bd e 0 := by unfold Bd rg; omega
theorem spd_bd {v : Nat} (h : spd v = true) : Bd 1031 v := inR_bd (bd0 _) (by unfold Bd rg; decide) (by decide) h
theorem slp_bd {v : Nat} (h : slp v = true) : Bd 1023 v := inR_bd (by unfold Bd rg; decide) (by unfold Bd rg; decide) (by decide) h
theorem spn_bd {v : Nat} (h : spn v = true) : Bd 1027 v := inR_bd (bd0 _) (by unfold Bd rg; decide) (by decide) h
theorem car_bd {c : Car} (h : carOk c = true) : Bd 1036 c.m ∧ Bd 1033 c.a ∧ Bd 1030 c.b ∧ Bd 1030 c.c := by
  simp only [carOk, Bool.and_eq_true] at h
  obtain ⟨⟨⟨h1, h2⟩, h3⟩, h4⟩ := h
  exact ⟨inR_bd (by unfold Bd rg; decide) (by unfold Bd rg; decide) (by decide) h1, inR_bd (bd0 _) (by unfold Bd rg; decide) (by decide) h2,
    inR_bd (bd0 _) (by unfold Bd rg; decide) (by decide) h3, inR_bd (bd0 _) (by unfold Bd rg; decide) (by decide) h4⟩
theorem loco_bd {l : Loco} (h : locoOk l = true) : Bd 1040 l.p ∧ Bd 1037 l.g := by
  simp only [locoOk, Bool.and_eq_true] at h
  exact ⟨inR_bd (by unfold Bd rg; decide) (by unfold Bd rg; decide) (by decide) h.1, inR_bd (by unfold Bd rg; decide) (by unfold Bd rg; decide) (by decide) h.2⟩

theorem fin0 : fin 0 := (bd0 1).fin (by decide)
theorem fin1 : fin k1 := by unfold fin rg; decide
theorem fin200 : fin k200 := by unfold fin rg; decide
theorem fv0 : fv 0 = 0 := by
  unfold fv; rw [show rg 0 = 0 by unfold rg; omega, mg_zero]; simp
/-- A unit, in units of 2 ^ -1074. -/
def P2 (k : Nat) : Nat := 2 ^ k
theorem P2_pos (k : Nat) : 0 < P2 k := Nat.two_pow_pos k
theorem P2_le {k x : Nat} (h : P2 k ≤ x) : 2 ^ k ≤ x := h
def U : Nat := P2 (51 + 1023)
theorem U_eq : U = P2 1074 := congrArg P2 rfl
theorem fv_lit {x e : Nat} (h1 : rg x = e * 2 ^ 52) (h2 : sg x = false) (he : 0 < e) : fv x = (P2 (51 + e) : Int) := by
  unfold fv P2
  rw [h1, h2, mg_pow e he]
  rfl
theorem fv1 : fv k1 = (U : Int) := fv_lit (e := 1023) (by unfold rg; decide) (by unfold sg; decide) (by decide)
theorem fv_pos {x : Nat} (h : 0 < fv x) : sg x = false := by
  unfold fv at h
  cases hs : sg x
  · rfl
  · rw [hs] at h; simp only [if_true] at h; omega
theorem rg_pos {x : Nat} (h : fv x ≠ 0) : 0 < rg x := by
  apply Nat.pos_of_ne_zero
  intro h0
  apply h
  unfold fv
  rw [h0, mg_zero]; simp
theorem one_pos : (0 : Int) < (U : Int) := Int.natCast_pos.2 (P2_pos _)

theorem resist_v {c : Car} {v : Nat} (hc : carOk c = true) (hv : spd v = true) :
    floatBits .mul .f64 c.b v = some (fmul c.b v) ∧ floatBits .mul .f64 c.c v = some (fmul c.c v) ∧ floatBits .mul .f64 (fmul c.c v) v = some (fmul (fmul c.c v) v) ∧
    floatBits .add .f64 c.a (fmul c.b v) = some (fadd c.a (fmul c.b v)) ∧
    floatBits .add .f64 (fadd c.a (fmul c.b v)) (fmul (fmul c.c v) v) = some (fadd (fadd c.a (fmul c.b v)) (fmul (fmul c.c v) v)) ∧
    Bd 1047 (fadd (fadd c.a (fmul c.b v)) (fmul (fmul c.c v) v)) := by
  obtain ⟨-, ha, hb, hcc⟩ := car_bd hc
  have hv := spd_bd hv
  obtain ⟨b1, b2⟩ := vmul 1038 hb hv (by decide) (by decide) (by decide) (by decide) (by decide) (by decide) (by decide)
  obtain ⟨c1, c2⟩ := vmul 1038 hcc hv (by decide) (by decide) (by decide) (by decide) (by decide) (by decide) (by decide)
  obtain ⟨d1, d2⟩ := vmul 1046 c2 hv (by decide) (by decide) (by decide) (by decide) (by decide) (by decide) (by decide)
  obtain ⟨e1, e2, -⟩ := vadd (ha.mono (by decide)) b2 (by decide) (by decide)
  obtain ⟨f1, f2, -⟩ := vadd (e2.mono (by decide)) d2 (by decide) (by decide)
  exact ⟨b1, c1, d1, e1, f1, f2⟩

theorem resist_bd (c : Car) (v : Nat) : Bd 1047 (resist c v) := by
  unfold resist
  split
  · rename_i h
    simp only [Bool.and_eq_true] at h
    exact (resist_v h.1 h.2).2.2.2.2.2
  · exact bd0 _

theorem effort_v {l : Loco} {v : Nat} (hl : locoOk l = true) (hv : spd v = true) (h0 : feq v 0 = false) :
    floatBits .quo .f64 l.p v = some (fdiv l.p v) ∧ (fgt (fdiv l.p v) l.g = false → Bd 1037 (fdiv l.p v)) := by
  obtain ⟨bp, bg⟩ := loco_bd hl
  have bv := spd_bd hv
  have fp := bp.fin (by decide)
  have fg := bg.fin (by decide)
  have fvv := bv.fin (by decide)
  have n0 : fv v ≠ 0 := by
    rw [feq_eq fvv fin0, fv0] at h0
    simpa using h0
  obtain ⟨q1, q2, q3, -⟩ := vdiv fp fvv (rg_pos n0)
  refine ⟨q1, ?_⟩
  intro hg
  have sp : sg l.p = false := by
    simp only [locoOk, Bool.and_eq_true] at hl
    have := (inR_fin fin1 (by unfold fin rg; decide) hl.1).2.1
    rw [fv1] at this
    exact fv_pos (Int.lt_of_lt_of_le one_pos this)
  have sv : sg v = false := by
    have := (inR_fin fin0 fin200 hv).2.1
    rw [fv0] at this
    exact fv_pos (by omega)
  rw [sp, sv] at q3
  have q3 : sg (fdiv l.p v) = false := q3
  have hfin : fin (fdiv l.p v) := by
    apply Nat.lt_of_not_le
    intro hge
    have he : rg (fdiv l.p v) = 2047 * 2 ^ 52 := Nat.le_antisymm q2 hge
    unfold fgt at hg
    rw [ford_eq, order_if he fg, q3] at hg
    simp at hg
  rw [fgt_eq hfin fg] at hg
  have hle : fv (fdiv l.p v) ≤ fv l.g := by simpa using hg
  refine rg_of_mg hfin ?_ (by decide)
  have h1 := mg_mono bg
  rw [← fv_abs l.g] at h1
  have h2 : fv (fdiv l.p v) = mg (rg (fdiv l.p v)) := by unfold fv; rw [q3]; rfl
  omega

theorem effort_bd (l : Loco) (v : Nat) : Bd 1037 (effort l v) := by
  unfold effort
  split
  · rename_i h
    simp only [Bool.and_eq_true] at h
    split
    · exact (loco_bd h.1).2
    · rename_i h2
      simp only [Bool.or_eq_true, not_or, Bool.not_eq_true] at h2
      exact (effort_v h.1 h.2 h2.1).2 h2.2
  · exact bd0 _

/-- The sums. -/
def weighFrom (s : Nat) (cs : List Car) : Nat := cs.foldl (fun s c => fadd s c.m) s
def dragFrom (v sl s : Nat) (cs : List Car) : Nat := cs.foldl (fun s c => fadd (fadd s (resist c v)) (fmul c.m sl)) s
theorem weighFrom_app (s : Nat) (cs : List Car) (c : Car) : weighFrom s (cs ++ [c]) = fadd (weighFrom s cs) c.m := by simp [weighFrom]
theorem dragFrom_app (v sl s : Nat) (cs : List Car) (c : Car) : dragFrom v sl s (cs ++ [c]) = fadd (fadd (dragFrom v sl s cs) (resist c v)) (fmul c.m sl) := by simp [dragFrom]

theorem weigh_bd (cs : List Car) : ∀ (s e : Nat), (∀ c ∈ cs, carOk c = true) → Bd e s → 1036 ≤ e → e + cs.length < 2047 → Bd (e + cs.length) (weighFrom s cs) := by
  induction cs with
  | nil => intro s e _ h _ _; exact h
  | cons c cs ih =>
    intro s e hc h he h2
    obtain ⟨-, h1, -⟩ := vadd h ((car_bd (hc c (by simp))).1.mono he) (by omega) (by simp at h2; omega)
    have h3 := ih (fadd s c.m) (e + 1) (fun d hd => hc d (by simp [hd])) h1 (by omega) (by simp at h2; omega)
    rw [show e + (c :: cs).length = e + 1 + cs.length by simp; omega]
    exact h3

theorem drag_bd (v sl : Nat) (hs : slp sl = true) (cs : List Car) : ∀ (s e : Nat), (∀ c ∈ cs, carOk c = true) → Bd e s → 1047 ≤ e → e + 2 * cs.length < 2047 → Bd (e + 2 * cs.length) (dragFrom v sl s cs) := by
  induction cs with
  | nil => intro s e _ h _ _; exact h
  | cons c cs ih =>
    intro s e hc h he h2
    have hl : (c :: cs).length = cs.length + 1 := rfl
    rw [hl] at h2
    obtain ⟨-, h1, -⟩ := vadd h ((resist_bd c v).mono he) (by omega) (by omega)
    obtain ⟨-, m1⟩ := vmul 1036 (car_bd (hc c (by simp))).1 (slp_bd hs) (by decide) (by decide) (by decide) (by decide) (by decide) (by decide) (by decide)
    obtain ⟨-, h1', -⟩ := vadd h1 (m1.mono (show 1036 ≤ e + 1 by omega)) (by omega) (by omega)
    have h3 := ih _ (e + 2) (fun d hd => hc d (by simp [hd])) h1' (by omega) (by omega)
    rw [hl, show e + 2 * (cs.length + 1) = e + 2 + 2 * cs.length by omega]
    exact h3

theorem weigh_ge (cs : List Car) : ∀ (s e : Nat), (∀ c ∈ cs, carOk c = true) → Bd e s → 1036 ≤ e → e + cs.length < 2047 → 0 ≤ fv s → (cs ≠ [] ∨ (U : Int) ≤ fv s) → (U : Int) ≤ fv (weighFrom s cs) := by
  induction cs with
  | nil => intro s e _ _ _ _ _ h; rcases h with h | h <;> simp_all [weighFrom]
  | cons c cs ih =>
    intro s e hc h he h2 h0 _
    have hl : (c :: cs).length = cs.length + 1 := rfl
    rw [hl] at h2
    have hcc := hc c (by simp)
    have bm := (car_bd hcc).1
    have m1 : (U : Int) ≤ fv c.m := by
      simp only [carOk, Bool.and_eq_true] at hcc
      have := (inR_fin fin1 (by unfold fin rg; decide) hcc.1.1.1).2.1
      rwa [fv1] at this
    obtain ⟨-, h1, h3⟩ := vadd h (bm.mono he) (by omega) (by omega)
    have h4 : fv c.m ≤ fv (fadd s c.m) := by
      rw [h3, ← rv_fv (bm.fin (by decide))]
      exact rv_mono (by rw [rv_fv (bm.fin (by decide))]; omega)
    have h5 := Int.le_trans m1 h4
    exact ih _ (e + 1) (fun d hd => hc d (by simp [hd])) h1 (by omega) (by omega) (Int.le_trans (Int.le_of_lt one_pos) h5) (.inr h5)

/-- A first one is added to nought as it is. -/
theorem fadd_zero {x : Nat} (hx : fin x) (hp : 0 < fv x) (h64 : x < 2 ^ 64) : fadd 0 x = x := by
  have h := add_eq fin0 hx
  unfold fadd
  rw [h, fv0, Int.zero_add]
  show put _ _ = x
  unfold put
  rw [if_neg (by omega), show decide (fv x < 0) = false by simp; omega, fv_abs]
  have h1 := rr_mg 0 (rg x) (by rw [infRung_eq]; exact hx)
  rw [Nat.pow_zero, Nat.mul_one] at h1
  rw [h1]
  have := word_self h64
  rwa [fv_pos hp] at this

end Fl
