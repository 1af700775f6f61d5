/- The mathematics of fares, cards and refunds. -/
import Derived.Test.YtepdnaahhkkdeaaTF
namespace Go.Proofs.Ytepdnaahhkkdeaa
open Go.RowKit
theorem all_drop {α : Type} {P : α → Bool} {zs : List α} {k : Nat} (hk : k < zs.length) : (zs.drop k).all P = (P zs[k] && (zs.drop (k + 1)).all P) := by
  rw [List.drop_eq_getElem_cons hk, List.all_cons]
def feeB (x : Int) : Bool := inB x 0 100000
def zonB (x : Int) : Bool := inB x 0 19
def payB (x : Int) : Bool := inB x 0 10000000
def minB (x : Int) : Bool := inB x 0 100000
/-- Is the tariff right? -/
def tfB (b s : Int) (js : List Int) (r : Int) : Bool := feeB b && (feeB s && (inB r 1 100 && (decide (js.length ≤ 20) && js.all feeB)))
theorem tf_b {b s r : Int} {js : List Int} (h : feeB b = false) : tfB b s js r = false := by simp only [tfB, h, Bool.false_and]
theorem tf_s {b s r : Int} {js : List Int} (h : feeB s = false) : tfB b s js r = false := by simp only [tfB, h, Bool.false_and, Bool.and_false]
theorem tf_r {b s r : Int} {js : List Int} (h : inB r 1 100 = false) : tfB b s js r = false := by simp only [tfB, h, Bool.false_and, Bool.and_false]
theorem tf_n {b s r : Int} {js : List Int} (h : ¬ js.length ≤ 20) : tfB b s js r = false := by simp only [tfB, h, decide_false, Bool.false_and, Bool.and_false]
theorem tf_j {b s r : Int} {js : List Int} (h0 : feeB b = true) (h1 : feeB s = true) (h2 : inB r 1 100 = true) (h3 : js.length ≤ 20) : tfB b s js r = js.all feeB := by
  simp only [tfB, h0, h1, h2, h3, decide_true, Bool.true_and]
/-- What a right tariff is. -/
structure Tf (b s : Int) (js : List Int) (r : Int) : Prop where
  b0 : 0 ≤ b
  b1 : b ≤ 100000
  s0 : 0 ≤ s
  s1 : s ≤ 100000
  r0 : 1 ≤ r
  r1 : r ≤ 100
  n : js.length ≤ 20
  j : ∀ i, 0 ≤ js.getD i 0 ∧ js.getD i 0 ≤ 100000
theorem fee_at {zs : List Int} (h : zs.all feeB = true) (i : Nat) : 0 ≤ zs.getD i 0 ∧ zs.getD i 0 ≤ 100000 := by
  by_cases hi : i < zs.length
  · rw [List.all_eq_true] at h
    have := h zs[i] (List.getElem_mem hi)
    have e : zs.getD i 0 = zs[i] := by simp [List.getD, hi]
    rw [e]
    exact inB_true this
  · have e : zs.getD i 0 = 0 := by simp [List.getD, hi]
    omega
theorem Tf.of {b s r : Int} {js : List Int} (h : tfB b s js r = true) : Tf b s js r := by
  simp only [tfB, Bool.and_eq_true, decide_eq_true_eq] at h
  obtain ⟨h0, h1, h2, h3, h4⟩ := h
  have a0 := inB_true h0
  have a1 := inB_true h1
  have a2 := inB_true h2
  exact ⟨a0.1, a0.2, a1.1, a1.2, a2.1, a2.2, h3, fee_at h4⟩
/-- Down to a multiple of r. -/
def dn (r x : Int) : Int := x - x.tmod r
theorem dn_in {r x : Int} (hr : 1 ≤ r) (hx : 0 ≤ x) : 0 ≤ x.tmod r ∧ x.tmod r < r ∧ x.tmod r ≤ x ∧ 0 ≤ dn r x ∧ dn r x ≤ x ∧ x < dn r x + r := by
  unfold dn
  rw [Int.tmod_eq_emod_of_nonneg hx]
  have h1 := Int.emod_nonneg x (show r ≠ 0 by omega)
  have h2 := Int.emod_lt_of_pos x (show 0 < r by omega)
  have h3 : x % r ≤ x := by
    have e1 := Int.emod_add_mul_ediv x r
    have e2 : 0 ≤ r * (x / r) := Int.mul_nonneg (by omega) (Int.ediv_nonneg hx (by omega))
    omega
  omega
theorem dn_div (r x : Int) : x.tdiv r * r = dn r x := by
  unfold dn
  have := Int.tdiv_mul_add_tmod x r
  omega
theorem dn_mul (r x : Int) : (dn r x).tmod r = 0 := by
  rw [← dn_div]; exact Int.mul_tmod_left _ _
theorem dn_id {r x : Int} (h : x.tmod r = 0) : dn r x = x := by unfold dn; omega
theorem dn_mono {r x y : Int} (hr : 1 ≤ r) (hx : 0 ≤ x) (h : x ≤ y) : dn r x ≤ dn r y := by
  rw [← dn_div, ← dn_div, Int.tdiv_eq_ediv_of_nonneg hx, Int.tdiv_eq_ediv_of_nonneg (by omega)]
  exact Int.mul_le_mul_of_nonneg_right (Int.ediv_le_ediv (by omega) h) (by omega)
/-- The jumps from place i on, m of them. -/
def jmp (js : List Int) (i : Nat) : Nat → Int
  | 0 => 0
  | m + 1 => jmp js i m + js.getD (i + m) 0
theorem jmp_beyond {js : List Int} {i k : Nat} (h : js.length ≤ i + k) : ∀ m, k ≤ m → jmp js i m = jmp js i k := by
  intro m hm
  induction m with
  | zero => have : k = 0 := by omega
            subst this; rfl
  | succ m ih =>
    by_cases e : k = m + 1
    · subst e; rfl
    · have hz : js.getD (i + m) 0 = 0 := by simp [List.getD, show ¬ i + m < js.length by omega]
      simp only [jmp, hz, ih (by omega), Int.add_zero]
theorem jmp_in {b s r : Int} {js : List Int} (h : Tf b s js r) (i m : Nat) : 0 ≤ jmp js i m ∧ jmp js i m ≤ 100000 * m := by
  induction m with
  | zero => simp [jmp]
  | succ m ih =>
    have := h.j (i + m)
    simp only [jmp]
    omega
/-- What a right ride costs, ahead of rounding. -/
def raw (b s : Int) (js : List Int) (lo hi : Nat) : Int := b + s * ((hi : Int) - lo) + jmp js lo (hi - lo)
theorem step_in {b s r : Int} {js : List Int} (h : Tf b s js r) {d : Int} (h0 : 0 ≤ d) (h1 : d ≤ 19) : 0 ≤ s * d ∧ s * d ≤ 1900000 := by
  have := h.s0
  have := h.s1
  refine ⟨Int.mul_nonneg h.s0 h0, ?_⟩
  have e1 : s * d ≤ s * 19 := Int.mul_le_mul_of_nonneg_left h1 h.s0
  omega
theorem raw_in {b s r : Int} {js : List Int} (h : Tf b s js r) {lo hi : Nat} (h0 : lo ≤ hi) (h1 : hi ≤ 19) : 0 ≤ raw b s js lo hi ∧ raw b s js lo hi ≤ 3900000 := by
  have a := step_in h (d := (hi : Int) - lo) (by omega) (by omega)
  have c := jmp_in h lo (hi - lo)
  have := h.b0
  have := h.b1
  unfold raw
  omega
/-- The fare of a right tariff between two zones. -/
def fareR (b s : Int) (js : List Int) (r : Int) (lo hi : Nat) : Int := dn r (raw b s js lo hi + r - 1)
theorem fareR_in {b s r : Int} {js : List Int} (h : Tf b s js r) {lo hi : Nat} (h0 : lo ≤ hi) (h1 : hi ≤ 19) : 0 ≤ fareR b s js r lo hi ∧ fareR b s js r lo hi ≤ 4000000 := by
  have a := raw_in h h0 h1
  have := h.r0
  have := h.r1
  have := dn_in (r := r) (x := raw b s js lo hi + r - 1) h.r0 (by omega)
  unfold fareR
  omega
/-- Fare. -/
def fareV (b s : Int) (js : List Int) (r x y : Int) : Int := if tfB b s js r && (zonB x && zonB y) then fareR b s js r (min x y).toNat (max x y).toNat else -1
theorem fareV_t {b s r x y : Int} {js : List Int} (h : tfB b s js r = false) : fareV b s js r x y = -1 := by simp [fareV, h]
theorem fareV_x {b s r x y : Int} {js : List Int} (h : zonB x = false) : fareV b s js r x y = -1 := by simp [fareV, h]
theorem fareV_y {b s r x y : Int} {js : List Int} (h : zonB y = false) : fareV b s js r x y = -1 := by simp [fareV, h]
theorem fareV_ok {b s r x y : Int} {js : List Int} (h : tfB b s js r = true) (hx : zonB x = true) (hy : zonB y = true) : fareV b s js r x y = fareR b s js r (min x y).toNat (max x y).toNat := by simp [fareV, h, hx, hy]
theorem fareV_symm (b s : Int) (js : List Int) (r x y : Int) : fareV b s js r x y = fareV b s js r y x := by
  have e1 : min x y = min y x := by omega
  have e2 : max x y = max y x := by omega
  have e3 : (zonB x && zonB y) = (zonB y && zonB x) := Bool.and_comm _ _
  unfold fareV
  rw [e1, e2, e3]
theorem fareV_in {b s r x y : Int} {js : List Int} (h : tfB b s js r = true) (hx : zonB x = true) (hy : zonB y = true) : 0 ≤ fareV b s js r x y ∧ fareV b s js r x y ≤ 4000000 := by
  have a := inB_true hx
  have c := inB_true hy
  rw [fareV_ok h hx hy]
  exact fareR_in (Tf.of h) (by omega) (by omega)
theorem fareV_le {b s r x y : Int} {js : List Int} (h : tfB b s js r = true) : fareV b s js r x y ≤ 4000000 := by
  cases hx : zonB x
  · rw [fareV_x hx]; omega
  cases hy : zonB y
  · rw [fareV_y hy]; omega
  exact (fareV_in h hx hy).2
/-- Is the card right? -/
def cardB (c : CardV) : Bool := inB c.p 0 100 && (feeB c.l && (decide (0 ≤ c.f) && (decide (c.f ≤ c.t) && decide (c.t ≤ 1439))))
def cardsB (cs : List CardV) : Bool := decide (cs.length ≤ 6) && cs.all cardB
structure Cd (c : CardV) : Prop where
  p0 : 0 ≤ c.p
  p1 : c.p ≤ 100
  l0 : 0 ≤ c.l
  l1 : c.l ≤ 100000
  f0 : 0 ≤ c.f
  f1 : c.f ≤ c.t
  t1 : c.t ≤ 1439
theorem Cd.of {c : CardV} (h : cardB c = true) : Cd c := by
  simp only [cardB, Bool.and_eq_true, decide_eq_true_eq] at h
  obtain ⟨h0, h1, h2, h3, h4⟩ := h
  have a0 := inB_true h0
  have a1 := inB_true h1
  exact ⟨a0.1, a0.2, a1.1, a1.2, h2, h3, h4⟩
theorem Cd.at {cs : List CardV} (h : cardsB cs = true) {i : Nat} (hi : i < cs.length) : Cd cs[i] := by
  simp only [cardsB, Bool.and_eq_true, List.all_eq_true] at h
  exact Cd.of (h.2 _ (List.getElem_mem hi))
theorem cards_len {cs : List CardV} (h : cardsB cs = true) : cs.length ≤ 6 := by
  simp only [cardsB, Bool.and_eq_true, decide_eq_true_eq] at h
  exact h.1
/-- Does the card count in this minute? -/
def cntB (m : Int) (c : CardV) : Bool := inB (m % 1440) c.f c.t
/-- What a card makes of a fare, ahead of its least. -/
def cut (r fare : Int) (c : CardV) : Int := dn r ((fare * (100 - c.p)).tdiv 100)
def priceC (r fare : Int) (c : CardV) : Int := min fare (max (cut r fare c) c.l)
theorem cut_in {r fare : Int} {c : CardV} (h : Cd c) (hr : 1 ≤ r) (h0 : 0 ≤ fare) (h1 : fare ≤ 10000000) :
    0 ≤ fare * (100 - c.p) ∧ fare * (100 - c.p) ≤ 1000000000 ∧ 0 ≤ (fare * (100 - c.p)).tdiv 100 ∧ (fare * (100 - c.p)).tdiv 100 ≤ fare ∧ 0 ≤ cut r fare c ∧ cut r fare c ≤ fare := by
  have a := h.p0
  have b := h.p1
  have e0 : 0 ≤ fare * (100 - c.p) := Int.mul_nonneg h0 (by omega)
  have e1 : fare * (100 - c.p) ≤ fare * 100 := Int.mul_le_mul_of_nonneg_left (by omega) h0
  have e2 : (fare * (100 - c.p)).tdiv 100 = (fare * (100 - c.p)) / 100 := Int.tdiv_eq_ediv_of_nonneg e0
  have e3 : 0 ≤ (fare * (100 - c.p)).tdiv 100 ∧ (fare * (100 - c.p)).tdiv 100 ≤ fare := by rw [e2]; omega
  have := dn_in (r := r) (x := (fare * (100 - c.p)).tdiv 100) hr e3.1
  unfold cut
  omega
/-- The least price over the first cards. -/
def cbest (r fare m : Int) : List CardV → Int
  | [] => fare
  | c :: cs => if cntB m c then min (priceC r fare c) (cbest r fare m cs) else cbest r fare m cs
theorem cbest_le (r fare m : Int) (cs : List CardV) : cbest r fare m cs ≤ fare := by
  induction cs with
  | nil => exact Int.le_refl _
  | cons c cs ih => simp only [cbest]; split <;> omega
theorem cbest_nonneg {r fare m : Int} (hr : 1 ≤ r) (h0 : 0 ≤ fare) (h1 : fare ≤ 10000000) : ∀ {cs : List CardV}, (∀ c ∈ cs, Cd c) → 0 ≤ cbest r fare m cs := by
  intro cs
  induction cs with
  | nil => intro _; exact h0
  | cons c cs ih =>
    intro h
    have i1 := ih fun x hx => h x (List.mem_cons_of_mem _ hx)
    have hc := h c List.mem_cons_self
    have := cut_in (r := r) hc hr h0 h1
    have := hc.l0
    simp only [cbest, priceC]
    split <;> omega
theorem cbest_app (r fare m : Int) (xs : List CardV) (c : CardV) : cbest r fare m (xs ++ [c]) = if cntB m c then min (cbest r fare m xs) (priceC r fare c) else cbest r fare m xs := by
  induction xs with
  | nil => 
    simp only [List.nil_append, cbest, priceC]
    split <;> omega
  | cons x xs ih =>
    simp only [List.cons_append, cbest, ih]
    split <;> split <;> omega
theorem cbest_take {r fare m : Int} {cs : List CardV} {k : Nat} (hk : k < cs.length) : cbest r fare m (cs.take (k + 1)) = if cntB m cs[k] then min (cbest r fare m (cs.take k)) (priceC r fare cs[k]) else cbest r fare m (cs.take k) := by
  rw [List.take_succ_eq_append_getElem hk, cbest_app]
theorem cbest_mem {r fare m : Int} {cs : List CardV} {c : CardV} (hc : c ∈ cs) (hn : cntB m c = true) : cbest r fare m cs ≤ priceC r fare c := by
  induction cs with
  | nil => cases hc
  | cons x cs ih =>
    rcases List.mem_cons.1 hc with rfl | h
    · simp only [cbest, hn, if_true]; omega
    · have := ih h
      simp only [cbest]; split <;> omega
/-- Carded. -/
def cardedV (b s : Int) (js : List Int) (r fare : Int) (cs : List CardV) (m : Int) : Int := if tfB b s js r && (cardsB cs && (payB fare && minB m)) then cbest r fare m cs else -1
theorem cardedV_t {b s r fare m : Int} {js : List Int} {cs : List CardV} (h : tfB b s js r = false) : cardedV b s js r fare cs m = -1 := by simp [cardedV, h]
theorem cardedV_c {b s r fare m : Int} {js : List Int} {cs : List CardV} (h : cardsB cs = false) : cardedV b s js r fare cs m = -1 := by simp [cardedV, h]
theorem cardedV_f {b s r fare m : Int} {js : List Int} {cs : List CardV} (h : payB fare = false) : cardedV b s js r fare cs m = -1 := by simp [cardedV, h]
theorem cardedV_m {b s r fare m : Int} {js : List Int} {cs : List CardV} (h : minB m = false) : cardedV b s js r fare cs m = -1 := by simp [cardedV, h]
theorem cardedV_ok {b s r fare m : Int} {js : List Int} {cs : List CardV} (h0 : tfB b s js r = true) (h1 : cardsB cs = true) (h2 : payB fare = true) (h3 : minB m = true) : cardedV b s js r fare cs m = cbest r fare m cs := by simp [cardedV, h0, h1, h2, h3]
theorem cardedV_in {b s r fare m : Int} {js : List Int} {cs : List CardV} (h0 : tfB b s js r = true) (h1 : cardsB cs = true) (h2 : payB fare = true) (h3 : minB m = true) : 0 ≤ cardedV b s js r fare cs m ∧ cardedV b s js r fare cs m ≤ fare := by
  rw [cardedV_ok h0 h1 h2 h3]
  have a := inB_true h2
  refine ⟨cbest_nonneg (Tf.of h0).r0 a.1 a.2 ?_, cbest_le _ _ _ _⟩
  intro c hc
  simp only [cardsB, Bool.and_eq_true, List.all_eq_true] at h1
  exact Cd.of (h1.2 c hc)
def stopsB (zs : List Int) : Bool := inB zs.length 2 20 && zs.all zonB
/-- Through. -/
def throughV (b s : Int) (js : List Int) (r : Int) (zs : List Int) (cs : List CardV) (m : Int) : Int :=
  if stopsB zs then cardedV b s js r (fareV b s js r (zs.getD 0 0) (zs.getD (zs.length - 1) 0)) cs m else -1
/-- How many quarters come back. -/
def quart (h : Int) : Int := if 72 ≤ h then 4 else if 24 ≤ h then 3 else if 1 ≤ h then 2 else 0
def backV (paid h : Int) : Int := if 72 ≤ h then paid else if 24 ≤ h then (paid * 3).tdiv 4 else if 1 ≤ h then paid.tdiv 2 else 0
theorem back_eq {paid h : Int} (h0 : 0 ≤ paid) : (paid * quart h).tdiv 4 = backV paid h := by
  unfold quart backV
  split
  · rw [Int.tdiv_eq_ediv_of_nonneg (by omega)]; omega
  split
  · rfl
  split
  · rw [Int.tdiv_eq_ediv_of_nonneg (by omega), Int.tdiv_eq_ediv_of_nonneg (by omega)]; omega
  · simp
theorem back_in {paid h : Int} (h0 : 0 ≤ paid) : 0 ≤ backV paid h ∧ backV paid h ≤ paid := by
  unfold backV
  split
  · omega
  split
  · rw [Int.tdiv_eq_ediv_of_nonneg (by omega)]; omega
  split
  · rw [Int.tdiv_eq_ediv_of_nonneg (by omega)]; omega
  · omega
def refundV (b s : Int) (js : List Int) (r paid h : Int) : Int := if tfB b s js r && payB paid then dn r (backV paid h) else -1
end Go.Proofs.Ytepdnaahhkkdeaa
