/- Duties and chains: the mathematics. -/
import Derived.Test.YtdmdoknkkfhheaaMA
namespace Go.Proofs.Ytdmdoknkkfhheaa
open Go.RowKit

/-- A rule: spread, drive, rest, stretch. -/
structure RuleV where
  p : Int
  d : Int
  r : Int
  s : Int
def ruleB (r : RuleV) : Bool := inB r.p 1 1440 && (inB r.d 1 1440 && (inB r.r 1 1440 && inB r.s 1 1440))
theorem ruleB_iff {r : RuleV} : ruleB r = true ↔ 1 ≤ r.p ∧ r.p ≤ 1440 ∧ 1 ≤ r.d ∧ r.d ≤ 1440 ∧ 1 ≤ r.r ∧ r.r ≤ 1440 ∧ 1 ≤ r.s ∧ r.s ≤ 1440 := by
  simp only [ruleB, inB, Bool.and_eq_true, decide_eq_true_eq]; omega

/-! Places. -/
def okP (n : Nat) (ps : List Int) (i : Nat) : Bool := inB (ps.getD i 0) 0 ((n : Int) - 1) && !(ps.take i).contains (ps.getD i 0)
def plB (ts : List TaskV) (ps : List Int) (most : Nat) : Bool := tasksB ts && (decide (ps.length ≤ most) && (List.range ps.length).all (okP ts.length ps))
def dutyB (ts : List TaskV) (ps : List Int) : Bool := plB ts ps 12 && decide (0 < ps.length)
def pickL (ts : List TaskV) (ps : List Int) : List TaskV := ps.map (fun p => tkA ts p.toNat)
theorem pickL_len (ts : List TaskV) (ps : List Int) : (pickL ts ps).length = ps.length := by simp [pickL]
theorem plB_iff {ts : List TaskV} {ps : List Int} {most : Nat} : plB ts ps most = true ↔ tasksB ts = true ∧ ps.length ≤ most ∧ ∀ i, i < ps.length → okP ts.length ps i = true := by
  simp [plB, List.all_eq_true]
theorem okP_range {n : Nat} {ps : List Int} {i : Nat} (h : okP n ps i = true) : 0 ≤ ps.getD i 0 ∧ (ps.getD i 0).toNat < n := by
  simp only [okP, Bool.and_eq_true] at h
  have := inB_true h.1
  omega
theorem okP_new {n : Nat} {ps : List Int} {i : Nat} (h : okP n ps i = true) : ps.getD i 0 ∉ ps.take i := by
  simp only [okP, Bool.and_eq_true] at h
  intro hm
  have h2 := h.2
  simp only [Bool.not_eq_true', List.contains_eq_mem, decide_eq_false_iff_not] at h2
  exact h2 hm
theorem getD_lt {α : Type} {l : List α} {i : Nat} {d : α} (h : i < l.length) : l.getD i d = l[i] := by simp [List.getD, h]
theorem tkA_pick {ts : List TaskV} {ps : List Int} {i : Nat} (h : i < ps.length) : tkA (pickL ts ps) i = tkA ts (ps.getD i 0).toNat := by
  simp [tkA, pickL, List.getD, h]
theorem pick_ok {ts : List TaskV} {ps : List Int} {m : Nat} (h : plB ts ps m = true) : (pickL ts ps).all taskB = true := by
  obtain ⟨h1, h2, h3⟩ := plB_iff.1 h
  rw [List.all_eq_true]
  intro x hx
  obtain ⟨i, hi, rfl⟩ := List.mem_iff_getElem.1 hx
  rw [pickL_len] at hi
  have e := tkA_pick (ts := ts) hi
  have hi2 : i < (pickL ts ps).length := by rw [pickL_len]; exact hi
  unfold tkA at e
  rw [getD_lt hi2] at e
  rw [e]
  simp only [tasksB, Bool.and_eq_true] at h1
  exact tkA_ok h1.2 (okP_range (h3 i hi)).2

/-! Minutes. -/
def mn (x : TaskV) : Int := x.t - x.f
def pre (s : List TaskV) (k : Nat) : Int := ((s.take k).map mn).sum
theorem pre_zero (s : List TaskV) : pre s 0 = 0 := by simp [pre]
theorem pre_succ {s : List TaskV} {k : Nat} (h : k < s.length) : pre s (k + 1) = pre s k + mn (tkA s k) := by
  unfold pre tkA
  rw [List.take_succ_eq_append_getElem h, getD_lt h, List.map_append, List.sum_append]
  simp
theorem mn_pos {x : TaskV} (h : taskB x = true) : 1 ≤ mn x ∧ mn x ≤ 100000 := by
  have := taskB_iff.1 h
  unfold mn; omega
theorem pre_mono {s : List TaskV} (hs : s.all taskB = true) {a : Nat} : ∀ {b : Nat}, a ≤ b → b ≤ s.length → pre s a + ((b : Int) - a) ≤ pre s b
  | 0, h, _ => by obtain rfl : a = 0 := by omega
                  simp
  | b + 1, h, hb => by
    by_cases e : a = b + 1
    · subst e; simp
    · have ih := pre_mono hs (a := a) (b := b) (by omega) (by omega)
      rw [pre_succ (by omega)]
      have := (mn_pos (tkA_ok hs (i := b) (by omega))).1
      omega
theorem pre_bound {s : List TaskV} (hs : s.all taskB = true) : ∀ {b : Nat}, b ≤ s.length → 0 ≤ pre s b ∧ pre s b ≤ 100000 * b
  | 0, _ => by rw [pre_zero]; simp
  | b + 1, hb => by
    have ih := pre_bound hs (b := b) (by omega)
    rw [pre_succ (by omega)]
    have := mn_pos (tkA_ok hs (i := b) (by omega))
    omega
def drv (s : List TaskV) : Int := pre s s.length

/-! Stretches. -/
def gp (s : List TaskV) (q : Nat) : Int := (tkA s q).f - (tkA s (q - 1)).t
def Jn (rest : Int) (s : List TaskV) (i j : Nat) : Prop := ∀ q, i < q → q < j → gp s q < rest
def strF (rest : Int) (s : List TaskV) : Nat → Int × Int
  | 0 => (0, 0)
  | k + 1 => (max (strF rest s k).1 ((if 0 < k ∧ rest ≤ gp s k then 0 else (strF rest s k).2) + mn (tkA s k)), (if 0 < k ∧ rest ≤ gp s k then 0 else (strF rest s k).2) + mn (tkA s k))
def strV (rest : Int) (s : List TaskV) : Int := (strF rest s s.length).1
/-- What is known of the greatest: no stretch of those with places in Q is beyond it, and it is one or nothing. -/
structure MostQ (rest : Int) (s : List TaskV) (Q : Nat → Nat → Prop) (m : Int) : Prop where
  low : 0 ≤ m
  ub : ∀ i j, i < j → j ≤ s.length → Q i j → Jn rest s i j → pre s j - pre s i ≤ m
  att : m = 0 ∨ ∃ i j, i < j ∧ j ≤ s.length ∧ Jn rest s i j ∧ m = pre s j - pre s i
theorem MostQ.uniq {rest : Int} {s : List TaskV} {a b : Int} (h : MostQ rest s (fun _ _ => True) a) (g : MostQ rest s (fun _ _ => True) b) : a = b := by
  have k1 : a ≤ b := by
    rcases h.att with e | ⟨i, j, h1, h2, h3, e⟩
    · have := g.low; omega
    · have := g.ub i j h1 h2 trivial h3; omega
  have k2 : b ≤ a := by
    rcases g.att with e | ⟨i, j, h1, h2, h3, e⟩
    · have := h.low; omega
    · have := h.ub i j h1 h2 trivial h3; omega
  omega
theorem strF_most {rest : Int} {s : List TaskV} (hs : s.all taskB = true) : ∀ k, k ≤ s.length →
    MostQ rest s (fun _ j => j ≤ k) (strF rest s k).1 ∧ ∃ st, st ≤ k ∧ (strF rest s k).2 = pre s k - pre s st ∧ Jn rest s st k ∧ (st = 0 ∨ rest ≤ gp s st)
  | 0, _ => ⟨⟨by simp [strF], fun i j h1 _ h2 _ => by omega, .inl rfl⟩, 0, Nat.le_refl _, by simp [strF], fun q h1 h2 => by omega, .inl rfl⟩
  | k + 1, hk => by
    obtain ⟨hm, st, h1, h2, h3, h4⟩ := strF_most hs k (by omega)
    obtain ⟨st', g1, g2, g3, g4⟩ : ∃ st', st' ≤ k ∧ (strF rest s (k + 1)).2 = pre s (k + 1) - pre s st' ∧ Jn rest s st' (k + 1) ∧ (st' = 0 ∨ rest ≤ gp s st') := by
      by_cases hr : 0 < k ∧ rest ≤ gp s k
      · refine ⟨k, Nat.le_refl _, ?_, fun q q1 q2 => by omega, .inr hr.2⟩
        simp only [strF, hr, and_self, if_true]
        rw [pre_succ (by omega)]; omega
      · refine ⟨st, h1, ?_, fun q q1 q2 => ?_, h4⟩
        · simp only [strF, if_neg hr]
          rw [pre_succ (by omega), h2]; omega
        · by_cases e : q = k
          · subst e; omega
          · exact h3 q q1 (by omega)
    have hpos : 0 ≤ pre s (k + 1) - pre s st' := by
      have := pre_mono hs (a := st') (b := k + 1) (by omega) hk; omega
    have e1 : (strF rest s (k + 1)).1 = max (strF rest s k).1 (strF rest s (k + 1)).2 := rfl
    refine ⟨⟨?_, ?_, ?_⟩, st', by omega, g2, g3, g4⟩
    · rw [e1]; have := hm.low; omega
    · intro i j i1 i2 i3 i4
      rw [e1]
      by_cases e : j = k + 1
      · subst e
        have hi : st' ≤ i := by
          by_cases hlt : i < st'
          · rcases g4 with g4 | g4
            · omega
            · have := i4 st' hlt (by omega); omega
          · omega
        have := pre_mono hs (a := st') (b := i) hi (by omega)
        omega
      · have := hm.ub i j i1 i2 (by omega) i4; omega
    · rw [e1]
      by_cases hc : (strF rest s k).1 ≤ (strF rest s (k + 1)).2
      · refine .inr ⟨st', k + 1, by omega, hk, g3, ?_⟩
        rw [← g2]; omega
      · rcases hm.att with e | ⟨i, j, a1, a2, a3, a4⟩
        · left; omega
        · refine .inr ⟨i, j, a1, a2, a3, ?_⟩
          omega
theorem strV_most {rest : Int} {s : List TaskV} (hs : s.all taskB = true) : MostQ rest s (fun _ _ => True) (strV rest s) := by
  have h := (strF_most (rest := rest) hs s.length (Nat.le_refl _)).1
  exact ⟨h.low, fun i j h1 h2 _ h4 => h.ub i j h1 h2 h2 h4, h.att⟩
theorem strF_bound {rest : Int} {s : List TaskV} (hs : s.all taskB = true) {k : Nat} (hk : k ≤ s.length) : 0 ≤ (strF rest s k).1 ∧ (strF rest s k).1 ≤ 100000 * s.length ∧ 0 ≤ (strF rest s k).2 ∧ (strF rest s k).2 ≤ 100000 * s.length := by
  obtain ⟨hm, st, h1, h2, _, _⟩ := strF_most (rest := rest) hs k hk
  have b0 := hm.low
  have b1 := pre_bound hs hk
  have b2 := pre_bound hs (b := st) (by omega)
  have b3 := pre_mono hs h1 hk
  refine ⟨b0, ?_, by omega, by omega⟩
  rcases hm.att with e | ⟨i, j, a1, a2, a3, a4⟩
  · omega
  · have c1 := pre_bound hs a2
    have c2 := pre_bound hs (b := i) (by omega)
    omega
/-- The model's two loops: the stretches that begin ahead of i, and those that begin at i and end at j at most. -/
theorem MostQ.zero (rest : Int) (s : List TaskV) : MostQ rest s (fun i _ => i < 0) 0 := ⟨Int.le_refl _, fun i j _ _ h _ => by omega, .inl rfl⟩
theorem MostQ.enter {rest : Int} {s : List TaskV} {i : Nat} {m : Int} (h : MostQ rest s (fun a _ => a < i) m) : MostQ rest s (fun a b => a < i ∨ (a = i ∧ b ≤ i)) m :=
  ⟨h.low, fun a b h1 h2 h3 h4 => by rcases h3 with h3 | h3; exact h.ub a b h1 h2 h3 h4; omega, h.att⟩
theorem MostQ.step {rest : Int} {s : List TaskV} {i k : Nat} {m : Int} (h : MostQ rest s (fun a b => a < i ∨ (a = i ∧ b ≤ k)) m) (hik : i ≤ k) (hk : k < s.length) (hj : Jn rest s i (k + 1)) {m' : Int} (hm : m' = max m (pre s (k + 1) - pre s i)) : MostQ rest s (fun a b => a < i ∨ (a = i ∧ b ≤ k + 1)) m' := by
  subst hm
  refine ⟨by have := h.low; omega, fun a b h1 h2 h3 h4 => ?_, ?_⟩
  · by_cases e : a = i ∧ b = k + 1
    · obtain ⟨rfl, rfl⟩ := e; omega
    · have := h.ub a b h1 h2 (by omega) h4; omega
  · by_cases hc : m ≤ pre s (k + 1) - pre s i
    · exact .inr ⟨i, k + 1, by omega, hk, hj, by omega⟩
    · rcases h.att with e | ⟨a, b, a1, a2, a3, a4⟩
      · left; omega
      · exact .inr ⟨a, b, a1, a2, a3, by omega⟩
theorem MostQ.stop {rest : Int} {s : List TaskV} {i k : Nat} {m : Int} (h : MostQ rest s (fun a b => a < i ∨ (a = i ∧ b ≤ k)) m) (hik : i < k) (hg : rest ≤ gp s k) : MostQ rest s (fun a _ => a < i + 1) m :=
  ⟨h.low, fun a b h1 h2 h3 h4 => by
    by_cases e : a = i ∧ k < b
    · have := h4 k (by omega) (by omega); omega
    · exact h.ub a b h1 h2 (by omega) h4, h.att⟩
theorem MostQ.over {rest : Int} {s : List TaskV} {i : Nat} {m : Int} (h : MostQ rest s (fun a b => a < i ∨ (a = i ∧ b ≤ s.length)) m) : MostQ rest s (fun a _ => a < i + 1) m :=
  ⟨h.low, fun a b h1 h2 h3 h4 => h.ub a b h1 h2 (by omega) h4, h.att⟩
theorem MostQ.done {rest : Int} {s : List TaskV} (hs : s.all taskB = true) {m : Int} (h : MostQ rest s (fun a _ => a < s.length) m) : m = strV rest s :=
  MostQ.uniq ⟨h.low, fun a b h1 h2 _ h4 => h.ub a b h1 h2 (by omega) h4, h.att⟩ (strV_most hs)
theorem MostQ.bound {rest : Int} {s : List TaskV} (hs : s.all taskB = true) {Q : Nat → Nat → Prop} {m : Int} (h : MostQ rest s Q m) : 0 ≤ m ∧ m ≤ 100000 * s.length := by
  refine ⟨h.low, ?_⟩
  rcases h.att with e | ⟨i, j, a1, a2, a3, a4⟩
  · omega
  · have c1 := pre_bound hs a2
    have c2 := pre_bound hs (b := i) (by omega)
    omega
theorem Jn.one (rest : Int) (s : List TaskV) (i : Nat) : Jn rest s i (i + 1) := fun q h1 h2 => by omega
theorem Jn.more {rest : Int} {s : List TaskV} {i k : Nat} (h : Jn rest s i k) (hg : gp s k < rest) : Jn rest s i (k + 1) := fun q h1 h2 => by
  by_cases e : q = k
  · subst e; exact hg
  · exact h q h1 (by omega)

/-! Codes. -/
def lnkB (a b : TaskV) : Bool := decide (a.d = b.e) && decide (a.t ≤ b.f)
def ordB (s : List TaskV) : Bool := (List.range (s.length - 1)).all (fun i => lnkB (tkA s i) (tkA s (i + 1)))
theorem ordB_iff {s : List TaskV} : ordB s = true ↔ ∀ i, i + 1 < s.length → lnkB (tkA s i) (tkA s (i + 1)) = true := by
  simp only [ordB, List.all_eq_true, List.mem_range]
  constructor
  · intro h i hi; exact h i (by omega)
  · intro h i hi; exact h i (by omega)
theorem fol_lnk {a b : TaskV} (ha : taskB a = true) (hb : taskB b = true) : folB a b 0 = lnkB a b := by
  simp [folB, ha, hb, lnkB, turnB, inB]
def spd (s : List TaskV) : Int := (tkA s (s.length - 1)).t - (tkA s 0).f
def codeV (r : RuleV) (s : List TaskV) : Int := if ordB s = false then 2 else if r.p < spd s then 3 else if r.d < drv s then 4 else if r.s < strV r.r s then 5 else 0
theorem codeV_zero {r : RuleV} {s : List TaskV} : codeV r s = 0 ↔ ordB s = true ∧ spd s ≤ r.p ∧ drv s ≤ r.d ∧ strV r.r s ≤ r.s := by
  unfold codeV
  cases h : ordB s
  · simp
  · rw [if_neg (by simp)]
    by_cases h1 : r.p < spd s
    · rw [if_pos h1]; constructor
      · intro h; omega
      · intro h; omega
    · rw [if_neg h1]
      by_cases h2 : r.d < drv s
      · rw [if_pos h2]; constructor
        · intro h; omega
        · intro h; omega
      · rw [if_neg h2]
        by_cases h3 : r.s < strV r.r s
        · rw [if_pos h3]; constructor
          · intro h; omega
          · intro h; omega
        · rw [if_neg h3]
          exact ⟨fun _ => ⟨rfl, by omega, by omega, by omega⟩, fun _ => rfl⟩
theorem codeV_range (r : RuleV) (s : List TaskV) : 0 ≤ codeV r s ∧ codeV r s ≤ 5 := by
  unfold codeV
  cases ordB s
  · simp
  · by_cases h1 : r.p < spd s
    · simp [h1]
    · by_cases h2 : r.d < drv s
      · simp [h1, h2]
      · by_cases h3 : r.s < strV r.r s <;> simp [h1, h2, h3]
def dcV (ts : List TaskV) (ps : List Int) (r : RuleV) : Int := if dutyB ts ps = true ∧ ruleB r = true then codeV r (pickL ts ps) else 1
/-! A beginning of what is fine is fine. -/
theorem tkA_take {s : List TaskV} {k q : Nat} (h : q < k) : tkA (s.take k) q = tkA s q := by
  unfold tkA; simp [List.getD, h]
theorem pre_take {s : List TaskV} {k q : Nat} (h : q ≤ k) : pre (s.take k) q = pre s q := by
  unfold pre; rw [List.take_take, Nat.min_eq_left h]
theorem gp_take {s : List TaskV} {k q : Nat} (h : q < k) : gp (s.take k) q = gp s q := by
  unfold gp; rw [tkA_take h, tkA_take (by omega)]
theorem all_take {s : List TaskV} (h : s.all taskB = true) (k : Nat) : (s.take k).all taskB = true := by
  rw [List.all_eq_true] at *
  intro x hx; exact h x (List.mem_of_mem_take hx)
theorem all_dropT {s : List TaskV} (h : s.all taskB = true) (k : Nat) : (s.drop k).all taskB = true := by
  rw [List.all_eq_true] at *
  intro x hx; exact h x (List.mem_of_mem_drop hx)
theorem arr_mono {s : List TaskV} (hs : s.all taskB = true) (ho : ordB s = true) {a : Nat} : ∀ {b : Nat}, a ≤ b → b < s.length → (tkA s a).t ≤ (tkA s b).t
  | 0, h, _ => by obtain rfl : a = 0 := by omega
                  exact Int.le_refl _
  | b + 1, h, hb => by
    by_cases e : a = b + 1
    · subst e; exact Int.le_refl _
    · have ih := arr_mono hs ho (a := a) (b := b) (by omega) (by omega)
      have h1 := ordB_iff.1 ho b hb
      simp only [lnkB, Bool.and_eq_true, decide_eq_true_eq] at h1
      have h2 := taskB_iff.1 (tkA_ok hs hb)
      omega
theorem codeV_take {r : RuleV} {s : List TaskV} (hs : s.all taskB = true) {k : Nat} (h0 : 0 < k) (hk : k ≤ s.length) (h : codeV r s = 0) : codeV r (s.take k) = 0 := by
  rw [codeV_zero] at *
  obtain ⟨h1, h2, h3, h4⟩ := h
  have hl : (s.take k).length = k := by simp; omega
  refine ⟨?_, ?_, ?_, ?_⟩
  · rw [ordB_iff] at *
    intro i hi
    rw [hl] at hi
    rw [tkA_take (by omega), tkA_take (by omega)]
    exact h1 i (by omega)
  · unfold spd at *
    rw [hl, tkA_take (by omega), tkA_take (by omega)]
    have := arr_mono hs h1 (a := k - 1) (b := s.length - 1) (by omega) (by omega)
    omega
  · unfold drv at *
    rw [hl, pre_take (Nat.le_refl _)]
    have := pre_mono hs hk (Nat.le_refl _)
    omega
  · have m1 := strV_most (rest := r.r) (all_take hs k)
    have m2 := strV_most (rest := r.r) hs
    rcases m1.att with e | ⟨i, j, a1, a2, a3, a4⟩
    · have := m2.low; omega
    · rw [hl] at a2
      rw [pre_take a2, pre_take (by omega)] at a4
      have := m2.ub i j a1 (by omega) trivial (fun q q1 q2 => by have := a3 q q1 q2; rwa [gp_take (by omega)] at this)
      omega

/-! Cuts of a chain. -/
def cutL {α : Type} (s : List α) (i j : Nat) : List α := (s.take j).drop i
theorem cutL_len {α : Type} {s : List α} {i j : Nat} (h : j ≤ s.length) : (cutL s i j).length = j - i := by simp [cutL]; omega
theorem cutL_take {α : Type} {s : List α} {i j j' : Nat} (h : j ≤ j') : cutL s i j = (cutL s i j').take (j - i) := by
  unfold cutL
  rw [List.drop_take, List.drop_take, List.take_take, Nat.min_eq_left (by omega)]
theorem cutL_pick (ts : List TaskV) (ps : List Int) (i j : Nat) : cutL (pickL ts ps) i j = pickL ts (cutL ps i j) := by
  unfold cutL pickL; rw [← List.map_take, ← List.map_drop]
def fineB (r : RuleV) (s : List TaskV) (i j : Nat) : Bool := decide (j ≤ i + 12) && decide (codeV r (cutL s i j) = 0)
theorem fine_mono {r : RuleV} {s : List TaskV} (hs : s.all taskB = true) {i j j' : Nat} (h1 : i < j) (h2 : j ≤ j') (h3 : j' ≤ s.length) (h : fineB r s i j' = true) : fineB r s i j = true := by
  simp only [fineB, Bool.and_eq_true, decide_eq_true_eq] at *
  refine ⟨by omega, ?_⟩
  rw [cutL_take h2]
  refine codeV_take ?_ (by omega) (by rw [cutL_len h3]; omega) h.2
  unfold cutL
  exact all_dropT (all_take hs _) _

section
variable (fine : Nat → Nat → Bool) (n : Nat)
/-- The fewest duties from each place on; 41 where there is no way. -/
structure IsD (D : Nat → Nat) : Prop where
  last : D n = 0
  le : ∀ i, i < n → D i ≤ 41
  ub : ∀ i j, i < j → j ≤ n → fine i j = true → D i ≤ 1 + D j
  att : ∀ i, i < n → D i = 41 ∨ ∃ j, i < j ∧ j ≤ n ∧ fine i j = true ∧ D i = 1 + D j
theorem minOver (fine : Nat → Bool) (f : Nat → Nat) : ∀ k : Nat, ∃ m, m ≤ 41 ∧ (∀ j, j < k → fine j = true → m ≤ 1 + f j) ∧ (m = 41 ∨ ∃ j, j < k ∧ fine j = true ∧ m = 1 + f j)
  | 0 => ⟨41, Nat.le_refl _, fun j h => by omega, .inl rfl⟩
  | k + 1 => by
    obtain ⟨m, h1, h2, h3⟩ := minOver fine f k
    by_cases hc : fine k = true ∧ 1 + f k < m
    · refine ⟨1 + f k, by omega, fun j hj hf => ?_, .inr ⟨k, by omega, hc.1, rfl⟩⟩
      by_cases e : j = k
      · subst e; exact Nat.le_refl _
      · have := h2 j (by omega) hf; omega
    · refine ⟨m, h1, fun j hj hf => ?_, ?_⟩
      · by_cases e : j = k
        · subst e
          by_cases hx : 1 + f j < m
          · exact absurd ⟨hf, hx⟩ hc
          · omega
        · exact h2 j (by omega) hf
      · rcases h3 with h3 | ⟨j, j1, j2, j3⟩
        · exact .inl h3
        · exact .inr ⟨j, by omega, j2, j3⟩
theorem exD : ∃ D, IsD fine n D := by
  have h : ∀ k, k ≤ n → ∃ D : Nat → Nat, D n = 0 ∧ (∀ i, n - k ≤ i → i < n → D i ≤ 41 ∧ (∀ j, i < j → j ≤ n → fine i j = true → D i ≤ 1 + D j) ∧ (D i = 41 ∨ ∃ j, i < j ∧ j ≤ n ∧ fine i j = true ∧ D i = 1 + D j)) := by
    intro k
    induction k with
    | zero => exact fun _ => ⟨fun _ => 0, rfl, fun i h1 h2 => by omega⟩
    | succ k ih =>
      intro hk
      obtain ⟨D, d0, d1⟩ := ih (by omega)
      obtain ⟨m, m1, m2, m3⟩ := minOver (fun j => decide (n - (k + 1) < j) && fine (n - (k + 1)) j) D (n + 1)
      refine ⟨fun i => if i = n - (k + 1) then m else D i, ?_, fun i h1 h2 => ?_⟩
      · show (if n = n - (k + 1) then m else D n) = 0
        rw [if_neg (by omega)]; exact d0
      · by_cases e : i = n - (k + 1)
        · subst e
          dsimp only
          rw [if_pos rfl]
          refine ⟨m1, fun j j1 j2 j3 => ?_, ?_⟩
          · rw [if_neg (by omega)]
            exact m2 j (by omega) (by simp [j1, j3])
          · rcases m3 with m3 | ⟨j, j1, j2, j3⟩
            · exact .inl m3
            · simp only [Bool.and_eq_true, decide_eq_true_eq] at j2
              refine .inr ⟨j, j2.1, by omega, j2.2, ?_⟩
              rw [if_neg (by omega)]; exact j3
        · dsimp only
          rw [if_neg e]
          obtain ⟨a1, a2, a3⟩ := d1 i (by omega) h2
          refine ⟨a1, fun j j1 j2 j3 => ?_, ?_⟩
          · rw [if_neg (by omega)]; exact a2 j j1 j2 j3
          · rcases a3 with a3 | ⟨j, j1, j2, j3, j4⟩
            · exact .inl a3
            · refine .inr ⟨j, j1, j2, j3, ?_⟩
              rw [if_neg (by omega)]; exact j4
  obtain ⟨D, d0, d1⟩ := h n (Nat.le_refl _)
  exact ⟨D, d0, fun i hi => (d1 i (by omega) hi).1, fun i j h1 h2 h3 => (d1 i (by omega) (by omega)).2.1 j h1 h2 h3, fun i hi => (d1 i (by omega) hi).2.2⟩
end
section
variable {fine : Nat → Nat → Bool} {n : Nat} {D : Nat → Nat}
theorem IsD.small (h : IsD fine n D) (hn : n ≤ 40) : ∀ k i, n - i ≤ k → i ≤ n → D i = 41 ∨ D i ≤ n - i := by
  intro k
  induction k with
  | zero => intro i h1 h2; obtain rfl : i = n := by omega
            right; rw [h.last]; omega
  | succ k ih =>
    intro i h1 h2
    by_cases e : i = n
    · subst e; right; rw [h.last]; omega
    · rcases h.att i (by omega) with a | ⟨j, j1, j2, j3, j4⟩
      · exact .inl a
      · rcases ih j (by omega) j2 with b | b
        · have := h.le i (by omega); omega
        · right; omega
theorem IsD.lt (h : IsD fine n D) (hn : n ≤ 40) {i : Nat} (hi : i ≤ n) : D i = 41 ∨ D i ≤ n - i := h.small hn (n - i) i (Nat.le_refl _) hi
theorem IsD.pos (h : IsD fine n D) {i : Nat} (hi : i < n) : 0 < D i := by
  rcases h.att i hi with a | ⟨j, _, _, _, a⟩ <;> omega
/-- Where the second duty begins. -/
structure IsNext (fine : Nat → Nat → Bool) (n : Nat) (D : Nat → Nat) (i j : Nat) : Prop where
  lo : i < j
  hi : j ≤ n
  fn : fine i j = true
  eq : D i = 1 + D j
  fst : ∀ q, i < q → q < j → fine i q = true → D i ≠ 1 + D q
theorem IsNext.uniq {i a b : Nat} (h : IsNext fine n D i a) (g : IsNext fine n D i b) : a = b := by
  by_cases h1 : a < b
  · exact absurd h.eq (g.fst a h.lo h1 h.fn)
  · by_cases h2 : b < a
    · exact absurd g.eq (h.fst b g.lo h2 g.fn)
    · omega
/-- What the search for the best cut from i holds, with all ahead of j asked. -/
def BestTo (fine : Nat → Nat → Bool) (D : Nat → Nat) (i j : Nat) (b nx : Nat) : Prop :=
  (∀ q, i < q → q < j → fine i q = true → b ≤ 1 + D q) ∧ ((b = 41 ∧ nx = 0) ∨ (b < 41 ∧ i < nx ∧ nx < j ∧ fine i nx = true ∧ b = 1 + D nx ∧ ∀ q, i < q → q < nx → fine i q = true → b < 1 + D q))
theorem BestTo.start (fine : Nat → Nat → Bool) (D : Nat → Nat) (i : Nat) : BestTo fine D i (i + 1) 41 0 := ⟨fun q h1 h2 => by omega, .inl ⟨rfl, rfl⟩⟩
theorem BestTo.take {i j b nx : Nat} (h : BestTo fine D i j b nx) (hij : i < j) (hf : fine i j = true) (hlt : 1 + D j < b) : BestTo fine D i (j + 1) (1 + D j) j := by
  have hb : b ≤ 41 := by rcases h.2 with h | h <;> omega
  refine ⟨fun q h1 h2 h3 => ?_, .inr ⟨by omega, hij, by omega, hf, rfl, fun q h1 h2 h3 => ?_⟩⟩
  · by_cases e : q = j
    · subst e; exact Nat.le_refl _
    · have := h.1 q h1 (by omega) h3; omega
  · have := h.1 q h1 h2 h3; omega
theorem BestTo.skip {i j b nx : Nat} (h : BestTo fine D i j b nx) (hlt : ¬ 1 + D j < b) : BestTo fine D i (j + 1) b nx := by
  refine ⟨fun q h1 h2 h3 => ?_, ?_⟩
  · by_cases e : q = j
    · subst e; omega
    · exact h.1 q h1 (by omega) h3
  · rcases h.2 with g | ⟨g1, g2, g3, g4⟩
    · exact .inl g
    · exact .inr ⟨g1, g2, by omega, g4⟩
theorem BestTo.done {i j b nx : Nat} (h : BestTo fine D i j b nx) (hD : IsD fine n D) (hi : i < n) (hj : j ≤ n + 1) (hr : ∀ q, j ≤ q → q ≤ n → fine i q = false) : b = D i ∧ ((D i = 41 ∧ nx = 0) ∨ (D i < 41 ∧ IsNext fine n D i nx)) := by
  have hall : ∀ q, i < q → q ≤ n → fine i q = true → b ≤ 1 + D q := by
    intro q h1 h2 h3
    by_cases e : q < j
    · exact h.1 q h1 e h3
    · rw [hr q (by omega) h2] at h3; cases h3
  have hle := hD.le i hi
  have hb : b = D i := by
    have k1 : b ≤ D i := by
      rcases hD.att i hi with a | ⟨q, q1, q2, q3, q4⟩
      · rcases h.2 with g | g <;> omega
      · have := hall q q1 q2 q3; omega
    have k2 : D i ≤ b := by
      rcases h.2 with g | ⟨g1, g2, g3, g4, g5, _⟩
      · omega
      · have := hD.ub i nx g2 (by omega) g4; omega
    omega
  refine ⟨hb, ?_⟩
  rcases h.2 with g | ⟨g1, g2, g3, g4, g5, g6⟩
  · left; omega
  · refine .inr ⟨by omega, g2, by omega, g4, by omega, fun q q1 q2 q3 => ?_⟩
    have := g6 q q1 q2 q3; omega
theorem BestTo.range {i j b nx : Nat} (h : BestTo fine D i j b nx) (hj : i < j) : b ≤ 41 ∧ nx < j := by
  rcases h.2 with g | g <;> omega
/-- The places at which duties begin. -/
inductive Bg (fine : Nat → Nat → Bool) (n : Nat) (D : Nat → Nat) : Nat → List Nat → Nat → Prop
  | nil (i : Nat) : Bg fine n D i [] i
  | snoc {i k j : Nat} {l : List Nat} : Bg fine n D i l k → k < n → IsNext fine n D k j → Bg fine n D i (l ++ [k]) j
theorem Bg.len {i k : Nat} {l : List Nat} (h : Bg fine n D i l k) : i + l.length ≤ k ∧ D i = l.length + D k := by
  induction h with
  | nil => simp
  | snoc h1 h2 h3 ih => have := h3.lo; have := h3.eq; simp; omega
theorem Bg.uniq {i : Nat} {l m : List Nat} (h : Bg fine n D i l n) (g : Bg fine n D i m n) : l = m := by
  have key : ∀ (l m : List Nat) (a b : Nat), l.length = m.length → Bg fine n D i l a → Bg fine n D i m b → l = m ∧ a = b := by
    intro l
    induction l using snoc_ind with
    | h0 =>
      intro m a b hl h g
      have hm : m = [] := List.length_eq_zero_iff.1 hl.symm
      subst hm
      have h1 : a = i := by
        generalize hx : ([] : List Nat) = x at h
        cases h with
        | nil => rfl
        | snoc => simp at hx
      have h2 : b = i := by
        generalize hx : ([] : List Nat) = x at g
        cases g with
        | nil => rfl
        | snoc => simp at hx
      exact ⟨rfl, by omega⟩
    | h1 l x ih =>
      intro m a b hl h g
      generalize hx : l ++ [x] = y at h
      cases h with
      | nil => simp at hx
      | @snoc k j l' h1 h2 h3 =>
        obtain ⟨rfl, e⟩ := List.append_inj' hx rfl
        simp at e
        subst e
        cases g with
        | nil => simp at hl
        | @snoc k' j' l'' g1 g2 g3 =>
          obtain ⟨rfl, rfl⟩ := ih _ _ _ (by simpa using hl) h1 g1
          exact ⟨rfl, h3.uniq g3⟩
  have e1 := h.len.2
  have e2 := g.len.2
  exact (key l m n n (by omega) h g).1
theorem IsD.next (h : IsD fine n D) {i : Nat} (hi : i < n) (hd : D i < 41) : ∃ j, IsNext fine n D i j := by
  rcases h.att i hi with a | ⟨j, j1, j2, j3, j4⟩
  · omega
  · have key : ∀ k, ∀ q, q < k → (∃ j, IsNext fine n D i j) ∨ ¬ (i < q ∧ q ≤ n ∧ fine i q = true ∧ D i = 1 + D q) := by
      intro k
      induction k with
      | zero => intro q hq; omega
      | succ k ih =>
        intro q hq
        by_cases hex : ∃ j, IsNext fine n D i j
        · exact .inl hex
        · right
          rintro ⟨q1, q2, q3, q4⟩
          refine hex ⟨q, q1, q2, q3, q4, fun p p1 p2 p3 p4 => ?_⟩
          rcases ih p (by omega) with a | a
          · exact hex a
          · exact a ⟨p1, by omega, p3, p4⟩
    rcases key (j + 1) j (by omega) with a | a
    · exact a
    · exact absurd ⟨j1, j2, j3, j4⟩ a
end
/-- The fewest duties as the model keeps them. -/
def fwV (D : Nat → Nat) (i : Nat) : Int := if D i = 41 then -1 else (D i : Int)
/-- What Relieve answers. -/
def RelA (ts : List TaskV) (ps : List Int) (r : RuleV) (zs : List Int) (ok : Bool) : Prop :=
  ((plB ts ps 40 && ruleB r) = false ∧ zs = [] ∧ ok = false) ∨ ((plB ts ps 40 && ruleB r) = true ∧ ∃ D, IsD (fineB r (pickL ts ps)) ps.length D ∧
    ((D 0 = 41 ∧ zs = [] ∧ ok = false) ∨ (D 0 < 41 ∧ ok = true ∧ ∃ l : List Nat, Bg (fineB r (pickL ts ps)) ps.length D 0 l ps.length ∧ zs = l.map (fun (i : Nat) => (i : Int)))))
theorem IsD.uniq {fine : Nat → Nat → Bool} {n : Nat} {D E : Nat → Nat} (h : IsD fine n D) (g : IsD fine n E) : ∀ k i, n - i ≤ k → i ≤ n → D i = E i := by
  intro k
  induction k with
  | zero => intro i h1 h2; obtain rfl : i = n := by omega
            rw [h.last, g.last]
  | succ k ih =>
    intro i h1 h2
    by_cases e : i = n
    · subst e; rw [h.last, g.last]
    · have a1 := h.le i (by omega)
      have a2 := g.le i (by omega)
      have k1 : D i ≤ E i := by
        rcases g.att i (by omega) with a | ⟨j, j1, j2, j3, j4⟩
        · omega
        · have := h.ub i j j1 j2 j3; have := ih j (by omega) j2; omega
      have k2 : E i ≤ D i := by
        rcases h.att i (by omega) with a | ⟨j, j1, j2, j3, j4⟩
        · omega
        · have := g.ub i j j1 j2 j3; have := ih j (by omega) j2; omega
      omega
theorem Bg.turn {fine : Nat → Nat → Bool} {n : Nat} {D E : Nat → Nat} (he : ∀ i, i ≤ n → D i = E i) {i k : Nat} {l : List Nat} (h : Bg fine n D i l k) : Bg fine n E i l k := by
  induction h with
  | nil => exact .nil _
  | snoc h1 h2 h3 ih =>
    refine .snoc ih h2 ⟨h3.lo, h3.hi, h3.fn, ?_, fun q q1 q2 q3 => ?_⟩
    · rw [← he _ (by omega), ← he _ h3.hi]; exact h3.eq
    · have hh := h3.hi
      rw [← he _ (by omega), ← he _ (by omega)]; exact h3.fst q q1 q2 q3
theorem RelA.uniq {ts : List TaskV} {ps : List Int} {r : RuleV} {a b : List Int} {c d : Bool} (h : RelA ts ps r a c) (g : RelA ts ps r b d) : a = b ∧ c = d := by
  rcases h with ⟨h1, h2, h3⟩ | ⟨h1, D, hD, h2⟩ <;> rcases g with ⟨g1, g2, g3⟩ | ⟨g1, E, gE, g2⟩
  · rw [h2, g2, h3, g3]; exact ⟨rfl, rfl⟩
  · rw [h1] at g1; cases g1
  · rw [h1] at g1; cases g1
  · have he : ∀ i, i ≤ ps.length → D i = E i := fun i hi => hD.uniq gE _ i (Nat.le_refl _) hi
    have h0 := he 0 (Nat.zero_le _)
    rcases h2 with ⟨a1, a2, a3⟩ | ⟨a1, a2, l, a3, a4⟩ <;> rcases g2 with ⟨b1, b2, b3⟩ | ⟨b1, b2, m, b3, b4⟩
    · rw [a2, b2, a3, b3]; exact ⟨rfl, rfl⟩
    · omega
    · omega
    · rw [a2, b2, a4, b4, (a3.turn he).uniq b3]; exact ⟨rfl, rfl⟩
/-- A duty of a chain. -/
theorem okP_cut {n : Nat} {ps : List Int} (h : ∀ i, i < ps.length → okP n ps i = true) {i j : Nat} (hj : j ≤ ps.length) : ∀ q, q < (cutL ps i j).length → okP n (cutL ps i j) q = true := by
  intro q hq
  rw [cutL_len hj] at hq
  have e : (cutL ps i j).getD q 0 = ps.getD (i + q) 0 := by
    unfold cutL
    rw [List.drop_take]
    simp [List.getD, hq]
  have h1 := h (i + q) (by omega)
  have h2 := okP_range h1
  have h3 := okP_new h1
  simp only [okP, Bool.and_eq_true]
  refine ⟨?_, ?_⟩
  · rw [e]; exact inB_yes h2.1 (by omega)
  · rw [e]
    have : ps.getD (i + q) 0 ∉ (cutL ps i j).take q := by
      intro hm
      apply h3
      unfold cutL at hm
      rw [List.drop_take, List.take_take, Nat.min_eq_left (by omega)] at hm
      have e2 : (ps.drop i).take q = (ps.take (i + q)).drop i := by rw [List.drop_take]; congr 1; omega
      rw [e2] at hm
      exact List.mem_of_mem_drop hm
    simpa only [Bool.not_eq_true', List.contains_eq_mem, decide_eq_false_iff_not] using this
end Go.Proofs.Ytdmdoknkkfhheaa
