/- The mathematics of telegrams: loads, what is encoded, what is decoded and scanned, axles. -/
import Derived.Test.YtgnohomplehacaaMT
import Derived.Test.YtgnohomplehacaaV
namespace Go.Proofs.Ytgnohomplehacaa
open Go.RowKit
def headL (t : TelV) : List Int := t.q :: t.k :: (t.b.length : Int) :: t.b
def loadL (t : TelV) : List Int := headL t ++ [crcV (headL t)]
def encL (t : TelV) : List Int := 126 :: (esc (loadL t) ++ [126])
def okT (t : TelV) : Bool := telB t.q t.k t.b.length
def encV (t : TelV) : List Int := if okT t then encL t else []
theorem okT_parts {t : TelV} (h : okT t = true) : 0 ≤ t.q ∧ t.q ≤ 255 ∧ 0 ≤ t.k ∧ t.k ≤ 15 ∧ t.b.length ≤ 60 := by
  unfold okT telB at h
  simp only [Bool.and_eq_true, decide_eq_true_eq] at h
  obtain ⟨h1, h2, h3⟩ := h
  have := inB_true h1
  have := inB_true h2
  omega
theorem head_by {t : TelV} (h : okT t = true) (hb : By t.b) : By (headL t) := by
  obtain ⟨a, b, c, d, e⟩ := okT_parts h
  exact By.cons a b (By.cons c (by omega) (By.cons (by omega) (by omega) hb))
theorem load_by {t : TelV} (h : okT t = true) (hb : By t.b) : By (loadL t) := by
  have h1 := head_by h hb
  exact h1.app (By.one (crcV_in h1).1 (crcV_in h1).2)
theorem head_len (t : TelV) : (headL t).length = t.b.length + 3 := by simp [headL]
theorem load_len (t : TelV) : (loadL t).length = t.b.length + 4 := by simp [loadL, headL]
theorem enc_by {t : TelV} (h : okT t = true) (hb : By t.b) : By (encL t) := By.cons (by omega) (by omega) ((esc_by (load_by h hb)).app (By.one (by omega) (by omega)))
theorem enc_len {t : TelV} (h : okT t = true) : 6 ≤ (encL t).length ∧ (encL t).length ≤ 130 := by
  obtain ⟨_, _, _, _, e⟩ := okT_parts h
  have := esc_len (loadL t)
  have h2 := load_len t
  have e2 : (encL t).length = (esc (loadL t)).length + 2 := by simp [encL]
  omega
theorem encV_by {t : TelV} (hb : By t.b) : By (encV t) := by
  unfold encV
  split
  · rename_i h
    exact enc_by h hb
  · exact By.nil
theorem encV_len (t : TelV) : (encV t).length ≤ 130 := by
  unfold encV
  split
  · rename_i h
    exact (enc_len h).2
  · simp
/-- The telegram that a load tells. -/
def telOf (l : List Int) : TelV := ⟨l.getD 0 0, l.getD 1 0, (l.drop 3).take (l.length - 4)⟩
def telG (l : List Int) : Bool := okT (telOf l) && (((telOf l).b.length : Int) == l.getD 2 0 && crcV (l.take (l.length - 1)) == l.getD (l.length - 1) 0)
def telP (l : List Int) : Option TelV := if l.length < 4 then none else if telG l then some (telOf l) else none
def decP (s : List Int) : Option TelV := match une s with
  | none => none
  | some l => telP l
def framed (d : List Int) : Bool := decide (2 ≤ d.length) && (d.getD 0 0 == 126 && d.getD (d.length - 1) 0 == 126)
def decV (d : List Int) : Option TelV := if framed d then decP ((d.drop 1).take (d.length - 2)) else none
theorem telOf_len {l : List Int} (h : 4 ≤ l.length) : (telOf l).b.length = l.length - 4 := by simp [telOf]; omega
theorem telOf_load (t : TelV) : telOf (loadL t) = t := by
  obtain ⟨q, k, b⟩ := t
  simp [telOf, loadL, headL]
theorem load_parts {l : List Int} (h : 4 ≤ l.length) : l = l.getD 0 0 :: l.getD 1 0 :: l.getD 2 0 :: ((l.drop 3).take (l.length - 4) ++ [l.getD (l.length - 1) 0]) := by
  match l, h with
  | a :: b :: c :: d :: r, _ =>
    have e : (d :: r).take (r.length) ++ [(d :: r).getD r.length 0] = d :: r := by
      have e1 : (d :: r).getD r.length 0 = (d :: r)[r.length]'(by simp) := by simp [List.getD]
      rw [e1, ← List.take_succ_eq_append_getElem]
      simp
    simp only [List.getD_cons_zero, List.getD_cons_succ, List.drop_succ_cons, List.drop_zero, List.length_cons, List.cons.injEq, true_and]
    have e2 : r.length + 1 + 1 + 1 + 1 - 4 = r.length := by omega
    have e3 : r.length + 1 + 1 + 1 + 1 - 1 = r.length + 1 + 1 + 1 := by omega
    rw [e2, e3]
    simp only [List.getD_cons_succ]
    exact e.symm
theorem telG_load {l : List Int} (h : 4 ≤ l.length) (hg : telG l = true) : okT (telOf l) = true ∧ loadL (telOf l) = l := by
  simp only [telG, Bool.and_eq_true, beq_iff_eq] at hg
  obtain ⟨h1, h2, h3⟩ := hg
  refine ⟨h1, ?_⟩
  have hp := load_parts h
  have hh : headL (telOf l) = l.take (l.length - 1) := by
    show l.getD 0 0 :: l.getD 1 0 :: ((telOf l).b.length : Int) :: (telOf l).b = _
    rw [h2]
    conv => rhs; rw [hp]
    have e : (l.getD 0 0 :: l.getD 1 0 :: l.getD 2 0 :: ((l.drop 3).take (l.length - 4) ++ [l.getD (l.length - 1) 0])) = (l.getD 0 0 :: l.getD 1 0 :: l.getD 2 0 :: (l.drop 3).take (l.length - 4)) ++ [l.getD (l.length - 1) 0] := by simp
    rw [e, List.take_left']
    · rfl
    · simp <;> omega
  rw [loadL, hh, h3]
  conv => rhs; rw [← List.take_append_drop (l.length - 1) l]
  congr 1
  have e1 : l.length - 1 < l.length := by omega
  rw [List.drop_eq_getElem_cons e1, show l.length - 1 + 1 = l.length by omega, List.drop_length]
  simp [List.getD, e1]
theorem load_telG {t : TelV} (h : okT t = true) : telG (loadL t) = true := by
  have e1 : (loadL t).take ((loadL t).length - 1) = headL t := by
    have : (loadL t).length - 1 = (headL t).length := by rw [load_len, head_len]; omega
    rw [this, loadL, List.take_left']
    rfl
  have e2 : (loadL t).getD ((loadL t).length - 1) 0 = crcV (headL t) := by
    have : (loadL t).length - 1 = (headL t).length := by rw [load_len, head_len]; omega
    rw [this, loadL]
    simp [List.getD]
  unfold telG
  rw [e1, e2, telOf_load, h]
  simp [loadL, headL]
theorem telP_some {l : List Int} {t : TelV} (h : telP l = some t) : okT t = true ∧ loadL t = l := by
  unfold telP at h
  split at h
  · cases h
  · split at h
    · rename_i h4 hg
      simp only [Option.some.injEq] at h
      subst h
      exact telG_load (by omega) hg
    · cases h
theorem telP_load {t : TelV} (h : okT t = true) : telP (loadL t) = some t := by
  unfold telP
  rw [if_neg (by rw [load_len]; omega), if_pos (load_telG h), telOf_load]
/-- What is decoded: the telegram whose Encode it is. -/
def IsDec (d : List Int) (o : Option TelV) : Prop :=
  (∃ t, o = some t ∧ okT t = true ∧ By t.b ∧ encL t = d) ∨ (o = none ∧ ∀ t, okT t = true → By t.b → encL t ≠ d)
theorem body_by {t : TelV} (h : By (loadL t)) : By t.b := by
  intro z hz
  exact h z (by simp [loadL, headL, hz])
theorem decP_some {s : List Int} {t : TelV} (hs : By s) (h : decP s = some t) : okT t = true ∧ By t.b ∧ esc (loadL t) = s := by
  unfold decP at h
  cases hu : une s with
  | none => rw [hu] at h; cases h
  | some l =>
    rw [hu] at h
    obtain ⟨hb, he⟩ := une_some s.length s l (Nat.le_refl _) hs hu
    obtain ⟨h1, h2⟩ := telP_some h
    exact ⟨h1, body_by (by rw [h2]; exact hb), by rw [h2, he]⟩
theorem decP_load {t : TelV} (h : okT t = true) (hb : By t.b) : decP (esc (loadL t)) = some t := by
  unfold decP
  rw [une_esc (load_by h hb)]
  exact telP_load h
theorem framed_mk (s : List Int) : framed (126 :: (s ++ [126])) = true := by simp [framed, List.getD]
theorem framed_mid (s : List Int) : ((126 :: (s ++ [126])).drop 1).take ((126 :: (s ++ [126])).length - 2) = s := by simp
theorem decV_mk (s : List Int) : decV (126 :: (s ++ [126])) = decP s := by
  unfold decV
  rw [if_pos (framed_mk s), framed_mid]
theorem framed_parts {d : List Int} (h : framed d = true) : d = 126 :: ((d.drop 1).take (d.length - 2) ++ [126]) := by
  simp only [framed, Bool.and_eq_true, decide_eq_true_eq, beq_iff_eq] at h
  obtain ⟨h1, h2, h3⟩ := h
  match d, h1 with
  | a :: b :: r, _ =>
    simp only [List.getD_cons_zero] at h2
    subst h2
    have e : (b :: r).take (r.length) ++ [(b :: r).getD r.length 0] = b :: r := by
      have e1 : (b :: r).getD r.length 0 = (b :: r)[r.length]'(by simp) := by simp [List.getD]
      rw [e1, ← List.take_succ_eq_append_getElem]
      simp
    have e3 : (126 :: b :: r : List Int).length - 1 = r.length + 1 := by simp
    rw [e3, List.getD_cons_succ] at h3
    rw [h3] at e
    have e2 : (126 :: b :: r : List Int).length - 2 = r.length := by simp
    rw [e2, List.drop_succ_cons, List.drop_zero, e]
theorem decV_is {d : List Int} (hd : By d) : IsDec d (decV d) := by
  by_cases hf : framed d = true
  · have hp := framed_parts hf
    have hs : By ((d.drop 1).take (d.length - 2)) := (hd.drop 1).take _
    have e : decV d = decP ((d.drop 1).take (d.length - 2)) := by unfold decV; rw [if_pos hf]
    generalize (d.drop 1).take (d.length - 2) = s at *
    cases hc : decP s with
    | some t =>
      obtain ⟨h1, h2, h3⟩ := decP_some hs hc
      left
      exact ⟨t, by rw [e, hc], h1, h2, by rw [encL, h3, ← hp]⟩
    | none =>
      right
      refine ⟨by rw [e, hc], fun t h1 h2 h3 => ?_⟩
      rw [hp] at h3
      simp only [encL, List.cons.injEq, true_and] at h3
      have h4 : esc (loadL t) = s := List.append_cancel_right h3
      rw [← h4, decP_load h1 h2] at hc
      cases hc
  · right
    refine ⟨by unfold decV; rw [if_neg hf], fun t h1 h2 h3 => hf ?_⟩
    rw [← h3]
    exact framed_mk _
theorem enc_inj {t t' : TelV} (h : okT t = true) (hb : By t.b) (h' : okT t' = true) (hb' : By t'.b) (e : encL t = encL t') : t = t' := by
  have h1 := decP_load h hb
  simp only [encL, List.cons.injEq, true_and] at e
  have h2 : esc (loadL t) = esc (loadL t') := List.append_cancel_right e
  rw [h2, decP_load h' hb'] at h1
  simpa using h1.symm
theorem IsDec.unique {d : List Int} {o o' : Option TelV} (h : IsDec d o) (h' : IsDec d o') : o = o' := by
  rcases h with ⟨t, rfl, h1, h2, h3⟩ | ⟨rfl, h1⟩
  · rcases h' with ⟨t', rfl, g1, g2, g3⟩ | ⟨rfl, g1⟩
    · rw [enc_inj h1 h2 g1 g2 (h3.trans g3.symm)]
    · exact absurd h3 (g1 t h1 h2)
  · rcases h' with ⟨t', rfl, g1, g2, g3⟩ | ⟨rfl, g1⟩
    · exact absurd g3 (h1 t' g1 g2)
    · rfl
/-- Read back as the model does it, from the first byte behind the flag on: every 125 takes the byte behind it, changed; the last byte is left. -/
def uneM : List Int → List Int
  | [] => []
  | [_] => []
  | x :: y :: l => if x = 125 then x32 y :: uneM l else x :: uneM (y :: l)
theorem uneM_plain {x : Int} (h1 : x ≠ 125) {l : List Int} (hl : l ≠ []) : uneM (x :: l) = x :: uneM l := by
  cases l with
  | nil => exact absurd rfl hl
  | cons y l => simp [uneM, h1]
theorem uneM_pair (y : Int) (l : List Int) : uneM (125 :: y :: l) = x32 y :: uneM l := by simp [uneM]
theorem uneM_esc {l : List Int} (h : By l) : uneM (esc l ++ [126]) = l := by
  induction l with
  | nil => rfl
  | cons x l ih =>
    have hx := h x (by simp)
    have ih' := ih fun z hz => h z (by simp [hz])
    rw [esc_cons]
    unfold escB
    split
    · show uneM (125 :: x32 x :: (esc l ++ [126])) = _
      rw [uneM_pair, (x32_in hx.1 hx.2).2.2, ih']
    · rename_i hm
      simp [mustB] at hm
      show uneM (x :: (esc l ++ [126])) = _
      rw [uneM_plain hm.2 (by simp), ih']
theorem uneM_by : ∀ (n : Nat) (s : List Int), s.length ≤ n → By s → By (uneM s) := by
  intro n
  induction n with
  | zero =>
    intro s hn _
    obtain rfl : s = [] := by cases s <;> simp_all
    exact By.nil
  | succ n ih =>
    intro s hn hb
    match s with
    | [] => exact By.nil
    | [x] => exact By.nil
    | x :: y :: l =>
      have hx := hb x (by simp)
      have hy := hb y (by simp)
      have h32 := x32_in hy.1 hy.2
      by_cases h1 : x = 125
      · subst h1
        rw [uneM_pair]
        exact By.cons h32.1 h32.2.1 (ih l (by simp at hn; omega) (fun z hz => hb z (by simp [hz])))
      · rw [uneM_plain h1 (by simp)]
        exact By.cons hx.1 hx.2 (ih (y :: l) (by simp at hn ⊢; omega) (fun z hz => hb z (List.mem_cons_of_mem _ hz)))
theorem uneM_len : ∀ (n : Nat) (s : List Int), s.length ≤ n → (uneM s).length ≤ s.length := by
  intro n
  induction n with
  | zero =>
    intro s hn
    obtain rfl : s = [] := by cases s <;> simp_all
    simp [uneM]
  | succ n ih =>
    intro s hn
    match s with
    | [] => simp [uneM]
    | [x] => simp [uneM]
    | x :: y :: l =>
      by_cases h1 : x = 125
      · subst h1
        rw [uneM_pair]
        have := ih l (by simp at hn; omega)
        simp; omega
      · rw [uneM_plain h1 (by simp)]
        have := ih (y :: l) (by simp at hn ⊢; omega)
        simp at this ⊢; omega
/-- The model's answer. -/
def decS (d : List Int) : Option TelV :=
  if 140 < d.length then none else if (uneM (d.drop 1)).length < 4 then none else
    if okT (telOf (uneM (d.drop 1))) = true ∧ encL (telOf (uneM (d.drop 1))) = d then some (telOf (uneM (d.drop 1))) else none
theorem decS_is {d : List Int} (hd : By d) : IsDec d (decS d) := by
  have hu : By (uneM (d.drop 1)) := uneM_by _ _ (Nat.le_refl _) (hd.drop 1)
  have key : ∀ t, okT t = true → By t.b → encL t = d → uneM (d.drop 1) = loadL t ∧ ¬ 140 < d.length := by
    intro t h1 h2 h3
    have hl := (enc_len h1).2
    rw [h3] at hl
    refine ⟨?_, by omega⟩
    rw [← h3]
    exact uneM_esc (load_by h1 h2)
  by_cases h140 : 140 < d.length
  · right
    refine ⟨by unfold decS; rw [if_pos h140], fun t h1 h2 h3 => (key t h1 h2 h3).2 h140⟩
  by_cases h4 : (uneM (d.drop 1)).length < 4
  · right
    refine ⟨by unfold decS; rw [if_neg h140, if_pos h4], fun t h1 h2 h3 => ?_⟩
    rw [(key t h1 h2 h3).1, load_len] at h4
    omega
  by_cases hg : okT (telOf (uneM (d.drop 1))) = true ∧ encL (telOf (uneM (d.drop 1))) = d
  · left
    exact ⟨_, by unfold decS; rw [if_neg h140, if_neg h4, if_pos hg], hg.1, (hu.drop 3).take _, hg.2⟩
  · right
    refine ⟨by unfold decS; rw [if_neg h140, if_neg h4, if_neg hg], fun t h1 h2 h3 => hg ?_⟩
    rw [(key t h1 h2 h3).1, telOf_load]
    exact ⟨h1, h3⟩
theorem decS_eq {d : List Int} (hd : By d) : decS d = decV d := (decS_is hd).unique (decV_is hd)
theorem decV_some {d : List Int} (hd : By d) {t : TelV} (h : decV d = some t) : okT t = true ∧ By t.b ∧ encL t = d := by
  rcases decV_is hd with ⟨t', h1, h2, h3, h4⟩ | ⟨h1, _⟩
  · rw [h] at h1
    simp only [Option.some.injEq] at h1
    subst h1
    exact ⟨h2, h3, h4⟩
  · rw [h] at h1; cases h1
theorem decV_enc {t : TelV} (h : okT t = true) (hb : By t.b) : decV (encL t) = some t := by rw [encL, decV_mk, decP_load h hb]
end Go.Proofs.Ytgnohomplehacaa
