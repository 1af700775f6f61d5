/- The mathematics of telegrams: bytes escaped and read back, what is decoded. -/
import Derived.Test.YtgnohomplehacaaMC
namespace Go.Proofs.Ytgnohomplehacaa
open Go.RowKit
/-- A byte changed by 32. -/
def x32 (x : Int) : Int := bits .xor .u8 x 32
theorem x32_tab : ∀ n : Fin 256, 0 ≤ x32 (n.val : Int) ∧ x32 (n.val : Int) ≤ 255 ∧ x32 (x32 (n.val : Int)) = (n.val : Int) := by decide +kernel
theorem x32_in {x : Int} (h0 : 0 ≤ x) (h1 : x ≤ 255) : 0 ≤ x32 x ∧ x32 x ≤ 255 ∧ x32 (x32 x) = x := by
  obtain ⟨n, rfl⟩ := Int.eq_ofNat_of_zero_le h0
  exact x32_tab ⟨n, by omega⟩
theorem x32_125 : x32 125 = 93 := by decide +kernel
theorem x32_126 : x32 126 = 94 := by decide +kernel
theorem x32_93 : x32 93 = 125 := by decide +kernel
theorem x32_94 : x32 94 = 126 := by decide +kernel
def mustB (x : Int) : Bool := decide (x = 126 ∨ x = 125)
def escB (x : Int) : List Int := if mustB x then [125, x32 x] else [x]
def esc (l : List Int) : List Int := l.flatMap escB
theorem esc_snoc (l : List Int) (x : Int) : esc (l ++ [x]) = esc l ++ escB x := by simp [esc]
theorem esc_nil : esc [] = [] := rfl
theorem esc_cons (x : Int) (l : List Int) : esc (x :: l) = escB x ++ esc l := by simp [esc]
theorem escB_len (x : Int) : 1 ≤ (escB x).length ∧ (escB x).length ≤ 2 := by unfold escB; split <;> simp
theorem esc_len (l : List Int) : l.length ≤ (esc l).length ∧ (esc l).length ≤ 2 * l.length := by
  induction l with
  | nil => simp [esc]
  | cons x l ih => rw [esc_cons, List.length_append, List.length_cons]; have := escB_len x; omega
theorem escB_by {x : Int} (h0 : 0 ≤ x) (h1 : x ≤ 255) : By (escB x) := by
  unfold escB
  split
  · exact By.cons (by omega) (by omega) (By.one (x32_in h0 h1).1 (x32_in h0 h1).2.1)
  · exact By.one h0 h1
theorem esc_by {l : List Int} (h : By l) : By (esc l) := by
  induction l with
  | nil => exact By.nil
  | cons x l ih =>
    rw [esc_cons]
    have hx := h x (by simp)
    exact (escB_by hx.1 hx.2).app (ih fun z hz => h z (by simp [hz]))
/-- Read back, as the program does it: none where it is not sent so. -/
def une : List Int → Option (List Int)
  | [] => some []
  | [x] => if x = 125 then none else if x = 126 then none else some [x]
  | x :: y :: l => if x = 125 then (if mustB (x32 y) then (une l).map (x32 y :: ·) else none) else if x = 126 then none else (une (y :: l)).map (x :: ·)
theorem une_plain {x : Int} (h1 : x ≠ 125) (h2 : x ≠ 126) (l : List Int) : une (x :: l) = (une l).map (x :: ·) := by
  cases l with
  | nil => simp [une, h1, h2]
  | cons y l => simp [une, h1, h2]
theorem une_flag (l : List Int) : une (126 :: l) = none := by
  cases l with
  | nil => simp [une]
  | cons y l => simp [une]
theorem une_end : une [125] = none := by simp [une]
theorem une_pair (y : Int) (l : List Int) : une (125 :: y :: l) = if mustB (x32 y) then (une l).map (x32 y :: ·) else none := by simp [une]
theorem une_esc {l : List Int} (h : By l) : une (esc l) = some l := by
  induction l with
  | nil => rfl
  | cons x l ih =>
    have hx := h x (by simp)
    have ih' := ih fun z hz => h z (by simp [hz])
    rw [esc_cons]
    unfold escB
    split
    · rename_i hm
      show une (125 :: x32 x :: esc l) = _
      rw [une_pair, (x32_in hx.1 hx.2).2.2, if_pos hm, ih']
      rfl
    · rename_i hm
      simp [mustB] at hm
      show une (x :: esc l) = _
      rw [une_plain hm.2 hm.1, ih']
      rfl
/-- What is read back is what was escaped. -/
theorem une_some : ∀ (n : Nat) (s l : List Int), s.length ≤ n → By s → une s = some l → By l ∧ esc l = s := by
  intro n
  induction n with
  | zero =>
    intro s l hn _ h
    obtain rfl : s = [] := by cases s <;> simp_all
    simp [une] at h
    subst h
    exact ⟨By.nil, rfl⟩
  | succ n ih =>
    intro s l hn hb h
    cases s with
    | nil => simp [une] at h; subst h; exact ⟨By.nil, rfl⟩
    | cons x s =>
      have hx := hb x (by simp)
      have hs : By s := fun z hz => hb z (by simp [hz])
      by_cases h1 : x = 125
      · subst h1
        cases s with
        | nil => rw [une_end] at h; cases h
        | cons y s =>
          have hy := hb y (by simp)
          rw [une_pair] at h
          split at h
          · rename_i hm
            cases hu : une s with
            | none => rw [hu] at h; cases h
            | some l' =>
              rw [hu] at h
              simp at h
              subst h
              obtain ⟨a, b⟩ := ih s l' (by simp at hn; omega) (fun z hz => hs z (by simp [hz])) hu
              have h32 := x32_in hy.1 hy.2
              refine ⟨By.cons h32.1 h32.2.1 a, ?_⟩
              rw [esc_cons, escB, if_pos hm, h32.2.2, b]
              rfl
          · cases h
      · by_cases h2 : x = 126
        · subst h2; rw [une_flag] at h; cases h
        · rw [une_plain h1 h2] at h
          cases hu : une s with
          | none => rw [hu] at h; cases h
          | some l' =>
            rw [hu] at h
            simp at h
            subst h
            obtain ⟨a, b⟩ := ih s l' (by simp at hn; omega) hs hu
            refine ⟨By.cons hx.1 hx.2 a, ?_⟩
            rw [esc_cons, escB, if_neg (by simp [mustB, h1, h2]), b]
            rfl
theorem une_len : ∀ (n : Nat) (s l : List Int), s.length ≤ n → une s = some l → l.length ≤ s.length := by
  intro n
  induction n with
  | zero =>
    intro s l hn h
    obtain rfl : s = [] := by cases s <;> simp_all
    simp [une] at h; subst h; simp
  | succ n ih =>
    intro s l hn h
    cases s with
    | nil => simp [une] at h; subst h; simp
    | cons x s =>
      by_cases h1 : x = 125
      · subst h1
        cases s with
        | nil => rw [une_end] at h; cases h
        | cons y s =>
          rw [une_pair] at h
          split at h
          · cases hu : une s with
            | none => rw [hu] at h; cases h
            | some l' =>
              rw [hu] at h
              simp at h
              subst h
              have := ih s l' (by simp at hn; omega) hu
              simp; omega
          · cases h
      · by_cases h2 : x = 126
        · subst h2; rw [une_flag] at h; cases h
        · rw [une_plain h1 h2] at h
          cases hu : une s with
          | none => rw [hu] at h; cases h
          | some l' =>
            rw [hu] at h
            simp at h
            subst h
            have := ih s l' (by simp at hn; omega) hu
            simp; omega
/-- Read back as the model does it: every 125 takes the byte behind it, changed. -/
def uneL : List Int → List Int
  | [] => []
  | [x] => [x]
  | x :: y :: l => if x = 125 then x32 y :: uneL l else x :: uneL (y :: l)
theorem uneL_plain {x : Int} (h1 : x ≠ 125) (l : List Int) : uneL (x :: l) = x :: uneL l := by
  cases l with
  | nil => simp [uneL]
  | cons y l => simp [uneL, h1]
theorem uneL_pair (y : Int) (l : List Int) : uneL (125 :: y :: l) = x32 y :: uneL l := by simp [uneL]
theorem uneL_esc {l : List Int} (h : By l) : uneL (esc l) = l := by
  induction l with
  | nil => rfl
  | cons x l ih =>
    have hx := h x (by simp)
    have ih' := ih fun z hz => h z (by simp [hz])
    rw [esc_cons]
    unfold escB
    split
    · show uneL (125 :: x32 x :: esc l) = _
      rw [uneL_pair, (x32_in hx.1 hx.2).2.2, ih']
    · rename_i hm
      simp [mustB] at hm
      show uneL (x :: esc l) = _
      rw [uneL_plain hm.2, ih']
end Go.Proofs.Ytgnohomplehacaa
