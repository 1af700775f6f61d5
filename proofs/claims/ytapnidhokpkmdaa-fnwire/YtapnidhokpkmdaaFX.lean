/- Floats as what they stand for: all that is no number is one. What each operation gives is a function of that, whatever bits are drawn. -/
import Derived.Test.YtapnidhokpkmdaaFN
import Derived.Deep.Draws
import Derived.Laws.ComplexArith
namespace Fl
open Ieee Go

/-- No number. -/
def isN (x : Nat) : Bool := decide (2047 * 2 ^ 52 < rg x)
/-- What a float stands for. -/
def cl (x : Nat) : Option Nat := if isN x then none else some x
/-- An operation on what floats stand for. -/
def zo (op : BinOp) : Option Nat → Option Nat → Option Nat
  | some x, some y => floatBits op .f64 x y
  | _, _ => none
/-- The bits that are drawn where the answer is no number. -/
def nanB (w : World) (x y : Nat) : Nat := Question.cut (.nanBits .f64 x y) (w.tape w.drawn (.nanBits .f64 x y))
def fr (op : BinOp) (x y : Nat) (w : World) : Nat := (floatBits op .f64 x y).getD (nanB w x y)
def nd (op : BinOp) (x y : Nat) : Nat := if (floatBits op .f64 x y).isSome then 0 else 1

theorem nanB_N (w : World) (x y : Nat) : isN (nanB w x y) = true := by
  unfold nanB Question.cut isN rg
  simp only [decide_eq_true_eq]
  generalize w.tape w.drawn (Question.nanBits .f64 x y) = t
  have h : (t / 2) % (2 ^ 52 - 1) < 2 ^ 52 - 1 := Nat.mod_lt _ (by decide)
  generalize (t / 2) % (2 ^ 52 - 1) = q at *
  have h2 : t % 2 < 2 := Nat.mod_lt _ (by decide)
  generalize t % 2 = s at *
  omega
theorem isN_read {x : Nat} (h : isN x = true) : ∃ f, double.read x = .nan (sg x) f := read_nan (by simpa [isN] using h)
theorem read_not {x : Nat} (h : isN x = false) (s : Bool) (f : Nat) : double.read x ≠ .nan s f := by
  unfold isN at h
  simp only [decide_eq_false_iff_not] at h
  rw [read_eq]
  intro e
  split at e
  · cases e
  · split at e
    · cases e
    · split at e
      · cases e
      · omega
theorem nan_l (op : BinOp) {x y : Nat} (h : isN x = true) : floatBits op .f64 x y = none := by
  obtain ⟨f, e⟩ := isN_read h
  have e : FloatKind.f64.format.read x = .nan (sg x) f := e
  cases op <;> simp only [floatBits, Format.add, Format.sub, Format.mul, Format.div, e] <;> rfl
theorem nan_r (op : BinOp) {x y : Nat} (h : isN y = true) : floatBits op .f64 x y = none := by
  obtain ⟨f, e⟩ := isN_read h
  have e : FloatKind.f64.format.read y = .nan (sg y) f := e
  cases op <;> simp only [floatBits, Format.add, Format.sub, Format.mul, Format.div, e] <;> cases FloatKind.f64.format.read x <;> rfl
theorem write_not {d : Datum} (h : ∀ s f, d ≠ .nan s f) : isN (double.write d) = false := by
  unfold isN
  simp only [decide_eq_false_iff_not]
  cases d with
  | nan s f => exact absurd rfl (h s f)
  | infinity s =>
    show ¬ _ < rg (double.word s double.infRung)
    rw [rg_word s (by rw [infRung_eq]; decide), infRung_eq]
    omega
  | number s m p =>
    show ¬ _ < rg (double.nearest s m p)
    unfold Format.nearest
    dsimp only
    split
    · rw [rg_word s (Nat.two_pow_pos _)]; omega
    · rw [rg_word s (Nat.lt_of_le_of_lt (Nat.min_le_right ..) (by rw [infRung_eq]; decide))]
      have := Nat.min_le_right
      rw [infRung_eq]
      exact Nat.not_lt.2 (Nat.min_le_right _ _)
theorem map_not {o : Option Datum} (h : ∀ d, o = some d → ∀ s f, d ≠ .nan s f) {r : Nat} (e : o.map double.write = some r) : isN r = false := by
  cases o with
  | none => cases e
  | some d => cases e; exact write_not (h d rfl)
theorem sum_not {a b d : Datum} (h : Datum.sum a b = some d) (s : Bool) (f : Nat) : d ≠ .nan s f := by
  cases a <;> cases b <;> simp only [Datum.sum] at h <;> first | (cases h; done) | (split at h <;> cases h <;> exact fun e => nomatch e) | (cases h; exact fun e => nomatch e)
theorem product_not {a b d : Datum} (h : Datum.product a b = some d) (s : Bool) (f : Nat) : d ≠ .nan s f := by
  cases a <;> cases b <;> simp only [Datum.product] at h <;> first | (cases h; done) | (split at h <;> cases h <;> exact fun e => nomatch e) | (cases h; exact fun e => nomatch e)
theorem quotient_not {g : Nat} {a b d : Datum} (h : Datum.quotient g a b = some d) (s : Bool) (f : Nat) : d ≠ .nan s f := by
  cases a <;> cases b <;> simp only [Datum.quotient] at h <;> first | (cases h; done) | (cases h; exact fun e => nomatch e) | (split at h <;> first | (split at h <;> cases h <;> exact fun e => nomatch e) | (cases h; exact fun e => nomatch e))
theorem bits_not {op : BinOp} {x y r : Nat} (h : floatBits op .f64 x y = some r) : isN r = false := by
  cases op <;> simp only [floatBits] at h <;> first | (cases h; done) | skip
  · exact map_not (fun d hd s f => sum_not hd s f) h
  · exact map_not (fun d hd s f => sum_not hd s f) h
  · exact map_not (fun d hd s f => product_not hd s f) h
  · exact map_not (fun d hd s f => quotient_not hd s f) h
/-- What an operation's answer stands for. -/
theorem cl_fr (op : BinOp) (x y : Nat) (w : World) : cl (fr op x y w) = zo op (cl x) (cl y) := by
  cases hx : isN x with
  | true => simp [cl, hx, zo, fr, nan_l op hx, nanB_N]
  | false =>
    cases hy : isN y with
    | true => simp [cl, hy, hx, zo, fr, nan_r op hy, nanB_N]
    | false =>
      simp only [cl, hx, hy, zo, fr, Bool.false_eq_true, if_false]
      obtain ⟨o, h⟩ : ∃ o, floatBits op .f64 x y = o := ⟨_, rfl⟩
      simp only [h]
      cases o with
      | none => simp [nanB_N]
      | some r => simp [bits_not h]
theorem run_fop {P : Program} (op : BinOp) (hop : op = .add ∨ op = .sub ∨ op = .mul ∨ op = .quo) (x y : Nat) (t : TypeId) (w : World) :
    (binOp op t (.float .f64 x) (.float .f64 y)).run P w = .ok (.float .f64 (fr op x y w)) (w.drewN (nd op x y)) := by
  cases h : floatBits op .f64 x y with
  | some r =>
    rw [run_float_arith w op t .f64 x y r h]
    simp [fr, nd, h, World.drewN_zero]
  | none =>
    have e : fr op x y w = nanB w x y := by simp [fr, h]
    have e2 : nd op x y = 1 := by simp [nd, h]
    rw [e, e2]
    rcases hop with rfl | rfl | rfl | rfl <;> simp only [floatBits] at h <;> simp [binOp, Op.floatArith, h, nanB] <;> rfl
theorem run_carith2 {P : Program} (op : BinOp) (hop : op = .add ∨ op = .sub ∨ op = .mul ∨ op = .quo) (x y : Nat) (w : World) :
    (Op.Complex.arith op .f64 x y).run P w = .ok (fr op x y w) (w.drewN (nd op x y)) := by
  cases h : floatBits op .f64 x y with
  | some r =>
    rw [run_carith w h]
    simp [fr, nd, h, World.drewN_zero]
  | none =>
    have e : fr op x y w = nanB w x y := by simp [fr, h]
    have e2 : nd op x y = 1 := by simp [nd, h]
    rw [e, e2]
    rcases hop with rfl | rfl | rfl | rfl <;> simp only [floatBits] at h <;> simp [Op.Complex.arith, Op.floatArith, h, nanB] <;> rfl
theorem run_csum {P : Program} (op : BinOp) (hop : op = .add ∨ op = .sub) (a b c d : Nat) (t : TypeId) (w : World) :
    (binOp op t (.complex .f64 a b) (.complex .f64 c d)).run P w = .ok (.complex .f64 (fr op a c w) (fr op b d (w.drewN (nd op a c)))) (w.drewN (nd op a c + nd op b d)) := by
  rcases hop with rfl | rfl <;> simp [binOp, Op.complexOp, run_carith2]
/-- What two floats are to each other is told by what they stand for. -/
def zc : Option Nat → Option Nat → Option Ordering
  | some x, some y => FloatKind.f64.format.order x y
  | _, _ => none
theorem order_cl (x y : Nat) : FloatKind.f64.format.order x y = zc (cl x) (cl y) := by
  cases hx : isN x with
  | true =>
    have h : double.order x y = none := order_nl (by simpa [isN] using hx)
    simp only [cl, hx, zc, if_true]; exact h
  | false =>
    cases hy : isN y with
    | true =>
      have h : double.order x y = none := order_nr (by simpa [isN] using hy)
      simp only [cl, hx, hy, zc, if_true]; exact h
    | false => simp [cl, hx, hy, zc]
end Fl
