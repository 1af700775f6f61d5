/- Slices of steps. -/
import Derived.Test.YtdjambejppanoaaHS
import Derived.Maps.RangeWalk
import Derived.Maps.OwnOps
import Derived.Maps.Views
import Derived.Maps.OwnSet
import Derived.Deep.RegionWith
namespace Go.Proofs.Ytdjambejppanoaa
open Go.RowKit
structure StepV where
  n : Int
  a : Int
  d : Int
  deriving DecidableEq
def StepV.zero : StepV := ⟨0, 0, 0⟩
def StepV.val (e : StepV) : Value := .agg #[.int .i64 e.n, .int .i64 e.a, .int .i64 e.d]
def StepV.vs (e : StepV) : List Value := [.int .i64 e.n, .int .i64 e.a, .int .i64 e.d]
def flatSteps (es : List StepV) : List Value := es.flatMap StepV.vs
theorem flatSteps_cons (e : StepV) (es : List StepV) : flatSteps (e :: es) = .int .i64 e.n :: .int .i64 e.a :: .int .i64 e.d :: flatSteps es := rfl
theorem flatSteps_len (es : List StepV) : (flatSteps es).length = es.length * 3 := by
  induction es with
  | nil => rfl
  | cons e es ih => rw [flatSteps_cons]; simp only [List.length_cons, ih]; omega
theorem flatSteps_app (xs ys : List StepV) : flatSteps (xs ++ ys) = flatSteps xs ++ flatSteps ys := by simp [flatSteps]
theorem flatSteps_get (es : List StepV) : ∀ i, i < es.length → (flatSteps es)[i * 3]? = some (.int .i64 (es.getD i StepV.zero).n) ∧ (flatSteps es)[i * 3 + 1]? = some (.int .i64 (es.getD i StepV.zero).a) ∧ (flatSteps es)[i * 3 + 2]? = some (.int .i64 (es.getD i StepV.zero).d) := by
  induction es with
  | nil => intro i hi; simp at hi
  | cons e es ih =>
    intro i hi
    rw [flatSteps_cons]
    cases i with
    | zero => simp
    | succ i =>
      have h := ih i (by simpa using hi)
      have e1 : (i + 1) * 3 = i * 3 + 1 + 1 + 1 := by omega
      rw [e1]
      simpa using h
/-- The cells behind a slice's address hold the structs es. -/
def Steps (w : World) (a : Option Addr) (es : List StepV) : Prop :=
  es = [] ∨ ∃ b off, a = some ⟨b, off, none⟩ ∧ ∀ i, i < es.length → w.cell? ⟨b, off + i * 3, none⟩ = some (.int .i64 (es.getD i StepV.zero).n) ∧ w.cell? ⟨b, off + i * 3 + 1, none⟩ = some (.int .i64 (es.getD i StepV.zero).a) ∧ w.cell? ⟨b, off + i * 3 + 2, none⟩ = some (.int .i64 (es.getD i StepV.zero).d)
theorem Steps.below {w w' : World} {a : Option Addr} {es : List StepV} (h : Steps w a es) (hb : Below w.heap.size w w') : Steps w' a es := by
  rcases h with h | ⟨b, off, ha, hc⟩
  · exact .inl h
  · exact .inr ⟨b, off, ha, fun i hi => ⟨ble hb (hc i hi).1, ble hb (hc i hi).2.1, ble hb (hc i hi).2.2⟩⟩
theorem Steps.of_owns {w : World} {base g n cap : Nat} {es : List StepV} (h : w.ownsRow base 83 3 (.slice (some ⟨g, 0, none⟩) n cap) n (flatSteps es)) : Steps w (some ⟨g, 0, none⟩) es := by
  refine .inr ⟨g, 0, rfl, fun i hi => ?_⟩
  have hl := h.1
  rw [flatSteps_len] at hl
  obtain ⟨f0, f1, f2⟩ := flatSteps_get es i hi
  refine ⟨?_, ?_, ?_⟩
  · rw [Nat.zero_add, h.cellAt _ (by omega)]; exact f0
  · rw [Nat.zero_add, h.cellAt _ (by omega)]; exact f1
  · rw [Nat.zero_add, h.cellAt _ (by omega)]; exact f2
theorem Steps.own {w : World} {base n c : Nat} {a : Option Addr} {es : List StepV} (h : w.ownsRow base 83 3 (.slice a n c) n (flatSteps es)) : Steps w a es := by
  rcases h.2 with ⟨_, h0⟩ | ⟨g, cap', cur, he, _⟩
  · left
    have hl := h.1
    rw [flatSteps_len, h0] at hl
    exact List.length_eq_zero_iff.1 (by omega)
  · simp only [Value.slice.injEq] at he
    obtain ⟨rfl, _, rfl⟩ := he
    exact Steps.of_owns h
theorem Steps.rw {w : World} {base n c : Nat} {a : Option Addr} {es : List StepV} (h : Rw w base 83 3 (.slice a n c) n (flatSteps es)) : Steps w a es := by
  rcases h with h | ⟨h0, h1, _⟩
  · exact Steps.own h
  · left
    have := flatSteps_len es
    rw [h1] at this
    simp at this
    exact List.length_eq_zero_iff.1 (by omega)
theorem lenSteps {w : World} {base n : Nat} {v : Value} {es : List StepV} (h : Rw w base 83 3 v n (flatSteps es)) : es.length = n := by
  have := h.len
  rw [flatSteps_len] at this
  omega
theorem infoSteps : (Try.prog.info? 83).map (fun i => (i.zero, i.size, i.bytes)) = some (some (.agg #[.int .i64 0, .int .i64 0, .int .i64 0]), 3, 24) := by kernel_rfl
theorem infoSteps1 : (Try.prog.info? 83).map (fun i => (i.zero, i.size, i.bytes)) = some (some (.agg #[.int .i64 0, .int .i64 0, .int .i64 0]), 3, 24) := infoSteps
/-- A step of the mathematics, as the program lays it. -/
def stV (s : Nat × Int × Int) : StepV := ⟨(s.1 : Int), s.2.1, s.2.2⟩
def rowsTo (es : List EdgeV) (k : Nat) (x : Nat) : List StepV := (stepsTo es (x : Int) k).map stV
theorem rowsTo_len (es : List EdgeV) (k x : Nat) : (rowsTo es k x).length ≤ k := by unfold rowsTo; rw [List.length_map]; exact stepsTo_len _ _ _
/-- A slice's value as an element of a map: by its address. -/
def rowD : Value → DataW Unit
  | .slice (some ⟨g, _, _⟩) n c => .agg [.lit (.int .i64 g), .lit (.int .i64 n), .lit (.int .i64 c)]
  | _ => .nil
def IsRowV (v : Value) : Prop := v = .slice none 0 0 ∨ ∃ g n c, v = .slice (some ⟨g, 0, none⟩) n c
open Classical in
noncomputable def rowEl (v : Value) : Option (DataW Unit × List MemPlace) := if IsRowV v then some (rowD v, []) else none
theorem rowEl_mk {v : Value} (h : IsRowV v) : rowEl v = some (rowD v, []) := by unfold rowEl; rw [if_pos h]
theorem rowEl_inv {v u : Value} {ps : List MemPlace} (h : rowEl v = some (rowD u, ps)) (hu : IsRowV u) : v = u := by
  unfold rowEl at h
  split at h
  · rename_i hv
    simp only [Option.some.injEq, Prod.mk.injEq] at h
    have h := h.1
    rcases hv with rfl | ⟨g, n, c, rfl⟩ <;> rcases hu with rfl | ⟨g', n', c', rfl⟩
    · rfl
    · simp [rowD] at h
    · simp [rowD] at h
    · simp [rowD] at h
      obtain ⟨h1, h2, h3⟩ := h
      have h1 : g = g' := by omega
      have h2 : n = n' := by omega
      have h3 : c = c' := by omega
      rw [h1, h2, h3]
  · cases h
theorem IsRowV.own {w : World} {B e sz n : Nat} {v : Value} {xs : List Value} (h : w.ownsRow B e sz v n xs) : IsRowV v := by
  rcases h.2 with ⟨rfl, h0⟩ | ⟨g, cap', cur, rfl, _⟩
  · exact .inl (by rw [])
  · exact .inr ⟨_, _, _, rfl⟩
theorem lawI : Maps.Keyed Try.prog 3 := Maps.int_keyed Try.underlying3
theorem zeroRow (w : World) : (zeroValue 81).run Try.prog w = .ok (.slice none 0 0) w := by kernel_rfl
theorem keyI {x : Int} (h0 : -1000000 ≤ x) (h1 : x ≤ 1000000) : keyOf Try.prog 3 (.int .i64 x) = some (.int .i64 x) := Maps.keyOf_int_mk Try.underlying3 (WalkArith.wf_i64 (by omega))
def upd {α : Type} (f : Nat → α) (x : Nat) (v : α) : Nat → α := fun y => if y = x then v else f y
theorem upd_eq {α : Type} (f : Nat → α) (x : Nat) (v : α) : upd f x v x = v := by simp [upd]
theorem upd_ne {α : Type} (f : Nat → α) {x y : Nat} (v : α) (h : y ≠ x) : upd f x v y = f y := by simp [upd, h]
/-- The lines of N nodes in a map: each node's row in a block of its own. -/
structure Lin (w : World) (B mb n N : Nat) (rows : Nat → List StepV) (rv : Nat → Value) (D : DataW Unit) : Prop where
  map : w.ownsMap Try.prog 3 rowEl mb n D
  look : ∀ x, x < N → ∀ zd, D.atKey (.int .i64 (x : Int)) zd = rowD (rv x)
  keys : ∀ y : Int, Maps.has D (.int .i64 y) = decide (0 ≤ y ∧ y < (N : Int))
  own : ∀ x, x < N → w.ownsRow B 83 3 (rv x) (rows x).length (flatSteps (rows x))
  apart : ∀ x y, x < N → y < N → x ≠ y → ∀ k, (rv x).ownBlock = some k → (rv y).ownBlock ≠ some k
theorem row_map {w : World} {B e sz n mb m : Nat} {v : Value} {xs : List Value} {D : DataW Unit} (h : w.ownsRow B e sz v n xs) (hm : w.ownsMap Try.prog 3 rowEl mb m D) : v.ownBlock ≠ some mb := by
  rcases h.2 with ⟨rfl, h0⟩ | ⟨g, cap', cur, rfl, _, hh, _⟩
  · simp [Value.ownBlock]
  · obtain ⟨es, clock, hb, _⟩ := hm
    simp only [Value.ownBlock, ne_eq, Option.some.injEq]
    rintro rfl
    rw [hh] at hb; cases hb
theorem Lin.below {w w' : World} {B mb n N : Nat} {rows : Nat → List StepV} {rv : Nat → Value} {D : DataW Unit} (h : Lin w B mb n N rows rv D) (hb : Below w.heap.size w w') : Lin w' B mb n N rows rv D :=
  ⟨h.map.kept ⟨hb.os, hb.tape, hb.output, hb.size, fun k hk _ => hb.block k hk⟩ (row := none) (by simp), h.look, h.keys, fun x hx => own_keep (h.own x hx) hb, h.apart⟩
theorem Lin.look_run {w : World} {B mb n N : Nat} {rows : Nat → List StepV} {rv : Nat → Value} {D : DataW Unit} (h : Lin w B mb n N rows rv D) {x : Nat} (hx : x < N) (hN : N ≤ 1000) : (Instr.lookup 61 (.map (some mb)) (.int .i64 (x : Int)) false).run Try.prog w = .ok (rv x) w := by
  obtain ⟨v, ps, hrun, hv⟩ := h.map.lookup lawI Try.underlying61 (zeroRow w) (rowEl_mk (.inl rfl)) (keyI (x := (x : Int)) (by omega) (by omega))
  rw [h.look x hx] at hv
  rw [hrun, rowEl_inv hv (IsRowV.own (h.own x hx))]
theorem Lin.cong {w : World} {B mb n N : Nat} {rows rows' : Nat → List StepV} {rv : Nat → Value} {D : DataW Unit} (h : Lin w B mb n N rows rv D) (e : ∀ x, x < N → rows' x = rows x) : Lin w B mb n N rows' rv D :=
  ⟨h.map, h.look, h.keys, fun x hx => by rw [e x hx]; exact h.own x hx, h.apart⟩
/-- One key more, with nothing. -/
theorem Lin.add {w w2 : World} {B mb n N : Nat} {D : DataW Unit} (h : Lin w B mb n N (fun _ => []) (fun _ => .slice none 0 0) D) (hm : w2.ownsMap Try.prog 3 rowEl mb (n + 1) (D.put (.int .i64 (N : Int)) .nil)) :
    Lin w2 B mb (n + 1) (N + 1) (fun _ => []) (fun _ => .slice none 0 0) (D.put (.int .i64 (N : Int)) .nil) := by
  refine ⟨hm, fun x hx zd => ?_, fun y => ?_, fun x hx => World.ownsRow_nil _ _ _ _, fun x y _ _ _ k hk => by simp [Value.ownBlock] at hk⟩
  · by_cases e : x = N
    · subst e; rw [Maps.atKey_put_same h.map.isMap (show WideAt.IsKeyLit (.int .i64 (x : Int)) from trivial)]; rfl
    · rw [Maps.atKey_put_other (by simp; omega)]; exact h.look x (by omega) zd
  · by_cases e : y = (N : Int)
    · subst e; rw [Maps.has_put_same h.map.isMap (show WideAt.IsKeyLit (.int .i64 (N : Int)) from trivial)]; simp; omega
    · rw [Maps.has_put_other (by simpa using e), h.keys y]
      simp only [decide_eq_decide]; omega
theorem Lin.made (w : World) (B : Nat) : Lin (w.alloc (.map #[] 0)) B w.heap.size 0 0 (fun _ => []) (fun _ => .slice none 0 0) (.map []) :=
  ⟨World.ownsMap_made _ _ _ _, fun x hx => by omega, fun y => by simp [Maps.has_eq], fun x hx => by omega, fun x y hx => by omega⟩
/-- One row longer by one step. -/
theorem Lin.put {w w8 w9 : World} {B mb n N x : Nat} {rows : Nat → List StepV} {rv : Nat → Value} {D : DataW Unit} {v2 : Value} {s : StepV} (h : Lin w B mb n N rows rv D) (hx : x < N)
    (hown : w8.ownsRow B 83 3 v2 ((rows x).length + 1) (flatSteps (rows x) ++ s.vs)) (hgrow : w.grownBy w8 (rv x).ownBlock) (hloc : (rv x).ownBlock = v2.ownBlock ∨ v2.ownBlock = some w.heap.size)
    (hm : w9.ownsMap Try.prog 3 rowEl mb (n + 1) (D.put (.int .i64 (x : Int)) (rowD v2))) (hg : w8.grownBy w9 (some mb)) (hm8 : w8.ownsMap Try.prog 3 rowEl mb n D) :
    Lin w9 B mb (n + 1) N (upd rows x (rows x ++ [s])) (upd rv x v2) (D.put (.int .i64 (x : Int)) (rowD v2)) := by
  refine ⟨hm, fun y hy zd => ?_, fun y => ?_, fun y hy => ?_, fun y z hy hz hyz k hk => ?_⟩
  · by_cases e : y = x
    · subst e; rw [Maps.atKey_put_same h.map.isMap (show WideAt.IsKeyLit (.int .i64 (y : Int)) from trivial), upd_eq]
    · rw [Maps.atKey_put_other (by simp; omega), upd_ne _ _ e]; exact h.look y hy zd
  · by_cases e : y = (x : Int)
    · subst e; rw [Maps.has_put_same h.map.isMap (show WideAt.IsKeyLit (.int .i64 (x : Int)) from trivial)]; simp; omega
    · rw [Maps.has_put_other (by simpa using e)]; exact h.keys y
  · by_cases e : y = x
    · subst e
      rw [upd_eq, upd_eq, List.length_append, flatSteps_app]
      have e1 : flatSteps [s] = s.vs := by simp [flatSteps]
      rw [e1]
      exact own_far hown hg (fun k hk e => row_map hown hm8 (by rw [hk, e]))
    · rw [upd_ne _ _ e, upd_ne _ _ e]
      have h8 := own_far (h.own y hy) hgrow (fun k hk e2 => h.apart y x hy hx e k hk e2.symm)
      exact own_far h8 hg (fun k hk e => row_map h8 hm8 (by rw [hk, e]))
  · by_cases e : y = x
    · subst e
      rw [upd_eq] at hk
      rw [upd_ne _ _ (Ne.symm hyz)]
      rcases hloc with e | e
      · exact h.apart y z hy hz hyz k (by rw [e]; exact hk)
      · intro e2
        have := own_blk_lt (h.own z hz) k e2
        rw [e] at hk
        simp at hk; omega
    · rw [upd_ne _ _ e] at hk
      by_cases e2 : z = x
      · subst e2
        rw [upd_eq]
        rcases hloc with e3 | e3
        · rw [← e3]; exact h.apart y z hy hz hyz k hk
        · intro e4
          have := own_blk_lt (h.own y hy) k hk
          rw [e3] at e4
          simp at e4; omega
      · rw [upd_ne _ _ e2]; exact h.apart y z hy hz hyz k hk
theorem rows_step {N : Nat} {es : List EdgeV} (R : Rg (N : Int) es) {i a b : Nat} {l : Int} (hi : i < es.length) (ha : (es.getD i EdgeV.zero).a = (a : Int)) (hb : (es.getD i EdgeV.zero).b = (b : Int)) (hl : (es.getD i EdgeV.zero).l = l) :
    ∀ x, rowsTo es (i + 1) x = upd (upd (rowsTo es i) a (rowsTo es i a ++ [⟨(i : Int), (b : Int), l⟩])) b (upd (rowsTo es i) a (rowsTo es i a ++ [⟨(i : Int), (b : Int), l⟩]) b ++ [⟨(i : Int), (a : Int), l⟩]) x := by
  intro x
  have e0 : es.getD i EdgeV.zero = es[i] := by simp [List.getD, hi]
  have h3 := (R.nd i hi).2.2.1
  rw [← e0, ha, hb] at h3
  have hab : a ≠ b := by omega
  have e1 : rowsTo es (i + 1) x = rowsTo es i x ++ (if (a : Int) = (x : Int) then [⟨(i : Int), (b : Int), l⟩] else if (b : Int) = (x : Int) then [⟨(i : Int), (a : Int), l⟩] else []) := by
    unfold rowsTo
    conv => lhs; unfold stepsTo
    dsimp only
    rw [ha, hb, hl, List.map_append]
    congr 1
    split
    · rfl
    · split <;> rfl
  rw [e1]
  by_cases h1 : x = a
  · subst h1
    rw [if_pos rfl, upd_ne _ _ hab, upd_eq]
  · rw [if_neg (by omega)]
    by_cases h2 : x = b
    · subst h2
      rw [if_pos rfl, upd_eq, upd_ne _ _ h1]
    · rw [if_neg (by omega), upd_ne _ _ h2, upd_ne _ _ h1, List.append_nil]
end Go.Proofs.Ytdjambejppanoaa
