/- Line-ups as keys of a map, and what a map tells of them. -/
import Derived.Test.YtggdejceobagcaaC
import Derived.Test.YtggdejceobagcaaMD
import Derived.DeepKeys4
import Derived.Maps.OwnSet
import Derived.Maps.OwnOps
import Derived.Maps.Views
namespace Go.Proofs.Ytggdejceobagcaa
open Go.RowKit Go.Maps

theorem laidLU : laidOutB Try.prog = true := by kernel_rfl
theorem rowLU : (74 : TypeId) < Try.prog.types.size := of_decide_eq_true (by kernel_rfl)
theorem wideLU : (match Try.prog.underlying 74 with | some (.array _ _) | some (.struct _) => true | _ => false) = true := by kernel_rfl
theorem lawLU : Keyed Try.prog 74 := Keyed.of_law (deep_law_laid laidLU (m := 4) (by omega) rowLU (by kernel_rfl) wideLU)
theorem keyTypeLU : Try.prog.keyType 74 = true := by kernel_rfl
theorem cellsLU : Try.prog.cellsOf 74 = 8 := by kernel_rfl
theorem cellsSg : Try.prog.cellsOf 31 = 2 := by kernel_rfl
theorem cellsIn1 : Try.prog.cellsOf 3 = 1 := by kernel_rfl
theorem zeroE (w : World) : (zeroValue 3).run Try.prog w = .ok (.int .i64 0) w := by kernel_rfl
def luVal (l : List SingleV) : Value := .agg (flatSingles l).toArray

theorem keyInt (K : Nat) (n : Int) (h : (Lit.int .i64 n).wf = true) : Try.prog.keyLits (K + 1) 3 [.int .i64 n] = some [.int .i64 n] := by
  simp [Program.keyLits, Try.underlying3, h]
theorem keySg (K : Nat) (s d : Int) (h : (Lit.int .i64 s).wf = true) (h' : (Lit.int .i64 d).wf = true) : Try.prog.keyLits (K + 1 + 1) 31 [.int .i64 s, .int .i64 d] = some [.int .i64 s, .int .i64 d] := by
  unfold Program.keyLits
  simp [Try.underlying31, cellsSg, cellsIn1, keyInt, h, h']
theorem keyLU (a0 b0 a1 b1 a2 b2 a3 b3 : Int) (h0 : (Lit.int .i64 a0).wf = true) (h1 : (Lit.int .i64 b0).wf = true) (h2 : (Lit.int .i64 a1).wf = true) (h3 : (Lit.int .i64 b1).wf = true) (h4 : (Lit.int .i64 a2).wf = true) (h5 : (Lit.int .i64 b2).wf = true) (h6 : (Lit.int .i64 a3).wf = true) (h7 : (Lit.int .i64 b3).wf = true) :
    keyOf Try.prog 74 (.agg #[.int .i64 a0, .int .i64 b0, .int .i64 a1, .int .i64 b1, .int .i64 a2, .int .i64 b2, .int .i64 a3, .int .i64 b3]) = some (.string (keyBytes [.int .i64 a0, .int .i64 b0, .int .i64 a1, .int .i64 b1, .int .i64 a2, .int .i64 b2, .int .i64 a3, .int .i64 b3])) := by
  obtain ⟨K, hK⟩ : ∃ K, Try.prog.types.size + 1 = K + 1 + 1 + 1 := ⟨Try.prog.types.size - 2, by have : (74 : Nat) < Try.prog.types.size := rowLU; omega⟩
  have hk : Try.prog.keyLits (K + 1 + 1 + 1) 74 [.int .i64 a0, .int .i64 b0, .int .i64 a1, .int .i64 b1, .int .i64 a2, .int .i64 b2, .int .i64 a3, .int .i64 b3] = some [.int .i64 a0, .int .i64 b0, .int .i64 a1, .int .i64 b1, .int .i64 a2, .int .i64 b2, .int .i64 a3, .int .i64 b3] := by
    unfold Program.keyLits
    simp [Try.underlying74, cellsLU, cellsSg, List.range_succ, keySg, h0, h1, h2, h3, h4, h5, h6, h7]
  unfold keyOf
  rw [Try.underlying74, hK]
  simp only [keyTypeLU, Value.formed, Try.underlying74, cellsLU, Value.cells, hk]
  rfl
theorem luVal4 (t0 t1 t2 t3 : SingleV) : luVal [t0, t1, t2, t3] = .agg #[.int .i64 t0.s, .int .i64 t0.d, .int .i64 t1.s, .int .i64 t1.d, .int .i64 t2.s, .int .i64 t2.d, .int .i64 t3.s, .int .i64 t3.d] := rfl
theorem four_cases (l : List SingleV) (h : l.length = 4) : ∃ t0 t1 t2 t3, l = [t0, t1, t2, t3] := by
  match l, h with
  | [t0, t1, t2, t3], _ => exact ⟨t0, t1, t2, t3, rfl⟩
theorem wf_small {x : Int} (h0 : 0 ≤ x) (h1 : x ≤ 8) : (Lit.int .i64 x).wf = true := WalkArith.wf_i64 (by omega)
def kl (l : List SingleV) : Lit := .string (keyBytes (l.flatMap fun t => [.int .i64 t.s, .int .i64 t.d]))
theorem Nice.kl {l : List SingleV} (h : Nice l) : keyOf Try.prog 74 (luVal l) = some (kl l) := by
  have h4 := h.len
  obtain ⟨t0, t1, t2, t3, rfl⟩ := four_cases l h4
  rw [luVal4]
  have r0 := h.rng 0 (by omega)
  have r1 := h.rng 1 (by omega)
  have r2 := h.rng 2 (by omega)
  have r3 := h.rng 3 (by omega)
  simp only [At, List.getD_cons_zero, List.getD_cons_succ] at r0 r1 r2 r3
  exact keyLU _ _ _ _ _ _ _ _ (wf_small r0.1 r0.2.1) (wf_small r0.2.2.1 r0.2.2.2) (wf_small r1.1 r1.2.1) (wf_small r1.2.2.1 r1.2.2.2) (wf_small r2.1 r2.2.1) (wf_small r2.2.2.1 r2.2.2.2) (wf_small r3.1 r3.2.1) (wf_small r3.2.2.1 r3.2.2.2)
theorem luVal_inj {l q : List SingleV} (hl : l.length = 4) (hq : q.length = 4) (h : luVal l = luVal q) : l = q := by
  obtain ⟨t0, t1, t2, t3, rfl⟩ := four_cases l hl
  obtain ⟨u0, u1, u2, u3, rfl⟩ := four_cases q hq
  rw [luVal4, luVal4] at h
  simp only [Value.agg.injEq, Array.mk.injEq, List.cons.injEq, Value.int.injEq, true_and, and_true] at h
  obtain ⟨h0, h1, h2, h3, h4, h5, h6, h7⟩ := h
  cases t0; cases t1; cases t2; cases t3; cases u0; cases u1; cases u2; cases u3
  simp_all
theorem kl_inj {l q : List SingleV} (hl : Nice l) (hq : Nice q) (h : kl l = kl q) : l = q := by
  have h1 := hl.kl
  rw [h] at h1
  exact luVal_inj hl.len hq.len (lawLU.inj h1 hq.kl)
/-- What the map tells of a line-up. -/
def look (D : DataW Unit) (q : List SingleV) : Option Int :=
  if Maps.has D (kl q) then (match D.atKey (kl q) (.lit (.int .i64 0)) with | .lit (.int _ c) => some c | _ => none) else none
theorem look_put_same {D : DataW Unit} (hD : IsMap D) {q : List SingleV} (hq : Nice q) (c : Int) : look (D.put (kl q) (.lit (.int .i64 c))) q = some c := by
  unfold look
  rw [has_put_same hD (lawLU.key hq.kl), atKey_put_same hD (lawLU.key hq.kl)]
  rfl
theorem look_put_other {D : DataW Unit} {l q : List SingleV} (hl : Nice l) (hq : Nice q) (hne : q ≠ l) (d : DataW Unit) : look (D.put (kl l) d) q = look D q := by
  have hk : kl q ≠ kl l := fun e => hne (kl_inj hq hl e)
  unfold look
  rw [has_put_other hk, atKey_put_other hk]
theorem look_del_same {D : DataW Unit} {q : List SingleV} : look (D.del (kl q)) q = none := by
  unfold look
  rw [has_del_same]
  rfl
theorem look_del_other {D : DataW Unit} {l q : List SingleV} (hl : Nice l) (hq : Nice q) (hne : q ≠ l) : look (D.del (kl l)) q = look D q := by
  have hk : kl q ≠ kl l := fun e => hne (kl_inj hq hl e)
  unfold look
  rw [has_del_other hk, atKey_del_other hk]
theorem look_empty (q : List SingleV) : look (.map []) q = none := rfl
theorem look_some {D : DataW Unit} {q : List SingleV} {x c : Int} (h : look D q = some x) (hc : D.atKey (kl q) (.lit (.int .i64 0)) = .lit (.int .i64 c)) : Maps.has D (kl q) = true ∧ c = x := by
  unfold look at h
  split at h
  · next hh => rw [hc] at h; simp at h; exact ⟨hh, h⟩
  · cases h
theorem look_none {D : DataW Unit} {q : List SingleV} {c : Int} (h : look D q = none) (hc : D.atKey (kl q) (.lit (.int .i64 0)) = .lit (.int .i64 c)) : Maps.has D (kl q) = false := by
  unfold look at h
  split at h
  · rw [hc] at h; simp at h
  · next hh => simpa using hh
end Go.Proofs.Ytggdejceobagcaa
