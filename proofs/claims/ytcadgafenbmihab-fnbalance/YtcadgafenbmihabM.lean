/- Slices of floats: copied, compared, looked through. -/
import Derived.Test.YtcadgafenbmihabK
namespace Go.Proofs.Ytcadgafenbmihab
open Go.RowKit Fl

attribute [local go_sem] run_store_float

theorem lt_of_block {w : World} {b : Nat} {o : Obj} (h : w.heap[b]? = some o) : b < w.heap.size := by
  by_cases hx : b < w.heap.size
  · exact hx
  · rw [Array.getElem?_eq_none (Nat.le_of_not_lt hx)] at h; cases h
theorem all_bad {α : Type} {P : α → Bool} {zs : List α} {k : Nat} (hk : k < zs.length) (h : P zs[k] = false) : zs.all P = false := by
  cases hq : zs.all P
  · rfl
  · rw [List.all_eq_true] at hq
    rw [hq _ (List.getElem_mem hk)] at h; cases h
theorem all_step {α : Type} {P : α → Bool} {zs : List α} {k : Nat} (hk : k < zs.length) (h : (zs.take k).all P = true) (g : P zs[k] = true) : (zs.take (k + 1)).all P = true := by
  rw [List.take_succ_eq_append_getElem hk, List.all_append, h]
  simp [g]
/-- The cells behind a slice's address hold the floats zs. -/
def Flts (w : World) (a : Option Addr) (zs : List Nat) : Prop :=
  zs = [] ∨ ∃ b off, a = some ⟨b, off, none⟩ ∧ ∀ i, i < zs.length → w.cell? ⟨b, off + i, none⟩ = some (.float .f64 (zs.getD i 0))

theorem Flts.below {w w' : World} {a : Option Addr} {zs : List Nat} (h : Flts w a zs) (hb : Below w.heap.size w w') : Flts w' a zs := by
  rcases h with h | ⟨b, off, ha, hc⟩
  · exact .inl h
  · exact .inr ⟨b, off, ha, fun i hi => (hb.cell (cell_lt (hc i hi))).trans (hc i hi)⟩

theorem Flts.of_owns {w : World} {base g n cap : Nat} {zs : List Nat} (h : w.ownsRow base 24 1 (.slice (some ⟨g, 0, none⟩) n cap) n (zs.map (Value.float .f64))) : Flts w (some ⟨g, 0, none⟩) zs := by
  refine .inr ⟨g, 0, rfl, fun i hi => ?_⟩
  have hl := h.1
  simp at hl
  rw [Nat.zero_add, h.cellAt i (by omega)]
  simp [hi]

theorem info22 : (Try.prog.info? 24).map (fun i => (i.zero, i.size, i.bytes)) = some (some (.float .f64 0), 1, 8) := by kernel_rfl

theorem take_set_step (zs : List Nat) (k : Nat) (hk : k < zs.length) :
    (((zs.take k).map (Value.float .f64)) ++ List.replicate (zs.length - k) (Value.float .f64 0)).set k (.float .f64 (zs.getD k 0)) =
      ((zs.take (k + 1)).map (Value.float .f64)) ++ List.replicate (zs.length - (k + 1)) (Value.float .f64 0) := by
  have e1 : zs.length - k = (zs.length - (k + 1)) + 1 := by omega
  rw [List.set_append_right _ _ (by simp; omega), e1, List.replicate_succ]
  have e2 : k - ((zs.take k).map (Value.float .f64)).length = 0 := by simp; omega
  rw [e2, List.set_cons_zero, List.take_succ_eq_append_getElem hk, List.map_append]
  simp [List.getD, hk]

end Go.Proofs.Ytcadgafenbmihab
