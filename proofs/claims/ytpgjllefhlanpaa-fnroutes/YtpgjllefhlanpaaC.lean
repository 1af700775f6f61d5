/- Slices of bools: copied, compared, marked. -/
import Derived.Test.YtpgjllefhlanpaaA
namespace Go.Proofs.Ytpgjllefhlanpaa
open Go.RowKit

/-- The cells behind a slice's address hold the values zs. -/
def Bools (w : World) (a : Option Addr) (zs : List Bool) : Prop :=
  zs = [] ∨ ∃ b off, a = some ⟨b, off, none⟩ ∧ ∀ i, i < zs.length → w.cell? ⟨b, off + i, none⟩ = some (Value.bool (zs.getD i false))
theorem Bools.below {w w' : World} {a : Option Addr} {zs : List Bool} (h : Bools w a zs) (hb : Below w.heap.size w w') : Bools w' a zs := by
  rcases h with h | ⟨b, off, ha, hc⟩
  · exact .inl h
  · exact .inr ⟨b, off, ha, fun i hi => (hb.cell (cell_lt (hc i hi))).trans (hc i hi)⟩
theorem Bools.of_owns {w : World} {base g n cap : Nat} {zs : List Bool} (h : w.ownsRow base 4 1 (.slice (some ⟨g, 0, none⟩) n cap) n (zs.map (Value.bool))) : Bools w (some ⟨g, 0, none⟩) zs := by
  refine .inr ⟨g, 0, rfl, fun i hi => ?_⟩
  have hl := h.1
  simp at hl
  rw [Nat.zero_add, h.cellAt i (by omega)]
  simp [hi]
theorem Bools.own {w : World} {base n c : Nat} {a : Option Addr} {ys : List Bool} (h : w.ownsRow base 4 1 (.slice a n c) n (ys.map (Value.bool))) (hn : ys.length = n) : Bools w a ys := by
  rcases h.2 with ⟨_, h0⟩ | ⟨g, cap', cur, he, _⟩
  · left; cases ys <;> simp_all
  · simp only [Value.slice.injEq] at he
    obtain ⟨rfl, _, rfl⟩ := he
    exact Bools.of_owns h
theorem Bools.part {w : World} {a : Option Addr} {zs : List Bool} (h : Bools w a zs) (q : Nat) : zs.drop q = [] ∨ ∃ b off, a = some ⟨b, off, none⟩ ∧ Bools w (some ⟨b, off + q, none⟩) (zs.drop q) := by
  rcases h with h | ⟨b, off, ha, hc⟩
  · left; simp [h]
  · refine .inr ⟨b, off, ha, .inr ⟨b, off + q, rfl, fun i hi => ?_⟩⟩
    rw [List.length_drop] at hi
    have := hc (q + i) (by omega)
    rw [Nat.add_assoc, this]; simp [List.getD]
theorem Bools.upto {w : World} {a : Option Addr} {zs : List Bool} (h : Bools w a zs) (q : Nat) : Bools w a (zs.take q) := by
  rcases h with h | ⟨b, off, ha, hc⟩
  · left; simp [h]
  · refine .inr ⟨b, off, ha, fun i hi => ?_⟩
    rw [List.length_take] at hi
    rw [hc i (by omega)]
    have : i < q := by omega
    simp [List.getD, this]
theorem infoBools : (Try.prog.info? 4).map (fun i => (i.zero, i.size, i.bytes)) = some (some (Value.bool false), 1, 1) := by kernel_rfl
theorem stepBools (zs : List Bool) (k : Nat) (hk : k < zs.length) :
    (((zs.take k).map (Value.bool)) ++ List.replicate (zs.length - k) (Value.bool false)).set k (Value.bool (zs.getD k false)) =
      ((zs.take (k + 1)).map (Value.bool)) ++ List.replicate (zs.length - (k + 1)) (Value.bool false) := by
  rw [set_step _ _ _ _ (by simp; omega) hk, List.take_succ_eq_append_getElem hk, List.map_append]
  simp [List.getD, hk]

def marksBools (k : Int) (n : Nat) : List Bool := (List.range n).map fun (i : Nat) => (decide ((k + (i : Int)) % 3 = 0))
theorem marksBools_len (k : Int) (n : Nat) : (marksBools k n).length = n := by simp [marksBools]
theorem marksBools_get (k : Int) (n i : Nat) (h : i < n) : (marksBools k n).getD i false = (decide ((k + (i : Int)) % 3 = 0)) := by simp [marksBools, List.getD, h]
theorem markBools_step (xs : List Bool) (k : Int) (i : Nat) (h : i < xs.length) :
    (((marksBools k i).map (Value.bool)) ++ ((xs.drop i).map (Value.bool))).set i (Value.bool ((decide ((k + (i : Int)) % 3 = 0)))) = ((marksBools k (i + 1)).map (Value.bool)) ++ ((xs.drop (i + 1)).map (Value.bool)) := by
  have e2 : i - ((marksBools k i).map (Value.bool)).length = 0 := by simp [marksBools_len]
  rw [List.set_append_right _ _ (by simp [marksBools_len]), e2, List.drop_eq_getElem_cons h, List.map_cons, List.set_cons_zero]
  simp [marksBools, List.range_succ]

end Go.Proofs.Ytpgjllefhlanpaa
