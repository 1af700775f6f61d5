/- Slices of whole numbers: copied, compared, marked. -/
import Derived.Test.YtnddhpdhbmbikaaDoorA
namespace Go.Proofs.YtnddhpdhbmbikaaDoor
open Go.RowKit

/-- The cells behind a slice's address hold the values zs. -/
def Ints (w : World) (a : Option Addr) (zs : List Int) : Prop :=
  zs = [] ∨ ∃ b off, a = some ⟨b, off, none⟩ ∧ ∀ i, i < zs.length → w.cell? ⟨b, off + i, none⟩ = some (Value.int .i64 (zs.getD i 0))
theorem Ints.below {w w' : World} {a : Option Addr} {zs : List Int} (h : Ints w a zs) (hb : Below w.heap.size w w') : Ints w' a zs := by
  rcases h with h | ⟨b, off, ha, hc⟩
  · exact .inl h
  · exact .inr ⟨b, off, ha, fun i hi => (hb.cell (cell_lt (hc i hi))).trans (hc i hi)⟩
theorem Ints.of_owns {w : World} {base g n cap : Nat} {zs : List Int} (h : w.ownsRow base 3 1 (.slice (some ⟨g, 0, none⟩) n cap) n (zs.map (Value.int .i64))) : Ints w (some ⟨g, 0, none⟩) zs := by
  refine .inr ⟨g, 0, rfl, fun i hi => ?_⟩
  have hl := h.1
  simp at hl
  rw [Nat.zero_add, h.cellAt i (by omega)]
  simp [hi]
theorem Ints.own {w : World} {base n c : Nat} {a : Option Addr} {ys : List Int} (h : w.ownsRow base 3 1 (.slice a n c) n (ys.map (Value.int .i64))) (hn : ys.length = n) : Ints w a ys := by
  rcases h.2 with ⟨_, h0⟩ | ⟨g, cap', cur, he, _⟩
  · left; cases ys <;> simp_all
  · simp only [Value.slice.injEq] at he
    obtain ⟨rfl, _, rfl⟩ := he
    exact Ints.of_owns h
theorem Ints.part {w : World} {a : Option Addr} {zs : List Int} (h : Ints w a zs) (q : Nat) : zs.drop q = [] ∨ ∃ b off, a = some ⟨b, off, none⟩ ∧ Ints w (some ⟨b, off + q, none⟩) (zs.drop q) := by
  rcases h with h | ⟨b, off, ha, hc⟩
  · left; simp [h]
  · refine .inr ⟨b, off, ha, .inr ⟨b, off + q, rfl, fun i hi => ?_⟩⟩
    rw [List.length_drop] at hi
    have := hc (q + i) (by omega)
    rw [Nat.add_assoc, this]; simp [List.getD]
theorem Ints.upto {w : World} {a : Option Addr} {zs : List Int} (h : Ints w a zs) (q : Nat) : Ints w a (zs.take q) := by
  rcases h with h | ⟨b, off, ha, hc⟩
  · left; simp [h]
  · refine .inr ⟨b, off, ha, fun i hi => ?_⟩
    rw [List.length_take] at hi
    rw [hc i (by omega)]
    have : i < q := by omega
    simp [List.getD, this]
theorem infoInts : (Tryd.prog.info? 3).map (fun i => (i.zero, i.size, i.bytes)) = some (some (Value.int .i64 0), 1, 8) := by kernel_rfl
theorem stepInts (zs : List Int) (k : Nat) (hk : k < zs.length) :
    (((zs.take k).map (Value.int .i64)) ++ List.replicate (zs.length - k) (Value.int .i64 0)).set k (Value.int .i64 (zs.getD k 0)) =
      ((zs.take (k + 1)).map (Value.int .i64)) ++ List.replicate (zs.length - (k + 1)) (Value.int .i64 0) := by
  rw [set_step _ _ _ _ (by simp; omega) hk, List.take_succ_eq_append_getElem hk, List.map_append]
  simp [List.getD, hk]

def marksInts (k : Int) (n : Nat) : List Int := (List.range n).map fun (i : Nat) => k + (i : Int)
theorem marksInts_len (k : Int) (n : Nat) : (marksInts k n).length = n := by simp [marksInts]
theorem marksInts_get (k : Int) (n i : Nat) (h : i < n) : (marksInts k n).getD i 0 = k + (i : Int) := by simp [marksInts, List.getD, h]
theorem markInts_step (xs : List Int) (k : Int) (i : Nat) (h : i < xs.length) :
    (((marksInts k i).map (Value.int .i64)) ++ ((xs.drop i).map (Value.int .i64))).set i (Value.int .i64 (k + (i : Int))) = ((marksInts k (i + 1)).map (Value.int .i64)) ++ ((xs.drop (i + 1)).map (Value.int .i64)) := by
  have e2 : i - ((marksInts k i).map (Value.int .i64)).length = 0 := by simp [marksInts_len]
  rw [List.set_append_right _ _ (by simp [marksInts_len]), e2, List.drop_eq_getElem_cons h, List.map_cons, List.set_cons_zero]
  simp [marksInts, List.range_succ]

end Go.Proofs.YtnddhpdhbmbikaaDoor
