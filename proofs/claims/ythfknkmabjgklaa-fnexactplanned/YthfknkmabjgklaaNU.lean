/- Slices of whole numbers: copied, compared. -/
import Derived.Test.YthfknkmabjgklaaWR
namespace Go.Proofs.Ythfknkmabjgklaa
open Go.RowKit

/-- The cells behind a slice's address hold the values zs. -/
def Nums (w : World) (a : Option Addr) (zs : List Int) : Prop :=
  zs = [] ∨ ∃ b off, a = some ⟨b, off, none⟩ ∧ ∀ i, i < zs.length → w.cell? ⟨b, off + i, none⟩ = some (Value.int .i64 (zs.getD i 0))
theorem Nums.below {w w' : World} {a : Option Addr} {zs : List Int} (h : Nums w a zs) (hb : Below w.heap.size w w') : Nums w' a zs := by
  rcases h with h | ⟨b, off, ha, hc⟩
  · exact .inl h
  · exact .inr ⟨b, off, ha, fun i hi => (hb.cell (cell_lt (hc i hi))).trans (hc i hi)⟩
theorem Nums.of_owns {w : World} {base g n cap : Nat} {zs : List Int} (h : w.ownsRow base 3 1 (.slice (some ⟨g, 0, none⟩) n cap) n (zs.map (Value.int .i64))) : Nums w (some ⟨g, 0, none⟩) zs := by
  refine .inr ⟨g, 0, rfl, fun i hi => ?_⟩
  have hl := h.1
  simp at hl
  rw [Nat.zero_add, h.cellAt i (by omega)]
  simp [hi]
theorem Nums.own {w : World} {base n c : Nat} {a : Option Addr} {ys : List Int} (h : w.ownsRow base 3 1 (.slice a n c) n (ys.map (Value.int .i64))) (hn : ys.length = n) : Nums w a ys := by
  rcases h.2 with ⟨_, h0⟩ | ⟨g, cap', cur, he, _⟩
  · left; cases ys <;> simp_all
  · simp only [Value.slice.injEq] at he
    obtain ⟨rfl, _, rfl⟩ := he
    exact Nums.of_owns h
theorem Nums.part {w : World} {a : Option Addr} {zs : List Int} (h : Nums w a zs) (q : Nat) : zs.drop q = [] ∨ ∃ b off, a = some ⟨b, off, none⟩ ∧ Nums w (some ⟨b, off + q, none⟩) (zs.drop q) := by
  rcases h with h | ⟨b, off, ha, hc⟩
  · left; simp [h]
  · refine .inr ⟨b, off, ha, .inr ⟨b, off + q, rfl, fun i hi => ?_⟩⟩
    rw [List.length_drop] at hi
    have := hc (q + i) (by omega)
    rw [Nat.add_assoc, this]; simp [List.getD]
theorem Nums.upto {w : World} {a : Option Addr} {zs : List Int} (h : Nums w a zs) (q : Nat) : Nums w a (zs.take q) := by
  rcases h with h | ⟨b, off, ha, hc⟩
  · left; simp [h]
  · refine .inr ⟨b, off, ha, fun i hi => ?_⟩
    rw [List.length_take] at hi
    rw [hc i (by omega)]
    have : i < q := by omega
    simp [List.getD, this]
theorem infoNums : (Try.prog.info? 3).map (fun i => (i.zero, i.size, i.bytes)) = some (some (Value.int .i64 0), 1, 8) := by kernel_rfl
theorem stepNums (zs : List Int) (k : Nat) (hk : k < zs.length) :
    (((zs.take k).map (Value.int .i64)) ++ List.replicate (zs.length - k) (Value.int .i64 0)).set k (Value.int .i64 (zs.getD k 0)) =
      ((zs.take (k + 1)).map (Value.int .i64)) ++ List.replicate (zs.length - (k + 1)) (Value.int .i64 0) := by
  rw [set_step _ _ _ _ (by simp; omega) hk, List.take_succ_eq_append_getElem hk, List.map_append]
  simp [List.getD, hk]

set_option maxHeartbeats 800000 in
theorem cToNums (a : Option Addr) (cap : Nat) (zs : List Int) (w : World) (hz : Nums w a zs) (hl : zs.length ≤ 1048576) :
    Calls Try.prog 11 #[.slice a zs.length cap] w fun e w' => ∃ g, e = .returned (.slice (some ⟨g, 0, none⟩) zs.length zs.length) ∧
      w'.ownsRow w.heap.size 3 1 (.slice (some ⟨g, 0, none⟩) zs.length zs.length) zs.length (zs.map (Value.int .i64)) ∧ g = w.heap.size ∧ Below w.heap.size w w' := by
  obtain ⟨i0, hi, hz0, hz1, hz2⟩ := info_parts infoNums
  go_enter Try.func11, Try.ntmps11
  go_wp2_with (at_make; refine wpList_make_full _ rfl _ _ 26 rfl w.heap.size 3 i0 (Value.int .i64 0) 1 Try.underlying26 hi hz0 hz1 _ _ _ _ zs.length rfl rfl rfl rfl (by rw [hz2]; omega) (by unfold maxLen; omega) (Nat.le_refl _) ?_; intro w1 hown hgrow)
  have hown' : w1.ownsRow w.heap.size 3 1 (.slice (some ⟨w.heap.size, 0, none⟩) zs.length zs.length) zs.length (((zs.take 0).map (Value.int .i64)) ++ List.replicate (zs.length - 0) (Value.int .i64 0)) := by
    simpa [toList_madeCells_one, Value.cells] using hown
  have hbel : Below w.heap.size w w1 := (Below.refl _ _).grown hgrow (Nat.le_refl _) (fun k hk => by cases hk)
  clear hown hgrow
  go_loopw [4] (fun i wr => ∃ k : Nat, k ≤ zs.length ∧ i = .int .i64 k ∧ wr.ownsRow w.heap.size 3 1 (.slice (some ⟨w.heap.size, 0, none⟩) zs.length zs.length) zs.length (((zs.take k).map (Value.int .i64)) ++ List.replicate (zs.length - k) (Value.int .i64 0)) ∧ Below w.heap.size w wr) (fun i _ => zs.length - (intOf i).toNat)
  case atStart => exact ⟨0, Nat.zero_le _, rfl, hown', hbel⟩
  case round =>
    obtain ⟨k, hk, rfl, hown, hb⟩ := hrel
    by_cases hlt : k < zs.length
    · have hfr := hown.frozenAt k
      have hcw : wr.cell? ⟨w.heap.size, k, none⟩ = some (Value.int .i64 0) := by
        rw [hown.cellAt k (by omega), List.getElem?_append_right (by simp; omega)]
        simp [List.getElem?_replicate]
        omega
      obtain ⟨hown2, _⟩ := hown.stored k (Value.int .i64 zs[k])
      have e0 : zs.getD k 0 = zs[k] := by simp [List.getD, hlt]
      rw [← e0, stepNums zs k hlt, e0] at hown2
      have hb2 : Below w.heap.size w (wr.setCell ⟨w.heap.size, k, none⟩ (Value.int .i64 zs[k])) := hb.setCell (Nat.le_refl _) _
      rcases hz with hz | ⟨b, off, rfl, hc⟩
      · simp [hz] at hlt
      · have hck : wr.cell? ⟨b, off + k, none⟩ = some (Value.int .i64 zs[k]) := ((hb.cell (cell_lt (hc k hlt))).trans (hc k hlt)).trans (by rw [e0])
        clear hown hown' hbel e0 hc
        go_wp2
        go_roundw
        case rel => exact ⟨k + 1, by omega, by go_num, hown2, hb2⟩
        case measure => simp [intOf]; omega
    · have hkk : k = zs.length := by omega
      subst hkk
      have hown2 : wr.ownsRow w.heap.size 3 1 (.slice (some ⟨w.heap.size, 0, none⟩) zs.length zs.length) zs.length (zs.map (Value.int .i64)) := by simpa using hown
      clear hown hown' hbel hz
      go_wp2
      go_ret
      exact ⟨_, rfl, hown2, rfl, hb⟩

set_option maxHeartbeats 800000 in
theorem cEqNums (a1 a2 : Option Addr) (c1 c2 : Nat) (xs : List Int) (w : World) (h1 : Nums w a1 xs) (h2 : Nums w a2 xs) (hl1 : xs.length ≤ maxLen) :
    Calls Try.prog 15 #[.slice a1 xs.length c1, .slice a2 xs.length c2] w fun e w' => e = .returned (.bool true) ∧ Below w.heap.size w w' := by
  unfold maxLen at hl1
  go_enter Try.func15, Try.ntmps15
  go_wp2
  go_loopw [5] (fun i wr => ∃ k : Nat, k ≤ xs.length ∧ i = .int .i64 k ∧ Below w.heap.size w wr) (fun i _ => xs.length - (intOf i).toNat)
  case atStart => exact ⟨0, Nat.zero_le _, rfl, Below.refl _ _⟩
  case round =>
    obtain ⟨k, hk, rfl, hb⟩ := hrel
    by_cases hlt : k < xs.length
    · rcases h1 with h1 | ⟨b1, o1, rfl, hc1⟩
      · simp [h1] at hlt
      rcases h2 with h2 | ⟨b2, o2, rfl, hc2⟩
      · simp [h2] at hlt
      have hk1 := ble hb (hc1 k hlt)
      have hk2 := ble hb (hc2 k hlt)
      clear hc1 hc2
      generalize xs.getD k 0 = z at *
      go_wp2
      go_quiet (fail)
      go_wp2
      go_roundw
      case rel => exact ⟨k + 1, by omega, by go_num, bdraw hb _⟩
      case measure => simp [intOf]; omega
    · go_wp2
      go_ret
      exact ⟨rfl, hb⟩
theorem cEqNumsn (B1 B2 n : Nat) (v1 v2 : Value) (xs : List Int) (w : World) (hn : xs.length = n) (h1 : w.ownsRow B1 3 1 v1 n (xs.map (Value.int .i64))) (h2 : w.ownsRow B2 3 1 v2 n (xs.map (Value.int .i64))) (hl : n ≤ maxLen) :
    Calls Try.prog 15 #[v1, v2] w fun e w' => e = .returned (.bool true) ∧ Below w.heap.size w w' := by
  obtain ⟨a1, c1, rfl⟩ := own_form h1
  obtain ⟨a2, c2, rfl⟩ := own_form h2
  subst hn
  exact cEqNums a1 a2 c1 c2 xs w (Nums.own h1 rfl) (Nums.own h2 rfl) hl

def marksNums (k : Int) (n : Nat) : List Int := (List.range n).map fun (i : Nat) => k + (i : Int)
theorem marksNums_len (k : Int) (n : Nat) : (marksNums k n).length = n := by simp [marksNums]
theorem marksNums_get (k : Int) (n i : Nat) (h : i < n) : (marksNums k n).getD i 0 = k + (i : Int) := by simp [marksNums, List.getD, h]
theorem markNums_step (xs : List Int) (k : Int) (i : Nat) (h : i < xs.length) :
    (((marksNums k i).map (Value.int .i64)) ++ ((xs.drop i).map (Value.int .i64))).set i (Value.int .i64 (k + (i : Int))) = ((marksNums k (i + 1)).map (Value.int .i64)) ++ ((xs.drop (i + 1)).map (Value.int .i64)) := by
  have e2 : i - ((marksNums k i).map (Value.int .i64)).length = 0 := by simp [marksNums_len]
  rw [List.set_append_right _ _ (by simp [marksNums_len]), e2, List.drop_eq_getElem_cons h, List.map_cons, List.set_cons_zero]
  simp [marksNums, List.range_succ]

end Go.Proofs.Ythfknkmabjgklaa
