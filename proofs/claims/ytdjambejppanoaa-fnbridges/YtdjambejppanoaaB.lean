/- Slices of whole numbers: copied, compared, marked. -/
import Derived.Test.YtdjambejppanoaaA
namespace Go.Proofs.Ytdjambejppanoaa
open Go.RowKit

/-- The cells behind a slice's address hold the values zs. -/
def Ints (w : World) (a : Option Addr) (zs : List Int) : Prop :=
  zs = [] ∨ ∃ b off, a = some ⟨b, off, none⟩ ∧ ∀ i, i < zs.length → w.cell? ⟨b, off + i, none⟩ = some (Value.int .i64 (zs.getD i 0))
theorem Ints.below {w w' : World} {a : Option Addr} {zs : List Int} (h : Ints w a zs) (hb : Below w.heap.size w w') : Ints w' a zs := by
  rcases h with h | ⟨b, off, ha, hc⟩
  · exact .inl h
  · exact .inr ⟨b, off, ha, fun i hi => (hb.cell (cell_lt (hc i hi))).trans (hc i hi)⟩
theorem Ints.of_owns {w : World} {base g n cap : Nat} {zs : List Int} (h : w.ownsRow base 3 1 (.slice (some ⟨g, 0, none⟩) n cap) n (zs.map (Value.int .i64))) : Ints w (some ⟨g, 0, none⟩) zs := by
  refine .inr ⟨g, 0, rfl, fun i hi => ?_⟩
  have hl := h.1
  simp at hl
  rw [Nat.zero_add, h.cellAt i (by omega)]
  simp [hi]
theorem Ints.own {w : World} {base n c : Nat} {a : Option Addr} {ys : List Int} (h : w.ownsRow base 3 1 (.slice a n c) n (ys.map (Value.int .i64))) (hn : ys.length = n) : Ints w a ys := by
  rcases h.2 with ⟨_, h0⟩ | ⟨g, cap', cur, he, _⟩
  · left; cases ys <;> simp_all
  · simp only [Value.slice.injEq] at he
    obtain ⟨rfl, _, rfl⟩ := he
    exact Ints.of_owns h
theorem Ints.part {w : World} {a : Option Addr} {zs : List Int} (h : Ints w a zs) (q : Nat) : zs.drop q = [] ∨ ∃ b off, a = some ⟨b, off, none⟩ ∧ Ints w (some ⟨b, off + q, none⟩) (zs.drop q) := by
  rcases h with h | ⟨b, off, ha, hc⟩
  · left; simp [h]
  · refine .inr ⟨b, off, ha, .inr ⟨b, off + q, rfl, fun i hi => ?_⟩⟩
    rw [List.length_drop] at hi
    have := hc (q + i) (by omega)
    rw [Nat.add_assoc, this]; simp [List.getD]
theorem Ints.upto {w : World} {a : Option Addr} {zs : List Int} (h : Ints w a zs) (q : Nat) : Ints w a (zs.take q) := by
  rcases h with h | ⟨b, off, ha, hc⟩
  · left; simp [h]
  · refine .inr ⟨b, off, ha, fun i hi => ?_⟩
    rw [List.length_take] at hi
    rw [hc i (by omega)]
    have : i < q := by omega
    simp [List.getD, this]
theorem infoInts : (Try.prog.info? 3).map (fun i => (i.zero, i.size, i.bytes)) = some (some (Value.int .i64 0), 1, 8) := by kernel_rfl
theorem stepInts (zs : List Int) (k : Nat) (hk : k < zs.length) :
    (((zs.take k).map (Value.int .i64)) ++ List.replicate (zs.length - k) (Value.int .i64 0)).set k (Value.int .i64 (zs.getD k 0)) =
      ((zs.take (k + 1)).map (Value.int .i64)) ++ List.replicate (zs.length - (k + 1)) (Value.int .i64 0) := by
  rw [set_step _ _ _ _ (by simp; omega) hk, List.take_succ_eq_append_getElem hk, List.map_append]
  simp [List.getD, hk]

set_option maxHeartbeats 800000 in
theorem cEqInts (a1 a2 : Option Addr) (c1 c2 : Nat) (xs : List Int) (w : World) (h1 : Ints w a1 xs) (h2 : Ints w a2 xs) (hl1 : xs.length ≤ maxLen) :
    Calls Try.prog 26 #[.slice a1 xs.length c1, .slice a2 xs.length c2] w fun e w' => e = .returned (.bool true) ∧ Below w.heap.size w w' := by
  unfold maxLen at hl1
  go_enter Try.func26, Try.ntmps26
  go_wp2
  go_loopw [5] (fun i wr => ∃ k : Nat, k ≤ xs.length ∧ i = .int .i64 k ∧ Below w.heap.size w wr) (fun i _ => xs.length - (intOf i).toNat)
  case atStart => exact ⟨0, Nat.zero_le _, rfl, Below.refl _ _⟩
  case round =>
    obtain ⟨k, hk, rfl, hb⟩ := hrel
    by_cases hlt : k < xs.length
    · rcases h1 with h1 | ⟨b1, o1, rfl, hc1⟩
      · simp [h1] at hlt
      rcases h2 with h2 | ⟨b2, o2, rfl, hc2⟩
      · simp [h2] at hlt
      have hk1 := ble hb (hc1 k hlt)
      have hk2 := ble hb (hc2 k hlt)
      clear hc1 hc2
      generalize xs.getD k 0 = z at *
      go_wp2
      go_quiet (fail)
      go_wp2
      go_roundw
      case rel => exact ⟨k + 1, by omega, by go_num, bdraw hb _⟩
      case measure => simp [intOf]; omega
    · go_wp2
      go_ret
      exact ⟨rfl, hb⟩
theorem cEqIntsn (B1 B2 n : Nat) (v1 v2 : Value) (xs : List Int) (w : World) (hn : xs.length = n) (h1 : w.ownsRow B1 3 1 v1 n (xs.map (Value.int .i64))) (h2 : w.ownsRow B2 3 1 v2 n (xs.map (Value.int .i64))) (hl : n ≤ maxLen) :
    Calls Try.prog 26 #[v1, v2] w fun e w' => e = .returned (.bool true) ∧ Below w.heap.size w w' := by
  obtain ⟨a1, c1, rfl⟩ := own_form h1
  obtain ⟨a2, c2, rfl⟩ := own_form h2
  subst hn
  exact cEqInts a1 a2 c1 c2 xs w (Ints.own h1 rfl) (Ints.own h2 rfl) hl

def marksInts (k : Int) (n : Nat) : List Int := (List.range n).map fun (i : Nat) => k + (i : Int)
theorem marksInts_len (k : Int) (n : Nat) : (marksInts k n).length = n := by simp [marksInts]
theorem marksInts_get (k : Int) (n i : Nat) (h : i < n) : (marksInts k n).getD i 0 = k + (i : Int) := by simp [marksInts, List.getD, h]
theorem markInts_step (xs : List Int) (k : Int) (i : Nat) (h : i < xs.length) :
    (((marksInts k i).map (Value.int .i64)) ++ ((xs.drop i).map (Value.int .i64))).set i (Value.int .i64 (k + (i : Int))) = ((marksInts k (i + 1)).map (Value.int .i64)) ++ ((xs.drop (i + 1)).map (Value.int .i64)) := by
  have e2 : i - ((marksInts k i).map (Value.int .i64)).length = 0 := by simp [marksInts_len]
  rw [List.set_append_right _ _ (by simp [marksInts_len]), e2, List.drop_eq_getElem_cons h, List.map_cons, List.set_cons_zero]
  simp [marksInts, List.range_succ]

set_option maxHeartbeats 800000 in
theorem cMarkIntsg (B g cap : Nat) (xs : List Int) (k : Int) (w : World) (ho : w.ownsRow B 3 1 (.slice (some ⟨g, 0, none⟩) xs.length cap) xs.length (xs.map (Value.int .i64))) (hl : xs.length ≤ 1048576) (hk0 : 0 ≤ k) (hk1 : k ≤ 10000000) :
    Calls Try.prog 29 #[.slice (some ⟨g, 0, none⟩) xs.length cap, .int .i64 k] w fun e w' => e = .returned (.int .i64 (k + xs.length)) ∧
      w'.ownsRow B 3 1 (.slice (some ⟨g, 0, none⟩) xs.length cap) xs.length ((marksInts k xs.length).map (Value.int .i64)) ∧ w.grownBy w' (some g) := by
  go_enter Try.func29, Try.ntmps29
  go_wp2
  go_loopw [1, 5] (fun kk i wr => ∃ j : Nat, j ≤ xs.length ∧ kk = .int .i64 (k + j) ∧ i = .int .i64 j ∧ wr.ownsRow B 3 1 (.slice (some ⟨g, 0, none⟩) xs.length cap) xs.length (((marksInts k j).map (Value.int .i64)) ++ ((xs.drop j).map (Value.int .i64))) ∧ w.grownBy wr (some g)) (fun _ i _ => xs.length - (intOf i).toNat)
  case atStart => exact ⟨0, Nat.zero_le _, by simp, rfl, by simpa [marksInts] using ho, World.grownBy.refl _ _⟩
  case round =>
    obtain ⟨j, hj, rfl, rfl, hown, hgr⟩ := hrel
    by_cases hlt : j < xs.length
    · have hfr := hown.frozenAt j
      have hcw : wr.cell? ⟨g, j, none⟩ = some (Value.int .i64 (xs.getD j 0)) := by
        rw [hown.cellAt j (by omega), List.getElem?_append_right (by simp [marksInts_len])]
        simp [marksInts_len, List.getD, hlt]
      obtain ⟨hown2, -⟩ := hown.stored j (Value.int .i64 (k + (j : Int)))
      rw [markInts_step xs k j hlt] at hown2
      have hgr3 := gset hgr j (Value.int .i64 (k + (j : Int)))
      clear hown hgr
      
      go_wp2
      go_roundw
      case rel => exact ⟨j + 1, by omega, by go_num, by go_num, hown2, hgr3⟩
      case measure => simp [intOf]; omega
    · obtain rfl : j = xs.length := by omega
      have hown2 : wr.ownsRow B 3 1 (.slice (some ⟨g, 0, none⟩) xs.length cap) xs.length ((marksInts k xs.length).map (Value.int .i64)) := by simpa using hown
      clear hown ho
      go_wp2
      go_ret
      exact ⟨rfl, hown2, hgr⟩

set_option maxHeartbeats 800000 in
theorem cMarkInts (B n : Nat) (v : Value) (xs : List Int) (k : Int) (w : World) (hn : xs.length = n) (ho : w.ownsRow B 3 1 v n (xs.map (Value.int .i64))) (hl : n ≤ 1048576) (hk0 : 0 ≤ k) (hk1 : k ≤ 10000000) :
    Calls Try.prog 29 #[v, .int .i64 k] w fun e w' => e = .returned (.int .i64 (k + n)) ∧
      w'.ownsRow B 3 1 v n ((marksInts k n).map (Value.int .i64)) ∧ w.grownBy w' v.ownBlock := by
  subst hn
  rcases ho.2 with ⟨rfl, h0⟩ | ⟨g, cap, cur, rfl, _⟩
  · have hx : xs = [] := by cases xs <;> simp_all
    subst hx
    go_enter Try.func29, Try.ntmps29
    go_wp2
    go_loop [1, 5] (fun kk i => i = .int .i64 0 ∧ kk = .int .i64 k) (fun _ _ => 0)
    case atStart => exact ⟨rfl, rfl⟩
    case round =>
      obtain ⟨rfl, rfl⟩ := hrel
      go_wp2
      go_ret
      exact ⟨by simp, by simpa [marksInts] using ho, World.grownBy.refl _ _⟩
  · exact cMarkIntsg B g cap xs k w ho hl hk0 hk1

set_option maxHeartbeats 800000 in
theorem cHeldIntsa (a : Option Addr) (cap n : Nat) (k : Int) (w : World) (hz : Ints w a (marksInts k n)) (hl : n ≤ 1048576) (hk0 : 0 ≤ k) (hk1 : k ≤ 10000000) :
    Calls Try.prog 30 #[.slice a n cap, .int .i64 k] w fun e w' => e = .returned (.int .i64 (k + n)) ∧ w' = w := by
  go_enter Try.func30, Try.ntmps30
  go_wp2
  go_loop [1, 5] (fun kk i => ∃ j : Nat, j ≤ n ∧ kk = .int .i64 (k + j) ∧ i = .int .i64 j) (fun _ i => n - (intOf i).toNat)
  case atStart => exact ⟨0, Nat.zero_le _, by simp, rfl⟩
  case round =>
    obtain ⟨j, hj, rfl, rfl⟩ := hrel
    by_cases hlt : j < n
    · rcases hz with hz | ⟨b, off, rfl, hc⟩
      · have := marksInts_len k n; rw [hz] at this; simp at this; omega
      have hck : w.cell? ⟨b, off + j, none⟩ = some (Value.int .i64 (k + (j : Int))) := (hc j (by rw [marksInts_len]; exact hlt)).trans (by rw [marksInts_get k n j hlt])
      clear hc
      
      go_wp2
      go_round
      case rel => exact ⟨j + 1, by omega, by go_num, by go_num⟩
      case measure => simp [intOf]; omega
    · obtain rfl : j = n := by omega
      clear hz
      go_wp2
      go_ret
      exact ⟨rfl, rfl⟩
theorem cHeldInts (B n : Nat) (v : Value) (k : Int) (w : World) (ho : w.ownsRow B 3 1 v n ((marksInts k n).map (Value.int .i64))) (hl : n ≤ 1048576) (hk0 : 0 ≤ k) (hk1 : k ≤ 10000000) :
    Calls Try.prog 30 #[v, .int .i64 k] w fun e w' => e = .returned (.int .i64 (k + n)) ∧ w' = w := by
  obtain ⟨a, c, rfl⟩ := own_form ho
  exact cHeldIntsa a c n k w (Ints.own ho (marksInts_len k n)) hl hk0 hk1
end Go.Proofs.Ytdjambejppanoaa
