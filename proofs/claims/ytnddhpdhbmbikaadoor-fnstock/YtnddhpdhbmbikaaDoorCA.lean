/- Units by themselves: right ones, their names, the library's Index and Contains at names, which fit. -/
import Derived.Test.YtnddhpdhbmbikaaDoorK0
import Derived.Deep.QuietTactic
import Derived.BigQuiet
namespace Go.Proofs.YtnddhpdhbmbikaaDoor
open Go.RowKit
theorem one_block' (w : World) (o : Obj) : (w.alloc o).heap[w.heap.size]? = some o := by
  show (w.heap.push o)[w.heap.size]? = _
  simp
theorem blk_keep {w w1 : World} {b : Nat} {o : Obj} (hb : Below w.heap.size w w1) (h : w.heap[b]? = some o) : w1.heap[b]? = some o := (hb.block b (lt_of_block h)).trans h
theorem blk_cell {w : World} {b : Nat} {cs : Array Value} {t : Nat} (h : w.heap[b]? = some (.cells cs t)) (i : Nat) : w.cell? ⟨b, i, none⟩ = cs[i]? := by
  simp [World.cell?, h, go_sem]
def namedU (x : Int) : UV := ⟨x, 0, 0, false⟩

set_option maxHeartbeats 800000 in
theorem cUnitOk (u : UV) (w : World) : Calls Tryd.prog 29 #[u.val] w fun e w' => e = .returned (.bool (uOk u)) ∧ Below w.heap.size w w' := by
  obtain ⟨i, c, m, b⟩ := u
  have E : Hid (uOk ⟨i, c, m, b⟩ = (inB i 1 9999 && inB c 1 9 && inB m 1 200)) := rfl
  generalize uOk ⟨i, c, m, b⟩ = R at *
  unfold UV.val
  have hb := balloc w (.cells #[.int .i64 i, .int .i64 c, .int .i64 m, .bool b] 34)
  go_enter Tryd.func29, Tryd.ntmps29
  go_wp2_with fail
  refine (cWithin i 1 9999 _).mono ?_
  rintro e w1 ⟨rfl, hw⟩
  subst hw
  cases h1 : inB i 1 9999
  · rw [h1] at E
    go_wp2
    go_ret
    exact ⟨ret_bool (by rw [E.out]; rfl), hb⟩
  rw [h1] at E
  go_wp2_with fail
  refine (cWithin c 1 9 _).mono ?_
  rintro e w1 ⟨rfl, hw⟩
  subst hw
  cases h2 : inB c 1 9
  · rw [h2] at E
    go_wp2
    go_ret
    exact ⟨ret_bool (by rw [E.out]; rfl), hb⟩
  rw [h2] at E
  go_wp2_with fail
  refine (cWithin m 1 200 _).mono ?_
  rintro e w1 ⟨rfl, hw⟩
  subst hw
  go_wp2
  go_ret
  exact ⟨ret_bool (by rw [E.out]; rfl), hb⟩

set_option maxHeartbeats 800000 in
theorem cNamed (u : UV) (w : World) : Calls Tryd.prog 31 #[u.val] w fun e w' => e = .returned (namedU u.i).val ∧ Below w.heap.size w w' := by
  obtain ⟨i, c, m, b⟩ := u
  unfold UV.val namedU
  go_enter Tryd.func31, Tryd.ntmps31
  go_wp2
  refine bodyPost_ret (v := .agg #[.int .i64 i, .int .i64 0, .int .i64 0, .bool false]) (by simp [results, Tryd.results31, go_sem]) rfl ⟨rfl, ?_⟩
  exact btrans (balloc _ _) (balloc _ _)

set_option maxHeartbeats 800000 in
theorem cTurned (u : UV) (w : World) : Calls Tryd.prog 44 #[u.val] w fun e w' => e = .returned (turnU u).val ∧ Below w.heap.size w w' := by
  obtain ⟨i, c, m, b⟩ := u
  unfold UV.val turnU
  go_enter Tryd.func44, Tryd.ntmps44
  go_wp2
  refine bodyPost_ret (v := .agg #[.int .i64 i, .int .i64 c, .int .i64 m, .bool (!b)]) (by simp [results, Tryd.results44, go_sem]) rfl ⟨rfl, ?_⟩
  exact btrans (balloc _ _) (balloc _ _)

set_option maxHeartbeats 1600000 in
theorem cIndexN (a : Option Addr) (cap : Nat) (xs : List Int) (y : Int) (w : World) (he : Us w a (xs.map namedU)) (hl : xs.length ≤ 1048576) :
    Calls Tryd.prog 45 #[.slice a xs.length cap, (namedU y).val] w fun e w' => (∃ r : Int, e = .returned (.int .i64 r) ∧ ((0 ≤ r ∧ y ∈ xs) ∨ (r = -1 ∧ y ∉ xs))) ∧ Below w.heap.size w w' := by
  unfold UV.val namedU
  have hb0 := balloc w (.cells #[.int .i64 y, .int .i64 0, .int .i64 0, .bool false] 34)
  have A0 := one_block' w (.cells #[.int .i64 y, .int .i64 0, .int .i64 0, .bool false] 34)
  have he1 := he.below hb0
  go_enter Tryd.func45, Tryd.ntmps45
  go_wp2
  generalize (w.alloc (.cells #[.int .i64 y, .int .i64 0, .int .i64 0, .bool false] 34)) = W at *
  go_loopw [8] (fun i wr => ∃ k : Nat, k ≤ xs.length ∧ i = .int .i64 k ∧ (∀ j, j < k → xs.getD j 0 ≠ y) ∧ Below W.heap.size W wr) (fun i _ => xs.length - (intOf i).toNat)
  case atStart => exact ⟨0, Nat.zero_le _, rfl, fun j hj => absurd hj (by omega), Below.refl _ _⟩
  case round =>
    obtain ⟨k, hk, rfl, hn, hb⟩ := hrel
    have hn := hide hn
    by_cases hlt : k < xs.length
    · rcases he1 with h | ⟨b1, o1, rfl, q1⟩
      · have : xs = [] := by simpa using h
        simp [this] at hlt
      obtain ⟨p0, p1, p2, p3⟩ := q1 k (by simpa using hlt)
      have eq1 : (xs.map namedU).getD k UV.zero = namedU (xs.getD k 0) := by simp [List.getD, hlt]
      rw [eq1] at p0 p1 p2 p3
      unfold namedU at p0 p1 p2 p3
      dsimp only at p0 p1 p2 p3
      replace p0 := ble hb p0
      replace p1 := ble hb p1
      replace p2 := ble hb p2
      replace p3 := ble hb p3
      have c0 := blk_cell (blk_keep hb A0) 0
      have c1 := blk_cell (blk_keep hb A0) 1
      have c2 := blk_cell (blk_keep hb A0) 2
      have c3 := blk_cell (blk_keep hb A0) 3
      simp at c0 c1 c2 c3
      have M : Hid (xs.getD k 0 ∈ xs) := hide (by simp [List.getD, hlt])
      have N1 : Hid (y ≠ xs.getD k 0 → ∀ j, j < k + 1 → xs.getD j 0 ≠ y) := hide (fun h j hj => by
        by_cases e : j = k
        · subst e; exact fun h' => h h'.symm
        · exact hn.out j (by omega))
      clear q1 he A0 eq1 hn
      generalize hx : xs.getD k 0 = x at *
      clear hx
      by_cases hxy : y = x
      · subst hxy
        go_wp2_with fail
        go_quiet (fail)
        go_wp2
        go_ret
        exact ⟨⟨_, rfl, .inl ⟨by omega, M.out⟩⟩, btrans hb0 (bdraw hb _)⟩
      · have hne : (y == x) = false := by simpa using hxy
        have HN := hide hxy
        clear hxy
        go_wp2_with fail
        go_quiet (fail)
        go_wp2
        go_roundw
        case rel => exact ⟨k + 1, by omega, by go_num, N1.out HN.out, bdraw hb _⟩
        case measure => simp [intOf]; omega
    · obtain rfl : k = xs.length := by omega
      have NI : y ∉ xs := by
        intro hm
        obtain ⟨j, hj, e⟩ := List.getElem_of_mem hm
        exact hn.out j hj (by simpa [List.getD, hj] using e)
      have NI := hide NI
      clear he he1 hn
      go_wp2
      go_ret
      exact ⟨⟨_, rfl, .inr ⟨rfl, NI.out⟩⟩, btrans hb0 hb⟩

set_option maxHeartbeats 800000 in
theorem cContN (a : Option Addr) (cap : Nat) (xs : List Int) (y : Int) (w : World) (he : Us w a (xs.map namedU)) (hl : xs.length ≤ 1048576) :
    Calls Tryd.prog 30 #[.slice a xs.length cap, (namedU y).val] w fun e w' => e = .returned (.bool (decide (y ∈ xs))) ∧ Below w.heap.size w w' := by
  have C := fun w he => cIndexN a cap xs y w he hl
  unfold UV.val namedU at C ⊢
  have hb0 := balloc w (.cells #[.int .i64 y, .int .i64 0, .int .i64 0, .bool false] 34)
  go_enter Tryd.func30, Tryd.ntmps30
  go_wp2_with fail
  refine (C _ (he.below hb0)).mono ?_
  rintro e w1 ⟨⟨r, rfl, hr⟩, hb1⟩
  have hB := btrans hb0 hb1
  rcases hr with ⟨h0, hm⟩ | ⟨rfl, hm⟩
  · have E := hide (show decide (y ∈ xs) = true by simp [hm])
    clear hm
    go_wp2
    go_ret
    exact ⟨ret_bool (by rw [E.out]), hB⟩
  · have E := hide (show decide (y ∈ xs) = false by simp [hm])
    clear hm
    go_wp2
    go_ret
    exact ⟨ret_bool (by rw [E.out]), hB⟩
end Go.Proofs.YtnddhpdhbmbikaaDoor
