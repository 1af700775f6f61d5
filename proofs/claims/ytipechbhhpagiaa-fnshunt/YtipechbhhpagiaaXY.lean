/- sameYard and within of the laws. -/
import Derived.Test.YtipechbhhpagiaaXH
import Derived.Test.YtipechbhhpagiaaLM
import Derived.Test.YtipechbhhpagiaaWK
namespace Go.Proofs.Ytipechbhhpagiaa
open Go.RowKit
set_option maxHeartbeats 800000 in
theorem cSame2 (a1 a2 : Option Addr) (c1 c2 : Nat) (xs ys : List Int) (w : World) (h1 : Ints w a1 xs) (h2 : Ints w a2 ys) (hl : xs.length ≤ 1048576) (hm : ys.length ≤ 1048576) (hd : xs = ys ∨ xs.length ≠ ys.length) :
    Calls Try.prog 26 #[.slice a1 xs.length c1, .slice a2 ys.length c2] w fun e w' => e = .returned (.bool (decide (xs = ys))) ∧ Below w.heap.size w w' := by
  rcases hd with rfl | hd
  · simpa using cSameInts a1 a2 c1 c2 xs w h1 h2 hl
  · have hne : ¬ xs = ys := fun e => hd (by rw [e])
    rw [decide_eq_false hne]
    clear hne h1 h2
    generalize xs.length = N at *
    generalize ys.length = M at *
    have hd2 : ¬ (N : Int) = (M : Int) := by omega
    go_enter Try.func26, Try.ntmps26
    go_wp2
    go_ret
    exact ⟨rfl, Below.refl _ _⟩
theorem rowsx {A B : List (List Int)} (h : B.length = A.length) (hk : ∀ i, i < A.length → rwA A i = rwA B i) : A = B := by
  refine List.ext_getElem h.symm (fun i h1 h2 => ?_)
  have := hk i h1
  simpa [rwA, List.getD, h1, h2] using this
set_option maxRecDepth 20000 in
set_option maxHeartbeats 3200000 in
theorem cYard (ra1 ra2 : Option Addr) (rc1 rc2 : Nat) (room : List Int) (a1 a2 : Option Addr) (c1 c2 : Nat) (us vs : List Value) (A B : List (List Int)) (w : World) (I1 : Ints w ra1 room) (I2 : Ints w ra2 room) (R1 : RowsW w a1 us A) (R2 : RowsW w a2 vs B) (hAB : B.length = A.length) (hm : room.length ≤ 1048576) (hn : A.length ≤ 1048576) (hr : ∀ i, i < A.length → (rwA A i).length ≤ 1048576 ∧ (rwA B i).length ≤ 1048576) (hd : ∀ i, i < A.length → rwA A i = rwA B i ∨ (rwA A i).length ≠ (rwA B i).length) :
    Calls Try.prog 18 #[.agg #[.slice ra1 room.length rc1, .slice a1 A.length c1], .agg #[.slice ra2 room.length rc2, .slice a2 B.length c2]] w fun e w' => e = .returned (.bool (decide (A = B))) ∧ Below w.heap.size w w' := by
  have hABH := hide hAB
  rw [hAB]
  clear hAB
  have HB := btrans (balloc w (.cells #[.slice ra1 room.length rc1, .slice a1 A.length c1] 27)) (balloc _ (.cells #[.slice ra2 room.length rc2, .slice a2 A.length c2] 27))
  have k1 := heap_alloc_new w (.cells #[.slice ra1 room.length rc1, .slice a1 A.length c1] 27)
  have k2 := heap_alloc_new (w.alloc (.cells #[.slice ra1 room.length rc1, .slice a1 A.length c1] 27)) (.cells #[.slice ra2 room.length rc2, .slice a2 A.length c2] 27)
  rw [sz1] at k2
  have k1' := ((balloc (w.alloc (.cells #[.slice ra1 room.length rc1, .slice a1 A.length c1] 27)) (.cells #[.slice ra2 room.length rc2, .slice a2 A.length c2] 27)).block w.heap.size (by rw [sz1]; omega)).trans k1
  clear k1
  go_enter Try.func18, Try.ntmps18
  go_wp2_with fail
  generalize (w.alloc (Obj.cells #[Value.slice ra1 room.length rc1, Value.slice a1 A.length c1] 27)).alloc (Obj.cells #[Value.slice ra2 room.length rc2, Value.slice a2 A.length c2] 27) = W at *
  refine (cSameInts ra1 ra2 rc1 rc2 room W (I1.below HB) (I2.below HB) hm).mono ?_
  rintro e w3 ⟨rfl, hb3⟩
  have q1 := blk_keep hb3 k1'
  have q2 := blk_keep hb3 k2
  have x1 : w3.cell? ⟨w.heap.size, 1, none⟩ = some (.slice a1 A.length c1) := by rw [cell_blk q1]; rfl
  have x2 : w3.cell? ⟨w.heap.size + 1, 1, none⟩ = some (.slice a2 A.length c2) := by rw [cell_blk q2]; rfl
  replace R1 := R1.below HB
  replace R2 := R2.below HB
  have e1 := hide R1.cell
  have e2 := hide R2.cell
  have l1 := hide R1.len
  have l2 := hide R2.len
  have y1 := hide R1.each
  have y2 := hide R2.each
  have k1H := hide k1'
  have k2H := hide k2
  have hdH := hide hd
  have hrH := hide hr
  clear R1 R2 I1 I2 k1' k2 q1 q2 hd hr
  go_wp2
  clear x1 x2
  go_loopw [5] (fun i wr => ∃ k : Nat, k ≤ A.length ∧ i = .int .i64 k ∧ Below W.heap.size W wr ∧ Hid (∀ i, i < k → rwA A i = rwA B i)) (fun i _ => A.length - (intOf i).toNat)
  case atStart => exact ⟨0, Nat.zero_le _, rfl, hb3, hide (fun i hi => absurd hi (Nat.not_lt_zero i))⟩
  case round =>
    clear hb3
    obtain ⟨k, hk, rfl, hb, hE⟩ := hrel
    have q1 := blk_keep hb k1H.out
    have q2 := blk_keep hb k2H.out
    have x1 : wr.cell? ⟨w.heap.size, 1, none⟩ = some (.slice a1 A.length c1) := by rw [cell_blk q1]; rfl
    have x2 : wr.cell? ⟨w.heap.size + 1, 1, none⟩ = some (.slice a2 A.length c2) := by rw [cell_blk q2]; rfl
    clear q1 q2
    by_cases hlt : k < A.length
    · obtain ⟨b1, o1, rfl, q1⟩ : ∃ b off, a1 = some ⟨b, off, none⟩ ∧ ∀ i, (hi : i < us.length) → W.cell? ⟨b, off + i, none⟩ = some us[i] := by
        rcases e1.out with h | h
        · simp [h] at hlt
        · exact h
      obtain ⟨b2, o2, rfl, q2⟩ : ∃ b off, a2 = some ⟨b, off, none⟩ ∧ ∀ i, (hi : i < vs.length) → W.cell? ⟨b, off + i, none⟩ = some vs[i] := by
        rcases e2.out with h | h
        · have := hABH.out; rw [h] at this; simp at this; omega
        · exact h
      have hu : k < us.length := by have := l1.out; omega
      have hv : k < vs.length := by have := l2.out; have := hABH.out; omega
      obtain ⟨z1, d1, v1, J1, -⟩ := y1.out k hu
      obtain ⟨z2, d2, v2, J2, -⟩ := y2.out k hv
      have p1 := ble hb (q1 k hu)
      have p2 := ble hb (q2 k hv)
      rw [v1] at p1
      rw [v2] at p2
      replace J1 : Ints wr.drew z1 (rwA A k) := (J1.below hb).below (bdraw (Below.refl _ _) 1)
      replace J2 : Ints wr.drew z2 (rwA B k) := (J2.below hb).below (bdraw (Below.refl _ _) 1)
      have CE1 := cSame2 z1 z2 d1 d2 (rwA A k) (rwA B k) wr.drew J1 J2 (hrH.out k hlt).1 (hrH.out k hlt).2 (hdH.out k hlt)
      clear q1 q2 v1 v2 J1 J2
      obtain ⟨dc, hdc⟩ : ∃ dc, decide (rwA A k = rwA B k) = dc := ⟨_, rfl⟩
      rw [hdc] at CE1
      replace hdc := hide hdc
      generalize (rwA A k).length = X at *
      generalize (rwA B k).length = Y at *
      go_wp2
      go_region_held3 (fun w' => w'.cell? ⟨w.heap.size, 1, none⟩ = some (.slice (some ⟨b1, o1, none⟩) A.length c1) ∧ w'.cell? ⟨w.heap.size + 1, 1, none⟩ = some (.slice (some ⟨b2, o2, none⟩) A.length c2) ∧ w'.cell? ⟨b1, o1 + k, none⟩ = some (.slice z1 X d1) ∧ w'.cell? ⟨b2, o2 + k, none⟩ = some (.slice z2 Y d2)) (go_keep) (first | (go_at_call 26; with_reducible refine CE1.mono ?_; rintro e wc ⟨rfl, hbc⟩; have Bc := undrew hbc; have p1' := ble Bc p1; have p2' := ble Bc p2; have x1' := ble Bc x1; have x2' := ble Bc x2))
      have hb5 := btrans hb Bc
      clear CE1 x1 x2 x1' x2' p1 p2 p1' p2' hb Bc
      cases dc
      · have hno : decide (A = B) = false := decide_eq_false (fun e => of_decide_eq_false hdc.out (by rw [e]))
        replace hno := hide hno
        go_wp2
        go_ret
        exact ⟨by rw [hno.out]; rfl, btrans HB hb5⟩
      · have hE2 : Hid (∀ i, i < k + 1 → rwA A i = rwA B i) := hide (fun i hi => by
          by_cases e : i = k
          · subst e; exact of_decide_eq_true hdc.out
          · exact hE.out i (by omega))
        go_wp2
        go_roundw
        case rel => exact ⟨k + 1, by omega, by go_num, hb5, hE2⟩
        case measure => simp [intOf]; omega
    · obtain rfl : k = A.length := by omega
      have hyes : decide (A = B) = true := decide_eq_true (rowsx hABH.out hE.out)
      replace hyes := hide hyes
      go_wp2
      go_ret
      exact ⟨by rw [hyes.out]; rfl, btrans HB hb⟩
set_option maxHeartbeats 800000 in
theorem cWithinL (a : Option Addr) (cap : Nat) (xs : List Int) (x : Int) (w : World) (h1 : Ints w a xs) (hl : xs.length ≤ 1048576) :
    Calls Try.prog 19 #[.slice a xs.length cap, .int .i64 x] w fun e w' => e = .returned (.bool (decide (x ∈ xs))) ∧ w' = w := by
  go_enter Try.func19, Try.ntmps19
  go_wp2
  go_loop [5] (fun i => ∃ k : Nat, k ≤ xs.length ∧ i = .int .i64 k ∧ Hid (∀ j, j < k → xs.getD j 0 ≠ x)) (fun i => xs.length - (intOf i).toNat)
  case atStart => exact ⟨0, Nat.zero_le _, rfl, hide (fun j hj => absurd hj (Nat.not_lt_zero j))⟩
  case round =>
    obtain ⟨k, hk, rfl, hE⟩ := hrel
    by_cases hlt : k < xs.length
    · rcases h1 with h | ⟨b1, o1, rfl, q1⟩
      · simp [h] at hlt
      have p1 := q1 k hlt
      clear q1
      have hmem : Hid (xs.getD k 0 ∈ xs) := hide (by simp [List.getD, hlt])
      obtain ⟨y, hy⟩ : ∃ y, xs.getD k 0 = y := ⟨_, rfl⟩
      rw [hy] at p1 hmem
      replace hy := hide hy
      by_cases e : y = x
      · subst e
        have hyes : Hid (decide (y ∈ xs) = true) := hide (decide_eq_true hmem.out)
        go_wp2
        go_ret
        exact ⟨by rw [hyes.out]; rfl, rfl⟩
      · have hE2 : Hid (∀ j, j < k + 1 → xs.getD j 0 ≠ x) := hide (fun j hj => by
          by_cases ej : j = k
          · subst ej; rw [hy.out]; exact e
          · exact hE.out j (by omega))
        go_wp2
        go_round
        case rel => exact ⟨k + 1, by omega, by go_num, hE2⟩
        case measure => simp [intOf]; omega
    · obtain rfl : k = xs.length := by omega
      have hno : Hid (decide (x ∈ xs) = false) := hide (decide_eq_false (fun h => by
        obtain ⟨j, hj, rfl⟩ := List.getElem_of_mem h
        exact hE.out j hj (by simp [List.getD, hj])))
      go_wp2
      go_ret
      exact ⟨by rw [hno.out]; rfl, rfl⟩
end Go.Proofs.Ytipechbhhpagiaa
