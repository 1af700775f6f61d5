/- Which edge lies between two nodes: of the program and of the model. -/
import Derived.Test.YthfknkmabjgklaaMC
namespace Go.Proofs.Ythfknkmabjgklaa
open Go.RowKit
theorem hit_no1 {x y : Int} {e : EdgeV} (h1 : ¬ e.a = x) (h2 : ¬ e.b = x) : hitB x y e = false := by simp [hitB, h1, h2]
/-- The four ways in which an edge stands to two nodes. -/
theorem hit_ways {x y : Int} {e : EdgeV} (h : hitB x y e = false) : (¬ e.a = x ∨ ¬ e.b = y) ∧ (¬ e.b = x ∨ ¬ e.a = y) := by
  simp only [hitB, Bool.or_eq_false_iff, Bool.and_eq_false_iff, decide_eq_false_iff_not] at h
  exact h

/-- What joining answers. -/
def joinA (es : List EdgeV) (x y : Int) : Int × Int := if placeE es x y < es.length then (placeE es x y, dirE es x y) else (-1, 0)
theorem join_found {es : List EdgeV} {x y : Int} {k : Nat} (hk : k < es.length) (hp : placeE es x y = k) (d : Int) (hd : d = if (es.getD k EdgeV.zero).a = x then 0 else 1) : joinA es x y = ((k : Int), d) := by
  unfold joinA dirE
  rw [hp, if_pos hk, hd]
theorem join_none {es : List EdgeV} {x y : Int} (hp : placeE es x y = es.length) : joinA es x y = (-1, 0) := by
  unfold joinA
  rw [hp, if_neg (by omega)]

set_option maxHeartbeats 3200000 in
theorem cJoining (a : Option Addr) (cap : Nat) (n : Int) (es : List EdgeV) (x y : Int) (w : World) (he : Edges w a es) (hl : es.length ≤ 1048576) :
    Calls Try.prog 73 #[.agg #[.int .i64 n, .slice a es.length cap], .int .i64 x, .int .i64 y] w fun e w' => e = .returned (.tuple #[.int .i64 (joinA es x y).1, .int .i64 (joinA es x y).2]) ∧ Below w.heap.size w w' := by
  have hW := balloc w (.cells #[.int .i64 n, .slice a es.length cap] 32)
  go_enter Try.func73, Try.ntmps73
  go_wp2
  go_loopw [13] (fun i wr => ∃ k : Nat, k ≤ es.length ∧ i = .int .i64 k ∧ Hid (∀ j, j < k → hitB x y (es.getD j EdgeV.zero) = false) ∧ Below w.heap.size w wr) (fun i _ => es.length - (intOf i).toNat)
  case atStart => exact ⟨0, Nat.zero_le _, rfl, hide (fun j h => by omega), hW⟩
  case round =>
    obtain ⟨k, hk, rfl, hno, hb⟩ := hrel
    clear hW
    by_cases hlt : k < es.length
    · have hlt' : (k : Int) < (es.length : Int) := by omega
      rcases he with he | ⟨b, off, rfl, hc⟩
      · simp [he] at hlt
      obtain ⟨q0, q1, q2, q3⟩ := hc k hlt
      have p0 := ble hb q0
      have p1 := ble hb q1
      have p2 := ble hb q2
      have p3 := ble hb q3
      clear hc q0 q1 q2 q3
      have HB := fun o => btrans hb (balloc wr o)
      have HF : ∀ d : Int, hitB x y (es.getD k EdgeV.zero) = true → (d = if (es.getD k EdgeV.zero).a = x then 0 else 1) → Hid (joinA es x y = ((k : Int), d)) := fun d h1 h2 => hide (join_found hlt (place_found hlt hno.out h1) d h2)
      have HN : hitB x y (es.getD k EdgeV.zero) = false → Hid (∀ j, j < k + 1 → hitB x y (es.getD j EdgeV.zero) = false) := fun h => hide (fun j hj => by
        by_cases e : j = k
        · subst e; exact h
        · exact hno.out j (by omega))
      clear hno
      generalize es.getD k EdgeV.zero = E at *
      obtain ⟨ea, eb, el, em⟩ := E
      dsimp only at p0 p1 p2 p3 HF HN
      by_cases h1 : ea = x
      · by_cases h2 : eb = y
        · have Z := HF 0 (hit_iff.2 (.inl ⟨h1, h2⟩)) (by simp [h1])
          clear HF HN
          go_wp2
          go_ret2
          exact ⟨by rw [Z.out]; rfl, HB _⟩
        · by_cases h3 : eb = x
          · have h4 : ¬ ea = y := by omega
            have Z := HN (by simp [hitB, h2, h4])
            clear HF HN
            go_wp2
            go_roundw
            case rel => exact ⟨k + 1, by omega, by go_num, Z, HB _⟩
            case measure => simp [intOf]; omega
          · have Z := HN (by simp [hitB, h2, h3])
            clear HF HN
            go_wp2
            go_roundw
            case rel => exact ⟨k + 1, by omega, by go_num, Z, HB _⟩
            case measure => simp [intOf]; omega
      · by_cases h2 : eb = x
        · by_cases h3 : ea = y
          · have Z := HF 1 (hit_iff.2 (.inr ⟨h2, h3⟩)) (by simp [h1])
            clear HF HN
            go_wp2
            go_ret2
            exact ⟨by rw [Z.out]; rfl, HB _⟩
          · have Z := HN (by simp [hitB, h1, h3])
            clear HF HN
            go_wp2
            go_roundw
            case rel => exact ⟨k + 1, by omega, by go_num, Z, HB _⟩
            case measure => simp [intOf]; omega
        · have Z := HN (by simp [hitB, h1, h2])
          clear HF HN
          go_wp2
          go_roundw
          case rel => exact ⟨k + 1, by omega, by go_num, Z, HB _⟩
          case measure => simp [intOf]; omega
    · have hlt' : ¬ ((k : Int) < (es.length : Int)) := by omega
      obtain rfl : k = es.length := by omega
      have Z := hide (join_none (place_none hno.out))
      clear hno he
      go_wp2
      go_ret2
      exact ⟨by rw [Z.out]; rfl, hb⟩

set_option maxHeartbeats 800000 in
theorem cOther (e : EdgeV) (x : Int) (w : World) : Calls Try.prog 69 #[e.val, .int .i64 x] w fun r w' => r = .returned (.int .i64 (if e.a = x then e.b else if e.b = x then e.a else -1)) ∧ Below w.heap.size w w' := by
  obtain ⟨ea, eb, el, em⟩ := e
  unfold EdgeV.val
  have hW := fun o => balloc w o
  generalize hr : (if ea = x then eb else if eb = x then ea else -1) = r
  by_cases h1 : ea = x
  · have Z := hide (show r = eb by rw [← hr, if_pos h1])
    clear hr
    go_enter Try.func69, Try.ntmps69
    go_wp2
    go_ret
    exact ⟨ret_int Z.out.symm, hW _⟩
  · by_cases h2 : eb = x
    · have Z := hide (show r = ea by rw [← hr, if_neg h1, if_pos h2])
      clear hr
      go_enter Try.func69, Try.ntmps69
      go_wp2
      go_ret
      exact ⟨ret_int Z.out.symm, hW _⟩
    · have Z := hide (show r = -1 by rw [← hr, if_neg h1, if_neg h2])
      clear hr
      go_enter Try.func69, Try.ntmps69
      go_wp2
      go_ret
      exact ⟨ret_int Z.out.symm, hW _⟩
theorem other_hit {x y : Int} {e : EdgeV} (hy : 0 ≤ y) : (if e.a = x then e.b else if e.b = x then e.a else -1) = y ↔ hitB x y e = true := by
  rw [hit_iff]
  by_cases h1 : e.a = x
  · rw [if_pos h1]; omega
  · rw [if_neg h1]
    by_cases h2 : e.b = x
    · rw [if_pos h2]; omega
    · rw [if_neg h2]; omega

set_option maxHeartbeats 3200000 in
theorem cEdgeS (a : Option Addr) (cap : Nat) (n : Int) (es : List EdgeV) (x y : Int) (w : World) (he : Edges w a es) (hl : es.length ≤ 1048576) (hy : 0 ≤ y) :
    Calls Try.prog 56 #[.agg #[.int .i64 n, .slice a es.length cap], .int .i64 x, .int .i64 y] w fun e w' => e = .returned (.int .i64 (joinA es x y).1) ∧ Below w.heap.size w w' := by
  have hW := balloc w (.cells #[.int .i64 n, .slice a es.length cap] 32)
  have X0 := Bx2.new w (.int .i64 n) (.slice a es.length cap) 32
  go_enter Try.func56, Try.ntmps56
  go_wp2
  go_loopw [7] (fun i wr => ∃ k : Nat, k ≤ es.length ∧ i = .int .i64 k ∧ Hid (∀ j, j < k → hitB x y (es.getD j EdgeV.zero) = false) ∧ Below w.heap.size w wr ∧ Bx2 wr w.heap.size (.int .i64 n) (.slice a es.length cap)) (fun i _ => es.length - (intOf i).toNat)
  case atStart => exact ⟨0, Nat.zero_le _, rfl, hide (fun j h => by omega), hW, X0⟩
  case round =>
    obtain ⟨k, hk, rfl, hno, hb, X⟩ := hrel
    clear hW X0
    obtain ⟨x0, x1⟩ := id X
    by_cases hlt : k < es.length
    · have hlt' : (k : Int) < (es.length : Int) := by omega
      rcases he with he | ⟨b, off, rfl, hc⟩
      · simp [he] at hlt
      obtain ⟨q0, q1, q2, q3⟩ := hc k hlt
      have p0 := ble hb q0
      have p1 := ble hb q1
      have p2 := ble hb q2
      have p3 := ble hb q3
      clear hc q0 q1 q2 q3
      have HF : hitB x y (es.getD k EdgeV.zero) = true → Hid ((joinA es x y).1 = (k : Int)) := fun h1 => hide (by rw [join_found hlt (place_found hlt hno.out h1) _ rfl])
      have HN : hitB x y (es.getD k EdgeV.zero) = false → Hid (∀ j, j < k + 1 → hitB x y (es.getD j EdgeV.zero) = false) := fun h => hide (fun j hj => by
        by_cases e : j = k
        · subst e; exact h
        · exact hno.out j (by omega))
      have HO := other_hit (x := x) (y := y) (e := es.getD k EdgeV.zero) hy
      have CO := fun V => cOther (es.getD k EdgeV.zero) x V
      unfold EdgeV.val at CO
      clear hno
      generalize es.getD k EdgeV.zero = E at *
      obtain ⟨ea, eb, el, em⟩ := E
      dsimp only at p0 p1 p2 p3 HF HN HO CO
      generalize (if ea = x then eb else if eb = x then ea else -1) = o at *
      cases hq : hitB x y ⟨ea, eb, el, em⟩
      · have Z := HN hq
        have ho : ¬ o = y := fun h => by rw [HO.1 h] at hq; cases hq
        clear HF HN HO
        go_wp2_with fail
        refine (CO _).mono ?_
        rintro e w1 ⟨rfl, hb1⟩
        have HB := btrans hb hb1
        have X1 := X.below hb1
        go_wp2
        go_roundw
        case rel => exact ⟨k + 1, by omega, by go_num, Z, HB, X1⟩
        case measure => simp [intOf]; omega
      · have Z := HF hq
        have ho : o = y := HO.2 hq
        clear HF HN HO
        subst ho
        go_wp2_with fail
        refine (CO _).mono ?_
        rintro e w1 ⟨rfl, hb1⟩
        have HB := btrans hb hb1
        go_wp2
        go_ret
        exact ⟨ret_int Z.out.symm, HB⟩
    · have hlt' : ¬ ((k : Int) < (es.length : Int)) := by omega
      obtain rfl : k = es.length := by omega
      have Z := hide (show (joinA es x y).1 = -1 by rw [join_none (place_none hno.out)])
      clear hno he
      go_wp2
      go_ret
      exact ⟨ret_int Z.out.symm, hb⟩
end Go.Proofs.Ythfknkmabjgklaa
