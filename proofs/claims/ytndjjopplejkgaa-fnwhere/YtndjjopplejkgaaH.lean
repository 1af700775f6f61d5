/- Where a trip is: of the program and of the model. -/
import Derived.Test.YtndjjopplejkgaaWA
namespace Go.Proofs.Ytndjjopplejkgaa
open Go.RowKit
def scanW (m : Int) : Nat → List HaltV → Int × Int
  | _, [] => (-1, 1)
  | i, c :: cs => if m < c.a then ((i : Int) - 1, 1) else if m ≤ c.d then ((i : Int), 0) else scanW m (i + 1) cs
def whereB (t : TripV) (m : Int) : Int × Int :=
  if tripB t = false then (-1, 2) else if m < (t.calls.getD 0 HaltV.zero).a then (-1, 0) else scanW m 0 t.calls
theorem scan_drop {m : Int} {cs : List HaltV} {k : Nat} (hk : k < cs.length) : scanW m k (cs.drop k) = (if m < (cs.getD k HaltV.zero).a then ((k : Int) - 1, 1) else if m ≤ (cs.getD k HaltV.zero).d then ((k : Int), 0) else scanW m (k + 1) (cs.drop (k + 1))) := by
  have e : cs.getD k HaltV.zero = cs[k] := by simp [List.getD, hk]
  rw [List.drop_eq_getElem_cons hk, e]; rfl
theorem trip_parts {t : TripV} (h : tripB t = true) : nameB t.name = true ∧ 2 ≤ t.calls.length ∧ t.calls.length ≤ 12 ∧ t.calls.all callB = true ∧ chainB t.calls = true := by
  simp only [tripB, Bool.and_eq_true] at h
  obtain ⟨⟨⟨h1, h2⟩, h3⟩, h4⟩ := h
  have := inB_true h2
  exact ⟨h1, by omega, by omega, h3, h4⟩
theorem call_at {cs : List HaltV} (h : cs.all callB = true) {k : Nat} (hk : k < cs.length) : callB (cs.getD k HaltV.zero) = true := by
  have e : cs.getD k HaltV.zero = cs[k] := by simp [List.getD, hk]
  rw [e]; exact List.all_eq_true.1 h _ (List.getElem_mem hk)
theorem call_parts {c : HaltV} (h : callB c = true) : (0 ≤ c.n ∧ c.n ≤ 29) ∧ (0 ≤ c.a ∧ c.a ≤ c.d) ∧ c.d ≤ 100000 := by
  simp only [callB, Bool.and_eq_true] at h
  have h1 := inB_true h.1.1
  have h2 := inB_true h.1.2
  have h3 := inB_true h.2
  exact ⟨h1, h3, h2.2⟩

set_option maxHeartbeats 1600000 in
theorem cWhereI (s : ByteArray) (a : Option Addr) (cap : Nat) (cs : List HaltV) (m : Int) (w : World) (hz : Halts w a cs) (hl : cs.length ≤ 1048576) (hcap : cs.length ≤ cap) :
    Calls Try.prog 13 #[.agg #[.string s, .slice a cs.length cap], .int .i64 m] w fun e w' => e = .returned (.tuple #[.int .i64 (whereB ⟨s, cs⟩ m).1, .int .i64 (whereB ⟨s, cs⟩ m).2]) ∧ Below w.heap.size w w' := by
  have E : Hid (whereB ⟨s, cs⟩ m = (if tripB ⟨s, cs⟩ = false then (-1, 2) else if m < (cs.getD 0 HaltV.zero).a then (-1, 0) else scanW m 0 cs)) := rfl
  generalize whereB ⟨s, cs⟩ m = res at *
  have A0 := one_block w (.cells #[.string s, .slice a cs.length cap] 26)
  have HB := balloc w (.cells #[.string s, .slice a cs.length cap] 26)
  go_enter Try.func13, Try.ntmps13
  go_wp2_with fail
  refine (cTripI s a cap cs _ (hz.below HB) hl hcap).mono ?_
  rintro e w1 ⟨rfl, hb⟩
  replace HB := btrans HB hb
  replace A0 := blk_keep hb A0
  clear hb
  cases hT : tripB ⟨s, cs⟩
  · have hq := hide (show res = (-1, 2) by rw [E.out, hT, if_pos rfl])
    clear E hT
    go_wp2
    go_ret2
    exact ⟨by rw [hq.out]; rfl, HB⟩
  obtain ⟨-, l1, l2, -, -⟩ := trip_parts hT
  dsimp only at l1 l2
  rcases hz with h | ⟨b, off, rfl, hc⟩
  · simp [h] at l1
  obtain ⟨p0, p1, p2⟩ := hc 0 (by omega)
  replace p1 := ble HB p1
  simp only [Nat.zero_mul, Nat.add_zero] at p1
  obtain ⟨⟨x0, x1⟩, -⟩ := blk2 A0
  have l1' : (0 : Int) < (cs.length : Int) := by omega
  have l1'' : 0 < cs.length := by omega
  by_cases hm : m < (cs.getD 0 HaltV.zero).a
  · have hq := hide (show res = (-1, 0) by rw [E.out, hT, if_neg (by simp), if_pos hm])
    generalize (cs.getD 0 HaltV.zero).a = A at *
    clear E hT
    go_wp2
    go_ret2
    exact ⟨by rw [hq.out]; rfl, HB⟩
  have E0 : Hid (scanW m 0 (cs.drop 0) = res) := hide (by rw [E.out, hT, if_neg (by simp), if_neg hm]; rfl)
  generalize (cs.getD 0 HaltV.zero).a = A at *
  clear E hT p0 p2
  go_wp2
  go_loopw [21] (fun i wr => ∃ k : Nat, k ≤ cs.length ∧ i = .int .i64 k ∧ Hid (scanW m k (cs.drop k) = res) ∧ Below w.heap.size w wr) (fun i _ => cs.length - (intOf i).toNat)
  case atStart => exact ⟨0, by omega, rfl, E0, HB⟩
  case round =>
    obtain ⟨k, hk, rfl, hres, hb⟩ := hrel
    clear E0 HB p1 x0 x1 A0
    by_cases hlt : k < cs.length
    · have hlt' : (k : Int) < (cs.length : Int) := by omega
      obtain ⟨q0, q1, q2⟩ := hc k hlt
      replace q0 := ble hb q0
      replace q1 := ble hb q1
      replace q2 := ble hb q2
      have hd := hide ((scan_drop hlt).symm.trans hres.out)
      clear hc hres
      generalize cs.getD k HaltV.zero = x at *
      obtain ⟨n, a, d⟩ := x
      dsimp only at *
      have hB := btrans hb (balloc wr (.cells #[.int .i64 n, .int .i64 a, .int .i64 d] 29))
      have hwr : IntKind.i64.wrap ((k : Int) - 1) = (k : Int) - 1 := wrap_in _ (by omega) (by omega)
      by_cases h1 : m < a
      · have hq := hide (show res = ((k : Int) - 1, 1) by rw [← hd.out]; simp [h1])
        clear hd
        go_wp2
        go_ret2
        exact ⟨by rw [hq.out]; rfl, hB⟩
      · by_cases h2 : m ≤ d
        · have hq := hide (show res = ((k : Int), 0) by rw [← hd.out]; simp [h1, h2])
          clear hd
          go_wp2
          go_ret2
          exact ⟨by rw [hq.out]; rfl, hB⟩
        · have hq := hide (show scanW m (k + 1) (cs.drop (k + 1)) = res by rw [← hd.out]; simp [h1, h2])
          clear hd hwr
          go_wp2
          go_roundw
          case rel => exact ⟨k + 1, by omega, by go_num, hq, hB⟩
          case measure => simp [intOf]; omega
    · obtain rfl : k = cs.length := by omega
      have hq := hide (show res = (-1, 1) by rw [← hres.out, List.drop_length]; rfl)
      clear hc hres
      go_wp2
      go_ret2
      exact ⟨by rw [hq.out]; rfl, hb⟩

set_option maxHeartbeats 1600000 in
theorem cWhereS (s : ByteArray) (a : Option Addr) (cap : Nat) (cs : List HaltV) (m : Int) (w : World) (hz : Halts w a cs) (hl : cs.length ≤ 1048576) (hs : s.size ≤ 1048576) :
    Calls Try.prog 27 #[.agg #[.string s, .slice a cs.length cap], .int .i64 m] w fun e w' => e = .returned (.tuple #[.int .i64 (whereB ⟨s, cs⟩ m).1, .int .i64 (whereB ⟨s, cs⟩ m).2]) ∧ Below w.heap.size w w' := by
  have E : Hid (whereB ⟨s, cs⟩ m = (if tripB ⟨s, cs⟩ = false then (-1, 2) else if m < (cs.getD 0 HaltV.zero).a then (-1, 0) else scanW m 0 cs)) := rfl
  generalize whereB ⟨s, cs⟩ m = res at *
  have A0 := one_block w (.cells #[.string s, .slice a cs.length cap] 26)
  have HB := balloc w (.cells #[.string s, .slice a cs.length cap] 26)
  go_enter Try.func27, Try.ntmps27
  go_wp2_with fail
  refine (cTripS s a cap cs _ (hz.below HB) hl hs).mono ?_
  rintro e w1 ⟨rfl, hb⟩
  replace HB := btrans HB hb
  replace A0 := blk_keep hb A0
  clear hb
  cases hT : tripB ⟨s, cs⟩
  · have hq := hide (show res = (-1, 2) by rw [E.out, hT, if_pos rfl])
    clear E hT
    go_wp2
    go_ret2
    exact ⟨by rw [hq.out]; rfl, HB⟩
  obtain ⟨-, l1, l2, hall, -⟩ := trip_parts hT
  dsimp only at l1 l2 hall
  rcases hz with h | ⟨b, off, rfl, hc⟩
  · simp [h] at l1
  obtain ⟨p0, p1, p2⟩ := hc 0 (by omega)
  replace p1 := ble HB p1
  simp only [Nat.zero_mul, Nat.add_zero] at p1
  obtain ⟨⟨x0, x1⟩, -⟩ := blk2 A0
  have l1' : (0 : Int) < (cs.length : Int) := by omega
  have l1'' : 0 < cs.length := by omega
  by_cases hm : m < (cs.getD 0 HaltV.zero).a
  · have hq := hide (show res = (-1, 0) by rw [E.out, hT, if_neg (by simp), if_pos hm])
    generalize (cs.getD 0 HaltV.zero).a = A at *
    clear E hT
    go_wp2
    go_ret2
    exact ⟨by rw [hq.out]; rfl, HB⟩
  have E0 : Hid (scanW m 0 (cs.drop 0) = res) := hide (by rw [E.out, hT, if_neg (by simp), if_neg hm]; rfl)
  generalize (cs.getD 0 HaltV.zero).a = A at *
  clear E hT p0 p2
  go_wp2
  go_loopw [6] (fun i wr => ∃ k : Nat, k ≤ cs.length ∧ i = .int .i64 k ∧ Hid (scanW m k (cs.drop k) = res) ∧ wr = w1) (fun i _ => cs.length - (intOf i).toNat)
  case atStart => exact ⟨0, by omega, rfl, E0, rfl⟩
  case round =>
    obtain ⟨k, hk, rfl, hres, hwr⟩ := hrel
    subst wr
    clear E0 p1 A0 x0
    by_cases hlt : k < cs.length
    · have hlt' : (k : Int) < (cs.length : Int) := by omega
      obtain ⟨q0, q1, q2⟩ := hc k hlt
      replace q1 := ble HB q1
      replace q2 := ble HB q2
      have hd := hide ((scan_drop hlt).symm.trans hres.out)
      have hco := (call_parts (call_at hall hlt)).2.1.2
      clear hc hres q0
      generalize cs.getD k HaltV.zero = x at *
      obtain ⟨n, a, d⟩ := x
      dsimp only at *
      have hwr : IntKind.i64.wrap ((k : Int) - 1) = (k : Int) - 1 := wrap_in _ (by omega) (by omega)
      by_cases h1 : m ≤ d
      · by_cases h2 : a ≤ m
        · have hq := hide (show res = ((k : Int), 0) by rw [← hd.out, if_neg (by omega), if_pos h1])
          clear hd
          go_wp2
          go_ret2
          exact ⟨by rw [hq.out]; rfl, HB⟩
        · have hq := hide (show res = ((k : Int) - 1, 1) by rw [← hd.out, if_pos (by omega)])
          clear hd
          go_wp2
          go_ret2
          exact ⟨by rw [hq.out]; rfl, HB⟩
      · have hq := hide (show scanW m (k + 1) (cs.drop (k + 1)) = res by rw [← hd.out, if_neg (by omega), if_neg h1])
        clear hd hwr
        go_wp2
        go_roundw
        case rel => exact ⟨k + 1, by omega, by go_num, hq, trivial⟩
        case measure => simp [intOf]; omega
    · obtain rfl : k = cs.length := by omega
      have hq := hide (show res = (-1, 1) by rw [← hres.out, List.drop_length]; rfl)
      clear hc hres
      go_wp2
      go_ret2
      exact ⟨by rw [hq.out]; rfl, HB⟩

end Go.Proofs.Ytndjjopplejkgaa
