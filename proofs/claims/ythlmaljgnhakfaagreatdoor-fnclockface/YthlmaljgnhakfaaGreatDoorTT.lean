/- The text of a time of day: both texts compute one list of bytes. -/
import Derived.Test.YthlmaljgnhakfaaGreatDoorA
import Derived.Test.YthlmaljgnhakfaaGreatDoorShelf
import Derived.Lib.ItoaMem
import Derived.Lib.ItoaNum
import Derived.Laws.BytesArg
namespace Go.Proofs.YthlmaljgnhakfaaGreatDoor
open Go.RowKit
/-- A string whose bytes are l. -/
abbrev S (l : List UInt8) : Value := .string ⟨l.toArray⟩

theorem num_step (n : Nat) (l : List UInt8) : (if n / 10 = 0 then (UInt8.ofNat (48 + n % 10)) :: l else Lib.decDigits (n / 10) ++ (UInt8.ofNat (48 + n % 10)) :: l) = Lib.decDigits n ++ l := by
  by_cases h10 : n < 10
  · rw [if_pos (by omega), Lib.decDigits_one h10, Nat.mod_eq_of_lt h10]; rfl
  · rw [if_neg (by omega)]
    conv => rhs; rw [Lib.decDigits, dif_neg h10]
    simp

theorem str_append (a b : List UInt8) : (⟨a.toArray⟩ : ByteArray) ++ ⟨b.toArray⟩ = ⟨(a ++ b).toArray⟩ := by
  apply ByteArray.ext
  simp
theorem cons_str (n : Nat) (l : List UInt8) : Value.string ((⟨#[48 + UInt8.ofNat (n % 10)]⟩ : ByteArray) ++ ⟨l.toArray⟩) = .string ⟨(UInt8.ofNat (48 + n % 10) :: l).toArray⟩ := by
  have e : UInt8.ofNat (48 + n % 10) = 48 + UInt8.ofNat (n % 10) := by rw [UInt8.ofNat_add]; rfl
  rw [e]
  exact congrArg Value.string (str_append [48 + UInt8.ofNat (n % 10)] l)

theorem conv_one (wr : World) (n : Nat) : Sem.run Tryz.prog (convert 22 9 (Value.slice (some ⟨wr.heap.size, 0, none⟩) 1 1)) (wr.alloc (Obj.cells #[Value.int .u8 (48 + (n : Int) % 10)] 5)) =
    .ok (.string ⟨[UInt8.ofNat (48 + n % 10)].toArray⟩) (wr.alloc (Obj.cells #[Value.int .u8 (48 + (n : Int) % 10)] 5)) := by
  have h := run_convert_bytes_arg (P := Tryz.prog) (wr.alloc (Obj.cells #[Value.int .u8 (48 + (n : Int) % 10)] 5)) 22 5 Tryz.underlying22 Tryz.underlying5 wr.heap.size 0 1 1 [48 + (n : Int) % 10] rfl
    (fun i hi => by obtain rfl : i = 0 := by omega
                    simp) 9 Tryz.underlying9
  rw [h]
  have e : strOfNums [48 + (n : Int) % 10] = ⟨[UInt8.ofNat (48 + n % 10)].toArray⟩ := by
    have e1 : (48 + (n : Int) % 10).toNat = 48 + n % 10 := by omega
    simp only [strOfNums, List.map_cons, List.map_nil, e1]
  rw [e]

set_option maxRecDepth 100000 in
set_option maxHeartbeats 800000 in
theorem cNum (x : Nat) (w : World) (hx : x ≤ 1000000) : Calls Tryz.prog 43 #[.int .i64 x] w fun e w' => e = .returned (S (Lib.decDigits x)) ∧ Below w.heap.size w w' := by
  by_cases h0 : x = 0
  · subst h0
    go_enter Tryz.func43, Tryz.ntmps43
    go_wp2
    go_ret
    exact ⟨by rw [Lib.decDigits_one (by omega)]; rfl, Below.refl _ _⟩
  have hx0 : ((x : Int) == 0) = false := by simp; omega
  have hneg : decide ((x : Int) < 0) = false := by simp
  have H0 := hide h0
  clear h0
  go_enter Tryz.func43, Tryz.ntmps43
  go_wp2
  go_loopw [0, 3, 5] (fun xx out _ wr => ∃ (n : Nat) (l : List UInt8), n ≤ x ∧ xx = .int .i64 n ∧ out = .string ⟨l.toArray⟩ ∧ (if n = 0 then l else Lib.decDigits n ++ l) = Lib.decDigits x ∧ l.length + n ≤ x + 20 ∧ Below w.heap.size w wr) (fun xx _ _ _ => (intOf xx).toNat)
  case atStart => exact ⟨x, [], Nat.le_refl _, rfl, rfl, by rw [if_neg H0.out]; simp, by simp, Below.refl _ _⟩
  case round =>
    obtain ⟨n, l, hn, rfl, rfl, hd, hlen, hb⟩ := hrel
    by_cases hn0 : n = 0
    · subst hn0
      have hne : (((0 : Nat) : Int) != 0) = false := by simp
      rw [if_pos rfl] at hd
      have HD := hide hd
      clear hd
      go_wp2
      go_ret
      exact ⟨by rw [← HD.out]; rfl, hb⟩
    · have hne : ((n : Int) != 0) = true := by simp; omega
      have HD := hide hd
      have HN := hide hn0
      clear hd hn0
      have hconv := conv_one wr n
      go_wp2
      go_roundw
      case rel => exact ⟨n / 10, UInt8.ofNat (48 + n % 10) :: l, by omega, by go_num, cons_str n l, (num_step n l).trans (by have h := HD.out; rw [if_neg HN.out] at h; exact h), by have := HN.out; simp; omega, hb.alloc hb.size _⟩
      case measure => have := HN.out; simp [intOf]; omega
theorem gPow : Tryz.prog.globalNamed "internal/strconv.uint64pow10" = some 1 := by kernel_rfl
def Tab (w : World) : Prop := Lib.TabIs Tryz.prog w "internal/strconv.uint64pow10" .u64 Lib.pow10Tab
theorem Tab.below {w w' : World} (h : Tab w) (hb : Below w.heap.size w w') : Tab w' := Go.Joins.tab_stays gPow h hb (Nat.le_refl _)
theorem bgrow (w : World) (k : Nat) (os : Array Obj) : Below w.heap.size w (Sort.grow (w.drewN k) os) :=
  ⟨rfl, rfl, rfl, by simp [Sort.grow], fun i hi => by
    show (w.heap ++ os)[i]? = w.heap[i]?
    rw [Array.getElem?_append_left hi]⟩

/-- A number as two digits at least. -/
def two (x : Nat) : List UInt8 := if x < 10 then 48 :: Lib.decDigits x else Lib.decDigits x
def ttL (m : Nat) : List UInt8 := two (m / 60) ++ (58 :: two (m % 60))

theorem cItoa (x : Nat) (w : World) (ht : Tab w) (hx : x ≤ 1000000) : Calls Tryz.prog 17 #[.int .i64 x] w fun e w' => e = .returned (S (Lib.decDigits x)) ∧ Below w.heap.size w w' := by
  refine (Tryz.strconv_Itoa (x : Int) (by omega) (by omega) w ht).mono ?_
  rintro e w' ⟨rfl, k, os, rfl⟩
  exact ⟨by rw [Lib.itoa_nonneg], bgrow _ _ _⟩

theorem dec_len (x : Nat) : 1 ≤ (Lib.decDigits x).length ∧ (x < 10 → (Lib.decDigits x).length = 1) ∧ (10 ≤ x → 2 ≤ (Lib.decDigits x).length) := by
  rw [Lib.decDigits_length]
  refine ⟨Lib.nDigits_pos x, fun h => Lib.nDigits_small h, fun h => ?_⟩
  rw [Lib.nDigits_big (by omega)]
  have := Lib.nDigits_pos (x / 10)
  omega
theorem dec_le (x : Nat) (hx : x ≤ 1000000) : (Lib.decDigits x).length ≤ 10 := by
  rw [Lib.decDigits_length]
  have h : Lib.nDigits x ≤ 7 := by
    by_cases h : x = 1000000
    · subst h; exact Nat.le_of_eq (Lib.nDigits_unique 6 1000000 (by decide) (by decide))
    · have : ∀ k u, u < 10 ^ (k + 1) → Lib.nDigits u ≤ k + 1 := by
        intro k
        induction k with
        | zero => intro u hu; rw [Lib.nDigits_small (by simpa using hu)]; omega
        | succ k ih =>
          intro u hu
          by_cases hs : u < 10
          · rw [Lib.nDigits_small hs]; omega
          · rw [Lib.nDigits_big hs]
            have := ih (u / 10) (by rw [Nat.pow_succ] at hu; omega)
            omega
      have := this 5 x (by omega)
      omega
  omega
theorem two_le (x : Nat) (hx : x ≤ 1000000) : (two x).length ≤ 11 := by
  have := dec_le x hx
  unfold two; split <;> simp <;> omega

set_option maxHeartbeats 800000 in
theorem cTwo (x : Nat) (w : World) (ht : Tab w) (hx : x ≤ 1000000) : Calls Tryz.prog 53 #[.int .i64 x] w fun e w' => e = .returned (S (two x)) ∧ Below w.heap.size w w' := by
  have hlen := dec_le x hx
  by_cases h : x < 10
  · have R := hide (show two x = 48 :: Lib.decDigits x by unfold two; rw [if_pos h])
    go_enter Tryz.func53, Tryz.ntmps53
    go_wp2_with fail
    refine (cItoa x _ ht hx).mono ?_
    rintro e w1 ⟨rfl, hb⟩
    go_wp2
    go_ret
    exact ⟨by rw [R.out]; exact congrArg (fun b => Ending.returned (.string b)) (str_append [48] (Lib.decDigits x)), hb⟩
  · have R := hide (show two x = Lib.decDigits x by unfold two; rw [if_neg h])
    go_enter Tryz.func53, Tryz.ntmps53
    go_wp2_with fail
    refine (cItoa x _ ht hx).mono ?_
    rintro e w1 ⟨rfl, hb⟩
    go_wp2
    go_ret
    exact ⟨by rw [R.out]; rfl, hb⟩

theorem big3 (a b : List UInt8) : ((⟨a.toArray⟩ : ByteArray) ++ ⟨#[58]⟩) ++ ⟨b.toArray⟩ = ⟨(a ++ (58 :: b)).toArray⟩ := by
  rw [show (⟨#[58]⟩ : ByteArray) = ⟨[58].toArray⟩ from rfl, str_append, str_append]
  simp

/-- What TimeText answers. -/
def tt (m : Int) : List UInt8 := if 0 ≤ m ∧ m ≤ 100000 then ttL m.toNat else []

set_option maxHeartbeats 800000 in
theorem cTimeI (m : Int) (w : World) (ht : Tab w) : Calls Tryz.prog 38 #[.int .i64 m] w fun e w' => e = .returned (S (tt m)) ∧ Below w.heap.size w w' := by
  by_cases h : 0 ≤ m ∧ m ≤ 100000
  · obtain ⟨n, rfl⟩ := Int.eq_ofNat_of_zero_le h.1
    have R := hide (show tt (n : Int) = two (n / 60) ++ (58 :: two (n % 60)) by unfold tt; rw [if_pos h]; rfl)
    have hn : n ≤ 100000 := by omega
    clear h
    have l1 := two_le (n / 60) (by omega)
    have l2 := two_le (n % 60) (by omega)
    go_enter Tryz.func38, Tryz.ntmps38
    go_wp2_with fail
    rw [show ((n : Int) / 60) = ((n / 60 : Nat) : Int) from by omega]
    refine (cTwo (n / 60) _ ht (by omega)).mono ?_
    rintro e w1 ⟨rfl, hb1⟩
    go_wp2_with fail
    rw [show ((n : Int) % 60) = ((n % 60 : Nat) : Int) from by omega]
    refine (cTwo (n % 60) _ (ht.below hb1) (by omega)).mono ?_
    rintro e w2 ⟨rfl, hb2⟩
    go_wp2
    go_ret
    exact ⟨by rw [R.out]; exact congrArg (fun b => Ending.returned (.string b)) (big3 _ _), btrans hb1 hb2⟩
  · have R := hide (show tt m = [] by unfold tt; rw [if_neg h])
    by_cases h1 : m < 0
    · clear h
      go_enter Tryz.func38, Tryz.ntmps38
      go_wp2
      go_ret
      exact ⟨by rw [R.out]; rfl, Below.refl _ _⟩
    · have h2 : 100000 < m := by omega
      clear h
      go_enter Tryz.func38, Tryz.ntmps38
      go_wp2
      go_ret
      exact ⟨by rw [R.out]; rfl, Below.refl _ _⟩

theorem two_pad (x : Nat) : two x = if (Lib.decDigits x).length < 2 then 48 :: Lib.decDigits x else Lib.decDigits x := by
  obtain ⟨_, h2, h3⟩ := dec_len x
  unfold two
  by_cases h : x < 10
  · rw [if_pos h, if_pos (by rw [h2 h]; omega)]
  · have := h3 (by omega)
    rw [if_neg h, if_neg (by omega)]

end Go.Proofs.YthlmaljgnhakfaaGreatDoor
