/- The model's text of a number. -/
import Derived.Test.YthbedhbbijpfkaaDK
import Derived.Lib.ItoaNum
import Derived.Laws.BytesArg
namespace Go.Proofs.Ythbedhbbijpfkaa
open Go.RowKit
/-- A string whose bytes are l. -/
abbrev S (l : List UInt8) : Value := .string ⟨l.toArray⟩

theorem num_step (n : Nat) (l : List UInt8) : (if n / 10 = 0 then (UInt8.ofNat (48 + n % 10)) :: l else Lib.decDigits (n / 10) ++ (UInt8.ofNat (48 + n % 10)) :: l) = Lib.decDigits n ++ l := by
  by_cases h10 : n < 10
  · rw [if_pos (by omega), Lib.decDigits_one h10, Nat.mod_eq_of_lt h10]; rfl
  · rw [if_neg (by omega)]
    conv => rhs; rw [Lib.decDigits, dif_neg h10]
    simp

theorem str_append (a b : List UInt8) : (⟨a.toArray⟩ : ByteArray) ++ ⟨b.toArray⟩ = ⟨(a ++ b).toArray⟩ := by
  apply ByteArray.ext
  simp
theorem cons_str (n : Nat) (l : List UInt8) : Value.string ((⟨#[48 + UInt8.ofNat (n % 10)]⟩ : ByteArray) ++ ⟨l.toArray⟩) = .string ⟨(UInt8.ofNat (48 + n % 10) :: l).toArray⟩ := by
  have e : UInt8.ofNat (48 + n % 10) = 48 + UInt8.ofNat (n % 10) := by rw [UInt8.ofNat_add]; rfl
  rw [e]
  exact congrArg Value.string (str_append [48 + UInt8.ofNat (n % 10)] l)

theorem conv_one (wr : World) (n : Nat) : Sem.run Try.prog (convert 22 9 (Value.slice (some ⟨wr.heap.size, 0, none⟩) 1 1)) (wr.alloc (Obj.cells #[Value.int .u8 (48 + (n : Int) % 10)] 5)) =
    .ok (.string ⟨[UInt8.ofNat (48 + n % 10)].toArray⟩) (wr.alloc (Obj.cells #[Value.int .u8 (48 + (n : Int) % 10)] 5)) := by
  have h := run_convert_bytes_arg (P := Try.prog) (wr.alloc (Obj.cells #[Value.int .u8 (48 + (n : Int) % 10)] 5)) 22 5 Try.underlying22 Try.underlying5 wr.heap.size 0 1 1 [48 + (n : Int) % 10] rfl
    (fun i hi => by obtain rfl : i = 0 := by omega
                    simp) 9 Try.underlying9
  rw [h]
  have e : strOfNums [48 + (n : Int) % 10] = ⟨[UInt8.ofNat (48 + n % 10)].toArray⟩ := by
    have e1 : (48 + (n : Int) % 10).toNat = 48 + n % 10 := by omega
    simp only [strOfNums, List.map_cons, List.map_nil, e1]
  rw [e]

set_option maxRecDepth 100000 in
set_option maxHeartbeats 800000 in
theorem cNum (x : Nat) (w : World) (hx : x ≤ 1000000) : Calls Try.prog 75 #[.int .i64 x] w fun e w' => e = .returned (S (Lib.decDigits x)) ∧ Below w.heap.size w w' := by
  by_cases h0 : x = 0
  · subst h0
    go_enter Try.func75, Try.ntmps75
    go_wp2
    go_ret
    exact ⟨by rw [Lib.decDigits_one (by omega)]; rfl, Below.refl _ _⟩
  have hx0 : ((x : Int) == 0) = false := by simp; omega
  have hneg : decide ((x : Int) < 0) = false := by simp
  have H0 := hide h0
  clear h0
  go_enter Try.func75, Try.ntmps75
  go_wp2
  go_loopw [0, 3, 5] (fun xx out _ wr => ∃ (n : Nat) (l : List UInt8), n ≤ x ∧ xx = .int .i64 n ∧ out = .string ⟨l.toArray⟩ ∧ (if n = 0 then l else Lib.decDigits n ++ l) = Lib.decDigits x ∧ l.length + n ≤ x + 20 ∧ Below w.heap.size w wr) (fun xx _ _ _ => (intOf xx).toNat)
  case atStart => exact ⟨x, [], Nat.le_refl _, rfl, rfl, by rw [if_neg H0.out]; simp, by simp, Below.refl _ _⟩
  case round =>
    obtain ⟨n, l, hn, rfl, rfl, hd, hlen, hb⟩ := hrel
    by_cases hn0 : n = 0
    · subst hn0
      have hne : (((0 : Nat) : Int) != 0) = false := by simp
      rw [if_pos rfl] at hd
      have HD := hide hd
      clear hd
      go_wp2
      go_ret
      exact ⟨by rw [← HD.out]; rfl, hb⟩
    · have hne : ((n : Int) != 0) = true := by simp; omega
      have HD := hide hd
      have HN := hide hn0
      clear hd hn0
      have hconv := conv_one wr n
      go_wp2
      go_roundw
      case rel => exact ⟨n / 10, UInt8.ofNat (48 + n % 10) :: l, by omega, by go_num, cons_str n l, (num_step n l).trans (by have h := HD.out; rw [if_neg HN.out] at h; exact h), by have := HN.out; simp; omega, hb.alloc hb.size _⟩
      case measure => have := HN.out; simp [intOf]; omega
end Go.Proofs.Ythbedhbbijpfkaa
