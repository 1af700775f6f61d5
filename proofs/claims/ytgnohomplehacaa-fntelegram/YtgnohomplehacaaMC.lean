/- The check number of bytes, right telegrams, which Seq follows: of the program and of the model. -/
import Derived.Test.YtgnohomplehacaaB
namespace Go.Proofs.Ytgnohomplehacaa
open Go.RowKit
/-- Each of them is a byte. -/
def By (zs : List Int) : Prop := ∀ z ∈ zs, 0 ≤ z ∧ z ≤ 255
theorem By.at {zs : List Int} (h : By zs) {k : Nat} (hk : k < zs.length) : 0 ≤ zs.getD k 0 ∧ zs.getD k 0 ≤ 255 := by
  rw [show zs.getD k 0 = zs[k] by simp [List.getD, hk]]
  exact h _ (List.getElem_mem hk)
theorem By.app {xs ys : List Int} (h : By xs) (g : By ys) : By (xs ++ ys) := by
  intro z hz
  rcases List.mem_append.1 hz with hz | hz
  · exact h z hz
  · exact g z hz
theorem By.left {xs ys : List Int} (h : By (xs ++ ys)) : By xs := fun z hz => h z (List.mem_append.2 (.inl hz))
theorem By.right {xs ys : List Int} (h : By (xs ++ ys)) : By ys := fun z hz => h z (List.mem_append.2 (.inr hz))
theorem By.nil : By [] := fun z hz => by simp at hz
theorem By.one {x : Int} (h0 : 0 ≤ x) (h1 : x ≤ 255) : By [x] := fun z hz => by simp at hz; subst hz; exact ⟨h0, h1⟩
theorem By.cons {x : Int} {xs : List Int} (h0 : 0 ≤ x) (h1 : x ≤ 255) (h : By xs) : By (x :: xs) := fun z hz => by
  rcases List.mem_cons.1 hz with rfl | hz
  · exact ⟨h0, h1⟩
  · exact h z hz
theorem By.take {xs : List Int} (h : By xs) (n : Nat) : By (xs.take n) := fun z hz => h z (List.mem_of_mem_take hz)
theorem By.drop {xs : List Int} (h : By xs) (n : Nat) : By (xs.drop n) := fun z hz => h z (List.mem_of_mem_drop hz)
theorem xor_in {x y : Int} (x0 : 0 ≤ x) (x1 : x ≤ 255) (y0 : 0 ≤ y) (y1 : y ≤ 255) : 0 ≤ bits .xor .i64 x y ∧ bits .xor .i64 x y ≤ 255 := by
  obtain ⟨n, rfl⟩ := Int.eq_ofNat_of_zero_le x0
  obtain ⟨m, rfl⟩ := Int.eq_ofNat_of_zero_le y0
  have e : bits .xor .i64 (n : Int) (m : Int) = IntKind.i64.wrap (((BitVec.ofInt 64 (n : Int) ^^^ BitVec.ofInt 64 (m : Int)).toNat : Nat) : Int) := rfl
  have h : (BitVec.ofInt 64 (n : Int) ^^^ BitVec.ofInt 64 (m : Int)).toNat < 2 ^ 8 := by
    rw [BitVec.toNat_xor]
    apply Nat.xor_lt_two_pow
    · simp; omega
    · simp; omega
  generalize (BitVec.ofInt 64 (n : Int) ^^^ BitVec.ofInt 64 (m : Int)).toNat = q at *
  rw [e, wrap_in _ (by omega) (by omega)]
  omega
def crcBit (x : Int) : Int := if 256 ≤ x * 2 then bits .xor .i64 (x * 2 - 256) 7 else x * 2
def crcBits : Nat → Int → Int
  | 0, x => x
  | n + 1, x => crcBit (crcBits n x)
def crcByte (x b : Int) : Int := crcBits 8 (bits .xor .i64 x b)
def crcL (l : List Int) : Int := l.foldl crcByte 0
def crcV (l : List Int) : Int := if 3000 < l.length then 0 else crcL l
theorem crcBit_in {x : Int} (h0 : 0 ≤ x) (h1 : x ≤ 255) : 0 ≤ crcBit x ∧ crcBit x ≤ 255 := by
  unfold crcBit
  split
  · exact xor_in (by omega) (by omega) (by omega) (by omega)
  · omega
theorem crcBits_in {x : Int} (h0 : 0 ≤ x) (h1 : x ≤ 255) : ∀ n, 0 ≤ crcBits n x ∧ crcBits n x ≤ 255 := by
  intro n
  induction n with
  | zero => exact ⟨h0, h1⟩
  | succ n ih => exact crcBit_in ih.1 ih.2
theorem crcL_snoc (l : List Int) (b : Int) : crcL (l ++ [b]) = crcByte (crcL l) b := by simp [crcL]
theorem crcL_in {l : List Int} (h : By l) : 0 ≤ crcL l ∧ crcL l ≤ 255 := by
  have key : ∀ (l : List Int) (x : Int), 0 ≤ x → x ≤ 255 → By l → 0 ≤ l.foldl crcByte x ∧ l.foldl crcByte x ≤ 255 := by
    intro l
    induction l with
    | nil => intro x h0 h1 _; exact ⟨h0, h1⟩
    | cons b l ih =>
      intro x h0 h1 hb
      have hb0 := hb b (by simp)
      have hx := xor_in h0 h1 hb0.1 hb0.2
      have := crcBits_in hx.1 hx.2 8
      exact ih _ this.1 this.2 (fun z hz => hb z (by simp [hz]))
  exact key l 0 (by omega) (by omega) h
theorem crcV_in {l : List Int} (h : By l) : 0 ≤ crcV l ∧ crcV l ≤ 255 := by
  unfold crcV
  split
  · omega
  · exact crcL_in h
theorem crc_step (zs : List Int) {k : Nat} (hk : k < zs.length) : crcL (zs.take (k + 1)) = crcBits 8 (bits .xor .i64 (crcL (zs.take k)) (zs.getD k 0)) := by
  rw [List.take_succ_eq_append_getElem hk, crcL_snoc]
  simp [crcByte, List.getD, hk]
set_option maxHeartbeats 1600000 in
theorem cCrcI (a : Option Addr) (cap : Nat) (zs : List Int) (w : World) (hz : Bys w a zs) (hy : By zs) (hl : zs.length ≤ maxLen) :
    Calls Try.prog 21 #[.slice a zs.length cap] w fun e w' => e = .returned (.int .i64 (crcV zs)) ∧ w' = w := by
  unfold maxLen at hl
  by_cases hbig : 3000 < zs.length
  · have E : Hid (crcV zs = 0) := hide (by unfold crcV; rw [if_pos hbig])
    go_enter Try.func21, Try.ntmps21
    go_wp2
    go_ret
    exact ⟨ret_int E.out.symm, rfl⟩
  have E : Hid (crcV zs = crcL zs) := hide (by unfold crcV; rw [if_neg hbig])
  go_enter Try.func21, Try.ntmps21
  go_wp2
  go_loop [3, 5, 11] (fun c _ i => ∃ k : Nat, k ≤ zs.length ∧ i = .int .i64 k ∧ c = .int .i64 (crcL (zs.take k))) (fun _ _ i => zs.length - (intOf i).toNat)
  case atStart => exact ⟨0, Nat.zero_le _, rfl, by simp [crcL]⟩
  case round =>
    obtain ⟨k, hk, rfl, rfl⟩ := hrel
    have hc := crcL_in (hy.take k)
    by_cases hlt : k < zs.length
    · rcases hz with hz | ⟨b, off, rfl, hcell⟩
      · simp [hz] at hlt
      have hck := hcell k hlt
      obtain ⟨y0, y1⟩ := hy.at hlt
      have st := hide (crc_step zs hlt)
      obtain ⟨q0, q1⟩ := xor_in hc.1 hc.2 y0 y1
      clear hcell
      generalize crcL (zs.take k) = C at *
      generalize zs.getD k 0 = z at *
      go_wp2
      generalize hX : bits .xor .i64 C z = X at *
      replace hX := hide hX
      go_loop [3, 19] (fun c i => ∃ j : Nat, j ≤ 8 ∧ i = .int .i64 j ∧ c = .int .i64 (crcBits j X)) (fun _ i => 8 - (intOf i).toNat)
      case atStart => exact ⟨0, by omega, rfl, rfl⟩
      case round =>
        obtain ⟨j, hj, rfl, rfl⟩ := hrel
        obtain ⟨r0, r1⟩ := crcBits_in q0 q1 j
        by_cases hj8 : j < 8
        · have st2 : Hid (crcBits (j + 1) X = crcBit (crcBits j X)) := hide rfl
          have st3 : Hid (crcBit (crcBits j X) = if 256 ≤ crcBits j X * 2 then bits .xor .i64 (crcBits j X * 2 - 256) 7 else crcBits j X * 2) := hide rfl
          generalize crcBits j X = Y at *
          by_cases h256 : 256 ≤ Y * 2
          · go_wp2
            go_round
            case rel => exact ⟨j + 1, by omega, by go_num, by rw [st2.out, st3.out, if_pos h256]⟩
            case measure => simp [intOf]; omega
          · go_wp2
            go_round
            case rel => exact ⟨j + 1, by omega, by go_num, by rw [st2.out, st3.out, if_neg h256]⟩
            case measure => simp [intOf]; omega
        · obtain rfl : j = 8 := by omega
          go_wp2
          go_round
          case rel => exact ⟨k + 1, by omega, by go_num, by rw [st.out]⟩
          case measure => simp [intOf]; omega
    · obtain rfl : k = zs.length := by omega
      rw [List.take_length] at *
      clear hz
      go_wp2
      go_ret
      exact ⟨ret_int E.out.symm, rfl⟩
set_option maxHeartbeats 1600000 in
theorem cCrcS (a : Option Addr) (cap : Nat) (zs : List Int) (w : World) (hz : Bys w a zs) (hy : By zs) (hl : zs.length ≤ maxLen) :
    Calls Try.prog 22 #[.slice a zs.length cap] w fun e w' => e = .returned (.int .i64 (crcV zs)) ∧ w' = w := by
  unfold maxLen at hl
  by_cases hbig : 3000 < zs.length
  · have E : Hid (crcV zs = 0) := hide (by unfold crcV; rw [if_pos hbig])
    go_enter Try.func22, Try.ntmps22
    go_wp2
    go_ret
    exact ⟨ret_int E.out.symm, rfl⟩
  have E : Hid (crcV zs = crcL zs) := hide (by unfold crcV; rw [if_neg hbig])
  go_enter Try.func22, Try.ntmps22
  go_wp2
  go_loop [3, 4, 5] (fun c i _ => ∃ k : Nat, k ≤ zs.length ∧ i = .int .i64 k ∧ c = .int .i64 (crcL (zs.take k))) (fun _ i _ => zs.length - (intOf i).toNat)
  case atStart => exact ⟨0, Nat.zero_le _, rfl, by simp [crcL]⟩
  case round =>
    obtain ⟨k, hk, rfl, rfl⟩ := hrel
    have hc := crcL_in (hy.take k)
    by_cases hlt : k < zs.length
    · rcases hz with hz | ⟨b, off, rfl, hcell⟩
      · simp [hz] at hlt
      have hck := hcell k hlt
      obtain ⟨y0, y1⟩ := hy.at hlt
      have st := hide (crc_step zs hlt)
      obtain ⟨q0, q1⟩ := xor_in hc.1 hc.2 y0 y1
      clear hcell
      generalize crcL (zs.take k) = C at *
      generalize zs.getD k 0 = z at *
      go_wp2
      generalize hX : bits .xor .i64 C z = X at *
      replace hX := hide hX
      go_loop [3, 5] (fun c i => ∃ j : Nat, j ≤ 8 ∧ i = .int .i64 j ∧ c = .int .i64 (crcBits j X)) (fun _ i => 8 - (intOf i).toNat)
      case atStart => exact ⟨0, by omega, rfl, rfl⟩
      case round =>
        obtain ⟨j, hj, rfl, rfl⟩ := hrel
        obtain ⟨r0, r1⟩ := crcBits_in q0 q1 j
        by_cases hj8 : j < 8
        · have st2 : Hid (crcBits (j + 1) X = crcBit (crcBits j X)) := hide rfl
          have st3 : Hid (crcBit (crcBits j X) = if 256 ≤ crcBits j X * 2 then bits .xor .i64 (crcBits j X * 2 - 256) 7 else crcBits j X * 2) := hide rfl
          generalize crcBits j X = Y at *
          by_cases h256 : 255 < Y * 2
          · go_wp2
            go_round
            case rel => exact ⟨j + 1, by omega, by go_num, by rw [st2.out, st3.out, if_pos (by omega)]⟩
            case measure => simp [intOf]; omega
          · go_wp2
            go_round
            case rel => exact ⟨j + 1, by omega, by go_num, by rw [st2.out, st3.out, if_neg (by omega)]⟩
            case measure => simp [intOf]; omega
        · obtain rfl : j = 8 := by omega
          go_wp2
          go_round
          case rel => exact ⟨k + 1, by omega, by go_num, by rw [st.out]⟩
          case measure => simp [intOf]; omega
    · obtain rfl : k = zs.length := by omega
      rw [List.take_length] at *
      clear hz
      go_wp2
      go_ret
      exact ⟨ret_int E.out.symm, rfl⟩
theorem cSeqOk (x : Int) (w : World) : Calls Try.prog 51 #[.int .i64 x] w fun e w' => e = .returned (.bool (inB x 0 255)) ∧ w' = w := by
  go_enter Try.func51, Try.ntmps51
  go_wp2_with fail
  refine (cWithin x 0 255 _).mono ?_
  rintro e w1 ⟨rfl, hw⟩
  subst w1
  go_wp2
  go_ret
  exact ⟨rfl, rfl⟩
def accV (l s : Int) : Int := if inB l 0 255 = true ∧ inB s 0 255 = true then (if s = (l + 1) % 256 then 0 else if s = l then 1 else 2) else 2
set_option maxHeartbeats 1600000 in
theorem cAccI (l s : Int) (w : World) : Calls Try.prog 26 #[.int .i64 l, .int .i64 s] w fun e w' => e = .returned (.int .i64 (accV l s)) ∧ w' = w := by
  have E : Hid (accV l s = if inB l 0 255 = true ∧ inB s 0 255 = true then (if s = (l + 1) % 256 then 0 else if s = l then 1 else 2) else 2) := hide rfl
  by_cases h1 : inB l 0 255 = true
  · by_cases h2 : inB s 0 255 = true
    · obtain ⟨l0, l1⟩ := inB_true h1
      obtain ⟨s0, s1⟩ := inB_true h2
      have C1 := cSeqOk l w
      have C2 := cSeqOk s w
      rw [h1] at C1
      rw [h2] at C2
      rw [h1, h2] at E
      by_cases h3 : s = (l + 1) % 256
      · have h3' : (s == (l + 1) % 256) = true := by simp [h3]
        replace h3 := hide h3
        clear h1 h2
        go_enter Try.func26, Try.ntmps26
        go_wp2_with fail
        refine C1.mono ?_
        rintro e w1 ⟨rfl, hw⟩
        subst w1
        go_wp2_with fail
        refine C2.mono ?_
        rintro e w1 ⟨rfl, hw⟩
        subst w1
        go_wp2
        go_ret
        exact ⟨ret_int (by rw [E.out]; simp [← h3.out]), rfl⟩
      · have h3' : (s == (l + 1) % 256) = false := by simp [h3]
        replace h3 := hide h3
        by_cases h4 : s = l
        · have h4' : (s == l) = true := by simp [h4]
          replace h4 := hide h4
          clear h1 h2
          go_enter Try.func26, Try.ntmps26
          go_wp2_with fail
          refine C1.mono ?_
          rintro e w1 ⟨rfl, hw⟩
          subst w1
          go_wp2_with fail
          refine C2.mono ?_
          rintro e w1 ⟨rfl, hw⟩
          subst w1
          go_wp2
          go_ret
          exact ⟨ret_int (by rw [E.out, if_pos (by simp), if_neg h3.out, if_pos h4.out]), rfl⟩
        · have h4' : (s == l) = false := by simp [h4]
          replace h4 := hide h4
          clear h1 h2
          go_enter Try.func26, Try.ntmps26
          go_wp2_with fail
          refine C1.mono ?_
          rintro e w1 ⟨rfl, hw⟩
          subst w1
          go_wp2_with fail
          refine C2.mono ?_
          rintro e w1 ⟨rfl, hw⟩
          subst w1
          go_wp2
          go_ret
          exact ⟨ret_int (by rw [E.out, if_pos (by simp), if_neg h3.out, if_neg h4.out]), rfl⟩
    · have h2' : inB s 0 255 = false := by simpa using h2
      have C1 := cSeqOk l w
      have C2 := cSeqOk s w
      rw [h1] at C1
      rw [h2'] at C2
      rw [h1, h2'] at E
      clear h1 h2 h2'
      go_enter Try.func26, Try.ntmps26
      go_wp2_with fail
      refine C1.mono ?_
      rintro e w1 ⟨rfl, hw⟩
      subst w1
      go_wp2_with fail
      refine C2.mono ?_
      rintro e w1 ⟨rfl, hw⟩
      subst w1
      go_wp2
      go_ret
      exact ⟨ret_int (by rw [E.out]; simp), rfl⟩
  · have h1' : inB l 0 255 = false := by simpa using h1
    have C1 := cSeqOk l w
    rw [h1'] at C1
    rw [h1'] at E
    clear h1 h1'
    go_enter Try.func26, Try.ntmps26
    go_wp2_with fail
    refine C1.mono ?_
    rintro e w1 ⟨rfl, hw⟩
    subst w1
    go_wp2
    go_ret
    exact ⟨ret_int (by rw [E.out]; simp), rfl⟩
set_option maxHeartbeats 1600000 in
theorem cAccS (l s : Int) (w : World) : Calls Try.prog 43 #[.int .i64 l, .int .i64 s] w fun e w' => e = .returned (.int .i64 (accV l s)) ∧ w' = w := by
  have E : Hid (accV l s = if inB l 0 255 = true ∧ inB s 0 255 = true then (if s = (l + 1) % 256 then 0 else if s = l then 1 else 2) else 2) := hide rfl
  by_cases h1 : inB l 0 255 = true
  · by_cases h2 : inB s 0 255 = true
    · obtain ⟨l0, l1⟩ := inB_true h1
      obtain ⟨s0, s1⟩ := inB_true h2
      have C1 := cIn l 0 255 w
      have C2 := cIn s 0 255 w
      rw [h1] at C1
      rw [h2] at C2
      rw [h1, h2] at E
      by_cases h3 : s = (l + 1) % 256
      · have h3' : (s == (l + 1) % 256) = true := by simp [h3]
        replace h3 := hide h3
        clear h1 h2
        go_enter Try.func43, Try.ntmps43
        go_wp2_with fail
        refine C1.mono ?_
        rintro e w1 ⟨rfl, hw⟩
        subst w1
        go_wp2_with fail
        refine C2.mono ?_
        rintro e w1 ⟨rfl, hw⟩
        subst w1
        go_wp2
        go_ret
        exact ⟨ret_int (by rw [E.out]; simp [← h3.out]), rfl⟩
      · have h3' : (s == (l + 1) % 256) = false := by simp [h3]
        replace h3 := hide h3
        by_cases h4 : s = l
        · have h4' : (s == l) = true := by simp [h4]
          replace h4 := hide h4
          clear h1 h2
          go_enter Try.func43, Try.ntmps43
          go_wp2_with fail
          refine C1.mono ?_
          rintro e w1 ⟨rfl, hw⟩
          subst w1
          go_wp2_with fail
          refine C2.mono ?_
          rintro e w1 ⟨rfl, hw⟩
          subst w1
          go_wp2
          go_ret
          exact ⟨ret_int (by rw [E.out, if_pos (by simp), if_neg h3.out, if_pos h4.out]), rfl⟩
        · have h4' : (s == l) = false := by simp [h4]
          replace h4 := hide h4
          clear h1 h2
          go_enter Try.func43, Try.ntmps43
          go_wp2_with fail
          refine C1.mono ?_
          rintro e w1 ⟨rfl, hw⟩
          subst w1
          go_wp2_with fail
          refine C2.mono ?_
          rintro e w1 ⟨rfl, hw⟩
          subst w1
          go_wp2
          go_ret
          exact ⟨ret_int (by rw [E.out, if_pos (by simp), if_neg h3.out, if_neg h4.out]), rfl⟩
    · have h2' : inB s 0 255 = false := by simpa using h2
      have C1 := cIn l 0 255 w
      have C2 := cIn s 0 255 w
      rw [h1] at C1
      rw [h2'] at C2
      rw [h1, h2'] at E
      clear h1 h2 h2'
      go_enter Try.func43, Try.ntmps43
      go_wp2_with fail
      refine C1.mono ?_
      rintro e w1 ⟨rfl, hw⟩
      subst w1
      go_wp2_with fail
      refine C2.mono ?_
      rintro e w1 ⟨rfl, hw⟩
      subst w1
      go_wp2
      go_ret
      exact ⟨ret_int (by rw [E.out]; simp), rfl⟩
  · have h1' : inB l 0 255 = false := by simpa using h1
    have C1 := cIn l 0 255 w
    rw [h1'] at C1
    rw [h1'] at E
    clear h1 h1'
    go_enter Try.func43, Try.ntmps43
    go_wp2_with fail
    refine C1.mono ?_
    rintro e w1 ⟨rfl, hw⟩
    subst w1
    go_wp2
    go_ret
    exact ⟨ret_int (by rw [E.out]; simp), rfl⟩
end Go.Proofs.Ytgnohomplehacaa
