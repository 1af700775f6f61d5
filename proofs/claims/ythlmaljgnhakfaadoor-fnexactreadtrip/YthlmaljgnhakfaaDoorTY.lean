/- The text of a trip: the model's. -/
import Derived.Test.YthlmaljgnhakfaaDoorTX
namespace Go.Proofs.YthlmaljgnhakfaaDoor
open Go.RowKit
theorem text7 (s : ByteArray) (l a b c : List UInt8) : (((((((⟨(s.data.toList ++ l).toArray⟩ : ByteArray) ++ ⟨#[32]⟩) ++ ⟨a.toArray⟩) ++ ⟨#[64]⟩) ++ ⟨b.toArray⟩) ++ ⟨#[45]⟩) ++ ⟨c.toArray⟩) = ⟨(s.data.toList ++ (l ++ (32 :: (a ++ (64 :: (b ++ (45 :: c))))))).toArray⟩ := by
  rw [show (⟨#[32]⟩ : ByteArray) = ⟨[32].toArray⟩ from rfl, show (⟨#[64]⟩ : ByteArray) = ⟨[64].toArray⟩ from rfl, show (⟨#[45]⟩ : ByteArray) = ⟨[45].toArray⟩ from rfl, str_append, str_append, str_append, str_append, str_append, str_append]
  simp

set_option maxRecDepth 100000 in
set_option maxHeartbeats 6400000 in
theorem cTextS (s : ByteArray) (a : Option Addr) (cap : Nat) (cs : List HaltV) (w : World) (hz : Halts w a cs) (hl : cs.length ≤ 1048576) (hs : s.size ≤ 1048576) :
    Calls Tryd.prog 34 #[.agg #[.string s, .slice a cs.length cap]] w fun e w' => e = .returned (S (tripL ⟨s, cs⟩)) ∧ Below w.heap.size w w' := by
  have E : Hid (tripL ⟨s, cs⟩ = (if tripB ⟨s, cs⟩ = true then s.data.toList ++ restL cs else [])) := rfl
  generalize tripL ⟨s, cs⟩ = res at *
  have hb := balloc w (.cells #[.string s, .slice a cs.length cap] 26)
  have A0 := one_block' w (.cells #[.string s, .slice a cs.length cap] 26)
  go_enter Tryd.func34, Tryd.ntmps34
  go_wp2_with fail
  refine (cTripS s a cap cs _ (hz.below hb) hl hs).mono ?_
  rintro e w1 ⟨rfl, hw⟩
  have HB := btrans hb hw
  replace A0 := blk_keep hw A0
  clear hb hw
  cases hT : tripB ⟨s, cs⟩
  · have hq := hide (show res = [] by rw [E.out, hT, if_neg (by simp)])
    clear E hT
    go_wp2
    go_ret
    exact ⟨by rw [hq.out]; rfl, HB⟩
  have hq := hide (show res = s.data.toList ++ restL cs by rw [E.out, hT, if_pos rfl])
  clear E
  simp only [tripB, Bool.and_eq_true] at hT
  obtain ⟨⟨⟨hn1, hn2⟩, hall⟩, -⟩ := hT
  obtain ⟨l1, l2⟩ := inB_true hn2
  have hns : s.size ≤ 12 := by
    simp only [nameB, Bool.and_eq_true] at hn1
    have := (inB_true hn1.2).2
    omega
  clear hn1 hn2
  have hcall : Hid (∀ k, k < cs.length → 0 ≤ (cs.getD k HaltV.zero).n ∧ (cs.getD k HaltV.zero).n ≤ 29) := hide (fun k hk => by
    have e : cs.getD k HaltV.zero = cs[k] := by simp [List.getD, hk]
    have h := List.all_eq_true.1 hall _ (List.getElem_mem hk)
    rw [e]
    simp only [callB, Bool.and_eq_true] at h
    exact inB_true h.1.1)
  have hpre : Hid (∀ k, k ≤ cs.length → (s.data.toList ++ restL (cs.take k)).length ≤ 2000) := hide (fun k hk => by
    have h1 := restL_le (cs := cs.take k) (List.all_eq_true.2 (fun x hx => List.all_eq_true.1 hall x (List.mem_of_mem_take hx)))
    rw [List.length_append, size_list]
    simp only [List.length_take] at h1
    omega)
  have hse : s = ⟨(s.data.toList ++ restL (cs.take 0)).toArray⟩ := by simp [restL]
  have hsE := hide hse
  clear hse hall
  obtain ⟨⟨x0, x1⟩, -⟩ := blk2 A0
  have hz1 := hz.below HB
  go_wp2
  go_loopw [3, 4] (fun v i wr => ∃ k : Nat, k ≤ cs.length ∧ i = .int .i64 k ∧ v = .string ⟨(s.data.toList ++ restL (cs.take k)).toArray⟩ ∧ Below w1.heap.size w1 wr) (fun _ i _ => cs.length - (intOf i).toNat)
  case atStart => exact ⟨0, by omega, rfl, congrArg Value.string hsE.out, Below.refl _ _⟩
  case round =>
    obtain ⟨k, hk, rfl, rfl, hbr⟩ := hrel
    have A1 := blk_keep hbr A0
    clear x0 x1 hsE
    obtain ⟨⟨x0, x1⟩, -⟩ := blk2 A1
    by_cases hlt : k < cs.length
    · have hlt' : (k : Int) < (cs.length : Int) := by omega
      obtain ⟨g0, g1⟩ := hcall.out k hlt
      have hst : Hid (restL (cs.take (k + 1)) = restL (cs.take k) ++ (32 :: callL (cs.getD k HaltV.zero))) := hide (by
        have e : cs.getD k HaltV.zero = cs[k] := by simp [List.getD, hlt]
        rw [List.take_succ_eq_append_getElem hlt, e, restL_snoc])
      have hp := hpre.out k hk
      rcases hz1 with h | ⟨b, off, rfl, hc⟩
      · simp [h] at hlt
      obtain ⟨q0, q1, q2⟩ := hc k hlt
      replace q0 := ble hbr q0
      replace q1 := ble hbr q1
      replace q2 := ble hbr q2
      have hCL : Hid (callL (cs.getD k HaltV.zero) = Lib.decDigits (cs.getD k HaltV.zero).n.toNat ++ (64 :: (tt (cs.getD k HaltV.zero).a ++ (45 :: tt (cs.getD k HaltV.zero).d)))) := rfl
      generalize callL (cs.getD k HaltV.zero) = CL at *
      generalize restL (cs.take k) = RL at *
      generalize cs.getD k HaltV.zero = y at *
      obtain ⟨n, ar, d⟩ := y
      dsimp only at *
      obtain ⟨x, rfl⟩ : ∃ x : Nat, n = x := ⟨n.toNat, by omega⟩
      rw [Int.toNat_natCast] at hCL
      have CI := fun w => cNum x w (by omega)
      have l1 := dec_le x (by omega)
      have l2 := tt_le ar
      have l3 := tt_le d
      have CA := fun w => cTimeS ar w
      have CD := fun w => cTimeS d w
      generalize Lib.decDigits x = A at *
      generalize tt ar = B at *
      generalize tt d = C at *
      have hb1 := balloc wr (.cells #[.int .i64 x, .int .i64 ar, .int .i64 d] 36)
      have c0 : (wr.alloc (.cells #[.int .i64 x, .int .i64 ar, .int .i64 d] 36)).cell? ⟨wr.heap.size, 0, none⟩ = some (.int .i64 x) := by simp [go_sem]
      have c1 : (wr.alloc (.cells #[.int .i64 x, .int .i64 ar, .int .i64 d] 36)).cell? ⟨wr.heap.size, 1, none⟩ = some (.int .i64 ar) := by simp [go_sem]
      have c2 : (wr.alloc (.cells #[.int .i64 x, .int .i64 ar, .int .i64 d] 36)).cell? ⟨wr.heap.size, 2, none⟩ = some (.int .i64 d) := by simp [go_sem]
      have hbV := btrans hbr hb1
      have hwl : w.heap.size < wr.heap.size := lt_of_block A1
      clear hc hb1
      go_wp2_with fail
      generalize (wr.alloc (.cells #[.int .i64 x, .int .i64 ar, .int .i64 d] 36)) = V at *
      generalize hP : s.data.toList ++ RL = P at *
      replace hP := hide hP
      have n0 : ¬ 9223372036854775807 < P.length + 1 := by omega
      have n1 : ¬ 9223372036854775807 < P.length + 1 + A.length := by omega
      have n2 : ¬ 9223372036854775807 < P.length + 1 + A.length + 1 := by omega
      have n3 : ¬ 9223372036854775807 < P.length + 1 + A.length + 1 + B.length := by omega
      have n4 : ¬ 9223372036854775807 < P.length + 1 + A.length + 1 + B.length + 1 := by omega
      have n5 : ¬ 9223372036854775807 < P.length + 1 + A.length + 1 + B.length + 1 + C.length := by omega
      go_region_held3 (fun w' => w'.cell? ⟨wr.heap.size, 0, none⟩ = some (.int .i64 x) ∧ w'.cell? ⟨wr.heap.size, 1, none⟩ = some (.int .i64 ar) ∧ w'.cell? ⟨wr.heap.size, 2, none⟩ = some (.int .i64 d)) (go_keep) (first
        | (go_at_call 54; with_reducible refine (CD _).mono ?_; rintro e wc ⟨rfl, hbc⟩; have Bc := btrans Bb hbc; have z0 := ble Bc c0; have z1 := ble Bc c1; have z2 := ble Bc c2)
        | (go_at_call 54; with_reducible refine (CA _).mono ?_; rintro e wb ⟨rfl, hbb⟩; have Bb := btrans Ba hbb; have y0 := ble Bb c0; have y1 := ble Bb c1; have y2 := ble Bb c2)
        | (go_at_call 52; with_reducible refine (CI _).mono ?_; rintro e wa ⟨rfl, hba⟩; have Ba := undrew hba; have x0 := ble Ba c0; have x1 := ble Ba c1; have x2 := ble Ba c2))
      go_wp2
      go_roundw
      case rel => exact ⟨k + 1, by omega, by go_num, by rw [hst.out, hCL.out, ← hP.out]; exact congrArg Value.string (text7 s RL A B C), btrans hbV Bc⟩
      case measure => simp [intOf]; omega
    · have hlt' : ¬ ((k : Int) < (cs.length : Int)) := by omega
      obtain rfl : k = cs.length := by omega
      rw [List.take_length] at *
      clear hz1 hz
      rw [← hq.out]
      go_wp2
      go_ret
      exact ⟨rfl, btrans HB hbr⟩
end Go.Proofs.YthlmaljgnhakfaaDoor
