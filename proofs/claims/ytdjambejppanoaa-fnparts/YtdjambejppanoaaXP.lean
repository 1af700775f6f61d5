/- The walk of FnParts. -/
import Derived.Test.YtdjambejppanoaaWN
import Derived.Test.YtdjambejppanoaaDRN
import Derived.BigQuiet
namespace Go.Proofs.Ytdjambejppanoaa
open Go.RowKit
set_option maxRecDepth 20000 in
set_option maxHeartbeats 6400000 in
theorem walkPartsD (a : Option Addr) (cap : Nat) (zs : List Int) (w : World) (hz : Bytes w a zs) (hn : zs.length ≤ maxLen) :
    Calls Try.prog 5 #[.slice a zs.length cap] w fun e w' => e = .returned (.bool true) ∧ Below w.heap.size w w' := by
  have CB := cbig a cap zs.length w hn
  go_enter Try.func5, Try.ntmps5
  go_wp2_with fail
  refine CB.mono ?_
  rintro e w1 ⟨rfl, hw⟩
  subst w1
  by_cases hb : 1048576 < zs.length
  · rw [decide_eq_true hb]
    go_wp2
    go_ret
    exact ⟨rfl, Below.refl _ _⟩
  rw [decide_eq_false hb]
  have hl : zs.length ≤ 1048576 := by omega
  clear CB
  go_wp2_with fail
  refine (cDrawNet a cap zs _ hz hl).mono ?_
  rintro e w2 ⟨n, es, ao, cp, rfl, hR, n2, hO, HB⟩
  obtain ⟨R, hN, hE⟩ := net_rg hR
  have hal := balloc w2 (.cells #[.int .i64 (n : Int), .slice ao es.length cp] 26)
  have X := Bx2.new w2 (.int .i64 (n : Int)) (.slice ao es.length cp) 26
  have hEd := (Edges.own hO).below hal
  replace HB := btrans HB hal
  have hT := hide hR
  clear hal hO hz hb hl hn hR R
  obtain ⟨b0, b1⟩ := id X
  go_wp2_with fail
  generalize w2.alloc (.cells #[.int .i64 (n : Int), .slice ao es.length cp] 26) = w3 at *
  generalize w2.heap.size = tb at *
  refine (cPartsI ao cp (n : Int) es _ hEd (by omega)).mono ?_
  rintro e w4 ⟨a4, c4, ps, rfl, hV, O4, hb4⟩
  obtain ⟨hpl, hP⟩ : ps.length = n ∧ Hid (∀ j : Nat, j < n → Prt (n : Int) es (j : Int) (ps.getD j 0)) := by
    rcases hV with ⟨-, h1, h2⟩ | ⟨h1, -⟩
    · exact ⟨by omega, hide (fun j hj => h2 j (by omega))⟩
    · rw [hT.out] at h1; cases h1
  rw [hpl] at O4 ⊢
  obtain ⟨g4, rfl, hg4, -⟩ := int_first O4 (by omega) hpl
  replace X := X.below hb4
  replace hEd := hEd.below hb4
  replace HB := btrans HB hb4
  clear hV hb4 b0 b1
  obtain ⟨b0, b1⟩ := id X
  go_wp2
  go_loopw [5] (fun iv wr => ∃ i : Nat, i ≤ n ∧ iv = .int .i64 (i : Int) ∧ wr.ownsRow w3.heap.size 3 1 (.slice (some ⟨g4, 0, none⟩) n c4) n (ps.map (.int .i64)) ∧ Bx2 wr tb (.int .i64 (n : Int)) (.slice ao es.length cp) ∧ Edges wr ao es ∧ Below w.heap.size w wr) (fun iv _ => n - (intOf iv).toNat)
  case atStart => exact ⟨0, Nat.zero_le _, rfl, O4, X, hEd, HB⟩
  case round =>
    clear O4 X hEd HB b0 b1
    obtain ⟨i, hin, rfl, O4, X, hEd, HB⟩ := hrel
    obtain ⟨b0, b1⟩ := id X
    by_cases hlt : i < n
    · have hlt' : (i : Int) < (n : Int) := by omega
      go_wp2_with fail
      refine (cReachI ao cp (n : Int) (i : Int) es _ hEd (by omega)).mono ?_
      rintro e w5 ⟨a5, c5, rs, rfl, hRV, O5, hb5⟩
      have hI : IsRch (n : Int) es (i : Int) rs := by
        rcases hRV with ⟨-, -, h⟩ | ⟨h, -⟩
        · exact h
        · exact absurd ⟨hT.out, inB_yes (by omega) (by omega)⟩ h
      have hrl := hRV.small
      have hpos := hI.pos (by omega)
      obtain ⟨g5, rfl, -, f5⟩ := int_first O5 hpos rfl
      have hI5 := Ints.own O5 rfl
      replace O4 := own_keep O4 hb5
      replace X := X.below hb5
      replace hEd := hEd.below hb5
      replace HB := btrans HB hb5
      have hz0 : rs.getD 0 0 = ps.getD i 0 := by
        obtain ⟨rs', h1, h2⟩ := hP.out i hlt
        rw [h2, hI.unique h1]
      have f4 := (int_at O4 (i := i) (by omega)).1
      rw [hz0] at f5
      have hself := hI.self (by omega)
      have C0 := fun W (h : Below w5.heap.size w5 W) => cWithinL (some ⟨g5, 0, none⟩) c5 rs (i : Int) W (hI5.below h) (by omega)
      rw [decide_eq_true hself] at C0
      have hrp : (0 : Int) < (rs.length : Int) := by omega
      have hrn : ((rs.length : Int) == 0) = false := beq_eq_false_iff_ne.2 (by omega)
      have hPI := hide (fun (j : Nat) (hj : j < n) => (show (j : Int) ∈ rs ↔ ps.getD i 0 = ps.getD j 0 from by
        obtain ⟨rs', h1, h2⟩ := hP.out j hj
        rw [h2, ← hz0]
        exact prt_iff hI h1 (by omega) (by omega)))
      clear hRV hb5 O5 hself hI b0 b1 hz0 hpos
      obtain ⟨b0, b1⟩ := id X
      generalize ps.getD i 0 = z at *
      go_wp2
      go_quiet (first | (go_at_call 14; with_reducible refine Calls.quiet_of_same (C0 _ (bdraw (Below.refl _ _) _))))
      go_wp2
      have CW := fun W (h : Below w5.heap.size w5 W) (j : Nat) => cWithinL (some ⟨g5, 0, none⟩) c5 rs (j : Int) W (hI5.below h) (by omega)
      clear C0 f5 hI5 b0 b1
      go_loopw [7] (fun jv wr => ∃ j : Nat, j ≤ n ∧ jv = .int .i64 (j : Int) ∧ Below w5.heap.size w5 wr) (fun jv _ => n - (intOf jv).toNat)
      case atStart => exact ⟨0, Nat.zero_le _, rfl, bdraw (Below.refl _ _) _⟩
      case round =>
        obtain ⟨j, hjn, rfl, hbr⟩ := hrel
        have Xr := X.below hbr
        obtain ⟨b0, b1⟩ := id Xr
        by_cases hj : j < n
        · have hj' : (j : Int) < (n : Int) := by omega
          have hPj := hPI.out j hj
          have f6 := (int_at (own_keep O4 hbr) (i := j) (by omega)).1
          have f7 := ble hbr f4
          have C1 := fun W h => CW W h j
          clear CW Xr
          generalize ps.getD j 0 = zj at *
          by_cases hm : (j : Int) ∈ rs
          · rw [decide_eq_true hm] at C1
            obtain rfl := hPj.1 hm
            clear hPj
            go_wp2
            go_quiet (first | (go_at_call 14; with_reducible refine Calls.quiet_of_same (C1 _ (bdraw hbr _))))
            go_wp2
            go_roundw
            case rel => exact ⟨j + 1, by omega, by go_num, bdraw hbr _⟩
            case measure => simp [intOf]; omega
          · rw [decide_eq_false hm] at C1
            have hne : (z == zj) = false := beq_eq_false_iff_ne.2 (fun e => hm (hPj.2 e))
            clear hPj
            go_wp2
            go_quiet (first | (go_at_call 14; with_reducible refine Calls.quiet_of_same (C1 _ (bdraw hbr _))))
            go_wp2
            go_roundw
            case rel => exact ⟨j + 1, by omega, by go_num, bdraw hbr _⟩
            case measure => simp [intOf]; omega
        · obtain rfl : j = n := by omega
          have Or := own_keep O4 hbr
          have Er := hEd.below hbr
          have Hr := btrans HB hbr
          clear CW hPI
          go_wp2
          go_roundw
          case rel => exact ⟨i + 1, by omega, by go_num, Or, Xr, Er, Hr⟩
          case measure => simp [intOf]; omega
    · obtain rfl : i = n := by omega
      go_wp2
      go_ret
      exact ⟨rfl, HB⟩
end Go.Proofs.Ytdjambejppanoaa
