/- Two trips compared: laws.sameTrip. -/
import Derived.Test.YthlmaljgnhakfaaGreatDoorTX
import Derived.Deep.RegionHeld3
namespace Go.Proofs.YthlmaljgnhakfaaGreatDoor
open Go.RowKit
theorem take_one {cs : List HaltV} {k : Nat} (h : k < cs.length) : cs.take (k + 1) = cs.take k ++ [cs.getD k HaltV.zero] := by
  rw [List.take_add_one, List.getElem?_eq_getElem h]; simp [List.getD, h]
set_option maxRecDepth 100000 in
set_option maxHeartbeats 3200000 in
theorem cSameTrip (s s' : ByteArray) (a1 a2 : Option Addr) (p1 p2 : Nat) (cs cs' : List HaltV) (w : World) (h1 : Halts w a1 cs) (h2 : Halts w a2 cs') (hl : cs.length ≤ 1048576) :
    Calls Tryz.prog 11 #[.agg #[.string s, .slice a1 cs.length p1], .agg #[.string s', .slice a2 cs'.length p2]] w fun e w' => ∃ b, e = .returned (.bool b) ∧ (b = true ↔ s = s' ∧ cs = cs') ∧ Below w.heap.size w w' := by
  have hb := btrans (balloc w (.cells #[.string s, .slice a1 cs.length p1] 26)) (balloc _ (.cells #[.string s', .slice a2 cs'.length p2] 26))
  by_cases hs : s = s'
  · subst hs
    by_cases hc : cs.length = cs'.length
    · obtain ⟨n, hn⟩ : ∃ n, cs.length = n := ⟨_, rfl⟩
      have hn' : cs'.length = n := by omega
      rw [hn, hn'] at hb ⊢
      have K1 := blk_keep (balloc _ (.cells #[.string s, .slice a2 n p2] 26)) (one_block' w (.cells #[.string s, .slice a1 n p1] 26))
      have K2 := one_block' (w.alloc (.cells #[.string s, .slice a1 n p1] 26)) (.cells #[.string s, .slice a2 n p2] 26)
      rw [show (w.alloc (.cells #[.string s, .slice a1 n p1] 26)).heap.size = w.heap.size + 1 by simp] at K2
      replace hn := hide hn
      replace hn' := hide hn'
      have hnl : n ≤ 1048576 := by have := hn.out; omega
      clear hl hc
      go_enter Tryz.func11, Tryz.ntmps11
      go_wp2
      generalize (w.alloc (.cells #[.string s, .slice a1 n p1] 26)).alloc (.cells #[.string s, .slice a2 n p2] 26) = W at *
      go_loopw [5] (fun i wr => ∃ k : Nat, k ≤ n ∧ i = .int .i64 k ∧ Hid (cs.take k = cs'.take k) ∧ Below W.heap.size W wr) (fun i _ => n - (intOf i).toNat)
      case atStart => exact ⟨0, Nat.zero_le _, rfl, hide rfl, Below.refl _ _⟩
      case round =>
        obtain ⟨k, hk, rfl, hT, hb2⟩ := hrel
        have HB := btrans hb hb2
        obtain ⟨⟨o0, o1⟩, -⟩ := blk2 (blk_keep hb2 K1)
        obtain ⟨⟨q0, q1⟩, -⟩ := blk2 (blk_keep hb2 K2)
        by_cases hlt : k < n
        · rcases h1 with h | ⟨b1, o1', rfl, z1⟩
          · have := hn.out; simp [h] at this; omega
          rcases h2 with h | ⟨b2, o2', rfl, z2⟩
          · have := hn'.out; simp [h] at this; omega
          obtain ⟨p0, p1, p2⟩ := z1 k (by have := hn.out; omega)
          obtain ⟨r0, r1, r2⟩ := z2 k (by have := hn'.out; omega)
          replace p0 := ble HB p0
          replace p1 := ble HB p1
          replace p2 := ble HB p2
          replace r0 := ble HB r0
          replace r1 := ble HB r1
          replace r2 := ble HB r2
          have T1 := hide (take_one (cs := cs) (k := k) (by have := hn.out; omega))
          have T2 := hide (take_one (cs := cs') (k := k) (by have := hn'.out; omega))
          clear z1 z2
          have hlt' : (k : Int) < (n : Int) := by omega
          by_cases hy : cs.getD k HaltV.zero = cs'.getD k HaltV.zero
          · have T3 := hide (show cs.take (k + 1) = cs'.take (k + 1) by rw [T1.out, T2.out, hT.out, hy])
            rw [← hy] at r0 r1 r2
            clear T1 T2 hT hy
            generalize cs.getD k HaltV.zero = y at *
            obtain ⟨yn, ya, yd⟩ := y
            dsimp only at *
            go_wp2_with fail
            go_quiet (fail)
            go_wp2
            go_roundw
            case rel => exact ⟨k + 1, by omega, by go_num, T3, bdraw hb2 _⟩
            case measure => simp [intOf]; omega
          · have hf : ¬ (s = s ∧ cs = cs') := fun h => hy (by rw [h.2])
            clear T1 T2 hT
            generalize cs.getD k HaltV.zero = y at *
            generalize cs'.getD k HaltV.zero = y' at *
            obtain ⟨yn, ya, yd⟩ := y
            obtain ⟨xn, xa, xd⟩ := y'
            have hq : Hid (¬ (s = s ∧ cs = cs')) := hide hf
            clear hf
            by_cases e1 : yn = xn
            · subst e1
              by_cases e2 : ya = xa
              · subst e2
                have e3 : (yd == xd) = false := by rw [beq_eq_false_iff_ne]; intro e; apply hy; rw [e]
                clear hy
                dsimp only at *
                go_wp2_with fail
                go_quiet (fail)
                go_wp2
                go_ret
                exact ⟨false, rfl, ⟨(fun h => by cases h), fun h => absurd h hq.out⟩, bdraw HB _⟩
              · have e3 : (ya == xa) = false := by rw [beq_eq_false_iff_ne]; exact e2
                clear hy e2
                dsimp only at *
                go_wp2_with fail
                go_quiet (fail)
                go_wp2
                go_ret
                exact ⟨false, rfl, ⟨(fun h => by cases h), fun h => absurd h hq.out⟩, bdraw HB _⟩
            · have e3 : (yn == xn) = false := by rw [beq_eq_false_iff_ne]; exact e1
              clear hy e1
              dsimp only at *
              go_wp2_with fail
              go_quiet (fail)
              go_wp2
              go_ret
              exact ⟨false, rfl, ⟨(fun h => by cases h), fun h => absurd h hq.out⟩, bdraw HB _⟩
        · obtain rfl : n = k := by omega
          have hf : s = s ∧ cs = cs' := ⟨rfl, by have := hT.out; rw [List.take_of_length_le (by have := hn.out; omega), List.take_of_length_le (by have := hn'.out; omega)] at this; exact this⟩
          go_wp2
          go_ret
          exact ⟨rfl, HB⟩
    · have hne : ((cs.length : Int) != (cs'.length : Int)) = true := by simp only [bne_iff_ne]; omega
      go_enter Tryz.func11, Tryz.ntmps11
      go_wp2
      go_ret
      exact ⟨false, rfl, ⟨(fun h => by cases h), fun h => absurd (by rw [h.2]) hc⟩, hb⟩
  · have hne : (s.toList == s'.toList) = false := by
      rw [beq_eq_false_iff_ne, ByteArray.toList_eq, ByteArray.toList_eq]
      intro e; apply hs; cases s; cases s'; congr 1; exact Array.toList_inj.1 e
    go_enter Tryz.func11, Tryz.ntmps11
    go_wp2
    go_ret
    exact ⟨false, rfl, ⟨(fun h => by cases h), fun h => absurd h.1 hs⟩, hb⟩
end Go.Proofs.YthlmaljgnhakfaaGreatDoor
