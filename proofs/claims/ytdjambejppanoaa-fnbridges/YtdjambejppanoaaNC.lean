/- The model's NetOk. -/
import Derived.Test.YtdjambejppanoaaNB
import Derived.Deep.RegionWith
namespace Go.Proofs.Ytdjambejppanoaa
open Go.RowKit
set_option maxHeartbeats 1600000 in
theorem cNetS (a : Option Addr) (cap : Nat) (n : Int) (es : List EdgeV) (w : World) (he : Edges w a es) (hl : es.length ≤ 1048576) :
    Calls Try.prog 40 #[.agg #[.int .i64 n, .slice a es.length cap]] w fun e w' => e = .returned (.bool (netB n es)) ∧ Below w.heap.size w w' := by
  have hW := balloc w (.cells #[.int .i64 n, .slice a es.length cap] 26)
  have X0 := Bx2.new w (.int .i64 n) (.slice a es.length cap) 26
  cases hn : inB n 1 30
  · have R := hide (netB_n (es := es) hn)
    go_enter Try.func40, Try.ntmps40
    go_wp2_with (go_at_call 41; refine (cIn _ _ _ _).mono ?_; rintro e w' ⟨rfl, rfl⟩)
    go_ret
    exact ⟨ret_bool R.out.symm, hW⟩
  obtain ⟨hn1, hn2⟩ := inB_true hn
  by_cases h60 : 60 < es.length
  · have R := hide (netB_long (n := n) h60)
    go_enter Try.func40, Try.ntmps40
    go_wp2_with (go_at_call 41; refine (cIn _ _ _ _).mono ?_; rintro e w' ⟨rfl, rfl⟩)
    go_ret
    exact ⟨ret_bool R.out.symm, hW⟩
  go_enter Try.func40, Try.ntmps40
  go_wp2_with (go_at_call 41; refine (cIn _ _ _ _).mono ?_; rintro e w' ⟨rfl, rfl⟩)
  go_loopw [3, 4] (fun i _ wr => ∃ k : Nat, k ≤ es.length ∧ goodTo n es k = true ∧ i = .int .i64 k ∧ Below (w.heap.size + 1) (w.alloc (.cells #[.int .i64 n, .slice a es.length cap] 26)) wr) (fun i _ _ => es.length - (intOf i).toNat)
  case atStart => exact ⟨0, Nat.zero_le _, rfl, rfl, Below.refl _ _⟩
  case round =>
    obtain ⟨k, hk, hgo, rfl, hb⟩ := hrel
    have hb' : Below (w.alloc (.cells #[.int .i64 n, .slice a es.length cap] 26)).heap.size (w.alloc (.cells #[.int .i64 n, .slice a es.length cap] 26)) wr := by rw [sz1]; exact hb
    have fin : Below w.heap.size w wr := btrans hW hb'
    have X := X0.below hb'
    clear hb' hW X0
    obtain ⟨x0, x1⟩ := id X
    have hws : w.heap.size < wr.heap.size := cell_lt X.1
    by_cases hlt : k < es.length
    · rcases he with he | ⟨b, off, rfl, hc⟩
      · simp [he] at hlt
      obtain ⟨q0, q1, q2, q3⟩ := hc k hlt
      have p0 := ble fin q0
      have p1 := ble fin q1
      have p2 := ble fin q2
      have p3 := ble fin q3
      have hbs := cell_lt q0
      clear hc q0 q1 q2 q3
      have e0 := hide (show es.getD k EdgeV.zero = es[k] by simp [List.getD, hlt])
      rw [e0.out] at p0 p1 p2 p3
      generalize hE : es[k] = E at p0 p1 p2 p3
      obtain ⟨ea, eb, el, em⟩ := E
      simp only at p0 p1 p2 p3
      have e1 := hide hE
      clear hE
      have bad := fun h : edgeB n ⟨ea, eb, el, em⟩ = false => hide (netB_bad (n := n) hlt (by rw [e0.out, e1.out]; exact h))
      have F1 : Below w.heap.size w (wr.alloc (.cells #[.int .i64 ea, .int .i64 eb, .int .i64 el, .int .i64 em] 41)) := btrans fin (balloc _ _)
      cases ha : inB ea 0 (n - 1)
      · have R := bad (eB_a ha)
        clear bad hb fin
        go_wp2_with (go_at_call 41; refine (cIn _ _ _ _).mono ?_; rintro e w' ⟨rfl, rfl⟩)
        go_ret
        exact ⟨ret_bool R.out.symm, F1⟩
      cases hb2 : inB eb 0 (n - 1)
      · have R := bad (eB_b hb2)
        clear bad hb fin
        go_wp2_with (go_at_call 41; refine (cIn _ _ _ _).mono ?_; rintro e w' ⟨rfl, rfl⟩)
        go_ret
        exact ⟨ret_bool R.out.symm, F1⟩
      by_cases hab : ea = eb
      · have R := bad (eB_e hab)
        subst hab
        clear bad hb fin
        go_wp2_with (go_at_call 41; refine (cIn _ _ _ _).mono ?_; rintro e w' ⟨rfl, rfl⟩)
        go_ret
        exact ⟨ret_bool R.out.symm, F1⟩
      cases hll : inB el 1 100000
      · have R := bad (eB_l hll)
        clear bad hb fin
        go_wp2_with (go_at_call 41; refine (cIn _ _ _ _).mono ?_; rintro e w' ⟨rfl, rfl⟩)
        go_ret
        exact ⟨ret_bool R.out.symm, F1⟩
      cases hmm : inB em 1 90
      · have R := bad (eB_m hmm)
        clear bad hb fin
        go_wp2_with (go_at_call 41; refine (cIn _ _ _ _).mono ?_; rintro e w' ⟨rfl, rfl⟩)
        go_ret
        exact ⟨ret_bool R.out.symm, F1⟩
      have R := goodTo_succ hgo (by rw [e0.out, e1.out]; exact eB_all ha hb2 hab hll hmm)
      have F2 : Below (w.heap.size + 1) (w.alloc (.cells #[.int .i64 n, .slice (some ⟨b, off, none⟩) es.length cap] 26)) (wr.alloc (.cells #[.int .i64 ea, .int .i64 eb, .int .i64 el, .int .i64 em] 41)) :=
        hb.trans ((balloc wr _).mono (by omega))
      clear bad hb fin F1
      go_wp2_with (go_at_call 41; refine (cIn _ _ _ _).mono ?_; rintro e w' ⟨rfl, rfl⟩)
      go_roundw
      case rel => exact ⟨k + 1, by omega, R, by go_num, F2⟩
      case measure => simp [intOf]; omega
    · have hkk : k = es.length := by omega
      subst hkk
      have R := hide (netB_all hn (by omega) hgo)
      clear he hb
      go_wp2
      go_ret
      exact ⟨ret_bool R.out.symm, fin⟩
end Go.Proofs.Ytdjambejppanoaa
