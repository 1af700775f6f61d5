/- TakenBy of the model and of the program. -/
import Derived.Test.YtcfapadcgboalaaDoorV
namespace Go.Proofs.YtcfapadcgboalaaDoor
open Go.RowKit

theorem cInV {x lo hi : Int} {r : Bool} (h : inB x lo hi = r) (w : World) : Calls Tryd.prog 29 #[.int .i64 x, .int .i64 lo, .int .i64 hi] w fun e w' => e = .returned (.bool r) ∧ w' = w := by
  rw [← h]; exact cIn x lo hi w

set_option maxRecDepth 20000 in
set_option maxHeartbeats 3200000 in
theorem cTakenS (a : Option Addr) (cap : Nat) (n : Int) (ts : List SpanV) (w : World) (he : Spans w a ts) (hl : ts.length ≤ 1048576) :
    Calls Tryd.prog 14 #[.int .i64 n, .slice a ts.length cap] w fun e w' => ∃ v, e = .returned v ∧
      w'.ownsRow w.heap.size 4 1 v (takenL n ts).length ((takenL n ts).map Value.bool) ∧ Below w.heap.size w w' := by
  cases h : trainsOk n ts
  · have R := hide (takenL_no h)
    generalize takenL n ts = r at *
    go_enter Tryd.func14, Tryd.ntmps14
    go_wp2_with fail
    refine (cTrainsS a cap n ts _ he hl).mono ?_
    rintro e w1 ⟨rfl, hb⟩
    rw [h]
    go_wp2
    go_ret
    exact ⟨_, rfl, by rw [R.out]; exact World.ownsRow_nil _ _ _ _, hb⟩
  have R := hide (takenL_yes h)
  obtain ⟨h1, h2, h3⟩ := trains_of h
  obtain ⟨n1, n2⟩ := inB_true h1
  obtain ⟨N, rfl⟩ := Int.eq_ofNat_of_zero_le (show 0 ≤ n by omega)
  rw [Int.toNat_natCast] at R
  have hO := fun k (hk : k < ts.length) b => onB_succ hk b
  have hO0 := onB_zero ts
  have hEnd : ∀ m : Nat, onAll ts m = onB ts ts.length m := fun m => rfl
  have hR := fun k => takens_succ ts k
  have hRl := fun k => takens_len ts k
  have hR0 : takens ts 0 = [] := rfl
  generalize takenL (N : Int) ts = L at *
  generalize takens ts = TK at *
  generalize onAll ts = OA at *
  generalize onB ts = OB at *
  clear h3 h1
  obtain ⟨i0, hi, hz0, hz1, hz2⟩ := info_parts2 infoBools
  go_enter Tryd.func14, Tryd.ntmps14
  go_wp2_with fail
  refine (cTrainsS a cap (N : Int) ts _ he hl).mono ?_
  rintro e w1 ⟨rfl, hb⟩
  rw [h]
  have he1 := he.below hb
  have hs1 := hb.size
  go_wp2
  go_loopw [5, 6, 7, 8] (fun o i _ _ wr => ∃ m : Nat, m ≤ N ∧ i = .int .i64 m ∧ wr.ownsRow w.heap.size 4 1 o m ((TK m).map Value.bool) ∧ Below w.heap.size w wr) (fun _ i _ _ _ => N - (intOf i).toNat)
  case atStart => exact ⟨0, Nat.zero_le _, rfl, by rw [hR0]; exact World.ownsRow_made _ #[] 0 hs1 (by omega) rfl, btrans hb (balloc _ _)⟩
  case round =>
    obtain ⟨m, hm, rfl, hown, hb⟩ := hrel
    by_cases hlt : m < N
    · have hRk := hide (hR m)
      clear hR hRl hR0
      obtain ⟨wo, rfl⟩ : ∃ wo, wo = wr := ⟨wr, rfl⟩
      go_wp2
      go_loopw [7, 8] (fun x i wi => ∃ k : Nat, k ≤ ts.length ∧ i = .int .i64 k ∧ x = .bool (OB k m) ∧ Below wo.heap.size wo wi) (fun _ i _ => ts.length - (intOf i).toNat)
      case atStart => exact ⟨0, Nat.zero_le _, rfl, by rw [hO0], Below.refl _ _⟩
      case round =>
        obtain ⟨k, hk, rfl, rfl, hbi⟩ := hrel
        by_cases hlk : k < ts.length
        · have hOk := hide (hO k hlk m)
          rcases he with he | ⟨bb, off, rfl, hc⟩
          · simp [he] at hlk
          obtain ⟨q0, q1⟩ := hc k hlk
          have p0 : wr.cell? ⟨bb, off + k * 2, none⟩ = some (.int .i64 (rAt ts k)) := ble hbi (ble hb q0)
          have p1 : wr.cell? ⟨bb, off + k * 2 + 1, none⟩ = some (.int .i64 (fAt ts k)) := ble hbi (ble hb q1)
          clear hc q0 q1 hO hO0 hEnd
          generalize rAt ts k = x at *
          generalize fAt ts k = y at *
          cases hs : inB (m : Int) x y
          · rw [hs, Bool.or_false] at hOk
            go_wp2
            go_quiet ((go_at_call 29; exact Calls.quiet_of_same (cInV hs _)))
            go_wp2
            go_roundw
            case rel => exact ⟨k + 1, by omega, by go_num, by rw [hOk.out], bdraw hbi _⟩
            case measure => simp [intOf]; omega
          · rw [hs, Bool.or_true] at hOk
            go_wp2
            go_quiet ((go_at_call 29; exact Calls.quiet_of_same (cInV hs _)))
            go_wp2
            go_roundw
            case rel => exact ⟨k + 1, by omega, by go_num, by rw [hOk.out], bdraw hbi _⟩
            case measure => simp [intOf]; omega
        · obtain rfl : k = ts.length := by omega
          rw [← hEnd m]
          have hown := own_keep hown hbi
          have hb := btrans hb hbi
          have hsz := hb.size
          clear hbi hO hO0 hEnd he he1 hs1
          go_wp2_with (at_builtin; refine wpList_append_own _ rfl _ _ 29 rfl w.heap.size 4 i0 (.bool false) 1 1 Tryd.underlying29 hi hz0 hz1 hz2 rfl (by decide) _ _ _ rfl (hown.alloc _) ⟨wr.heap.size, 0, none⟩ 1 1 [.bool (OA m)] rfl rfl ?c1 ?c2 ?c3 ?c4 ?c5 ?_)
          case c1 =>
            intro j u hj
            match j, hj with
            | 0, hj => simp at hj; subst hj; simp [Addr.add]
          case c2 => intro u hu; simp at hu; subst hu; rfl
          case c3 => unfold maxLen; omega
          case c4 => omega
          case c5 => simp; omega
          intro v' w5 hown' hgrow _
          have hfrom := own_from hown (Nat.le_refl _)
          have hbel' : Below w.heap.size w w5 := (hb.alloc hsz _).grown hgrow (by simp; omega) (fun j e => by have := hfrom j e; omega)
          have hown2 : w5.ownsRow w.heap.size 4 1 v' (m + 1) ((TK (m + 1)).map Value.bool) := by
            rw [hRk.out, List.map_append]; exact hown'
          clear hown hown' hgrow hb hfrom
          go_wp2
          go_roundw
          case rel => exact ⟨m + 1, by omega, by go_num, hown2, hbel'⟩
          case measure => simp [intOf]; omega
    · obtain rfl : m = N := by omega
      go_wp2
      go_ret
      exact ⟨_, rfl, by rw [R.out, hRl]; exact hown, hb⟩

set_option maxHeartbeats 800000 in
theorem cTakenI (a : Option Addr) (cap : Nat) (n : Int) (ts : List SpanV) (w : World) (he : Spans w a ts) (ha : a = none → cap = 0) (hspot : ∀ x, a = some x → x.spot = none) (hl : ts.length ≤ 1048576) (hg : Glob w) :
    Calls Tryd.prog 8 #[.int .i64 n, .slice a ts.length cap] w fun e w' => ∃ v, e = .returned v ∧
      w'.ownsRow w.heap.size 4 1 v (takenL n ts).length ((takenL n ts).map Value.bool) ∧ Below w.heap.size w w' := by
  cases h : trainsOk n ts
  · have R := hide (takenL_no h)
    generalize takenL n ts = r at *
    go_enter Tryd.func8, Tryd.ntmps8
    go_wp2_with fail
    refine (cLineNo a cap n ts _ he hl h).mono ?_
    rintro e w1 ⟨ev, rfl, hev, hb⟩
    go_wp2_with fail
    refine (cMayNot false ev _ hev (hg.below hb)).mono ?_
    rintro e w2 ⟨rfl, hb2⟩
    have HB := btrans hb hb2
    clear hb hb2
    go_wp2
    go_ret
    exact ⟨_, rfl, by rw [R.out]; exact World.ownsRow_nil _ _ _ _, HB⟩
  · have R := hide (takenL_yes h)
    generalize takenL n ts = r at *
    go_enter Tryd.func8, Tryd.ntmps8
    go_wp2_with fail
    refine (cLineYes a cap n ts _ he ha hspot hl h).mono ?_
    rintro e w1 ⟨b, v, rfl, hL, hb⟩
    go_wp2_with fail
    refine (cMayNot true .nilIface _ (.inl ⟨rfl, rfl⟩) (hg.below hb)).mono ?_
    rintro e w2 ⟨rfl, hb2⟩
    have HB := btrans hb hb2
    have hL2 := hL.below hb2
    clear hb hb2 hL
    go_wp2_with fail
    refine (cTaken _ b n v ts _ hL2 h).mono ?_
    rintro e w3 ⟨rfl, ho, hb3⟩
    have HB3 := btrans HB hb3
    go_wp2
    go_ret
    exact ⟨_, rfl, by rw [R.out, takens_len, ← rowB_all]; exact Go.Joins.ownsRow_le ho HB.size, HB3⟩
end Go.Proofs.YtcfapadcgboalaaDoor
