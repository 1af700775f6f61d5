/- The model's PlantOk: the whole. -/
import Derived.Test.YtpgjllefhlanpaaSP
namespace Go.Proofs.Ytpgjllefhlanpaa
open Go.RowKit
theorem blk1 {w : World} {o : Obj} : (w.alloc o).heap[w.heap.size]? = some o := by
  show (w.heap.push _)[w.heap.size]? = _
  simp
theorem route_long {n : Nat} {B : Int} {r : RouteV} (hn : n ≤ 16) (hB : B ≤ 24) (h : 24 < r.blocks.length ∨ 16 < r.needs.length) : routeOk n B r = false := by
  rw [← Bool.not_eq_true]
  intro hr
  simp only [routeOk, Bool.and_eq_true] at hr
  have h1 := path_len hr.2 hB
  have h2 := needsGo_len hr.1 (by omega) (by omega)
  omega

set_option maxHeartbeats 3200000 in
theorem cPlantOkS (a b : Option Addr) (ca cb : Nat) (p : PlantV) (w : World) (hP : PlantIn w a b p) (hS : Small p) :
    Calls Try.prog 30 #[plantVal a ca b cb p] w fun e w' => e = .returned (.bool (plantOk p)) ∧ Below w.heap.size w w' := by
  have CR := fun an am cn cm r w hN hI hl hm hcm hu h1 h24 => cRouteS a b ca cb p an am cn cm r w hN hI hl hm hcm hu h1 h24
  obtain ⟨U, B, R⟩ := p
  obtain ⟨hU, hR⟩ := hP
  obtain ⟨s1, s2, s3⟩ := hS
  dsimp only at *
  unfold plantVal at *
  dsimp only at *
  have hb := balloc w (.cells #[.slice a U.length ca, .int .i64 B, .slice b R.length cb] 27)
  have hk : (w.alloc (.cells #[.slice a U.length ca, .int .i64 B, .slice b R.length cb] 27)).heap[w.heap.size]? = some (.cells #[.slice a U.length ca, .int .i64 B, .slice b R.length cb] 27 (0, 0)) := blk1
  generalize hr : plantOk ⟨U, B, R⟩ = res
  replace hr := hide hr
  by_cases h2 : U.length ≤ 16
  rotate_left
  · have hf := hide (show res = false by rw [← hr.out]; simp [plantOk, h2])
    have h2' : (16 : Int) < U.length := by omega
    go_enter Try.func30, Try.ntmps30
    go_wp2
    go_ret
    exact ⟨ret_bool hf.out.symm, hb⟩
  have h2' : ¬ ((16 : Int) < U.length) := by omega
  go_enter Try.func30, Try.ntmps30
  go_wp2_with fail
  refine (cIn B 1 24 _).mono ?_
  rintro e w1 ⟨rfl, hw⟩
  subst w1
  cases h1 : inB B 1 24
  · have hf := hide (show res = false by rw [← hr.out]; simp [plantOk, h1])
    go_wp2
    go_ret
    exact ⟨ret_bool hf.out.symm, hb⟩
  have hB := inB_true h1
  by_cases h3 : R.length ≤ 12
  rotate_left
  · have hf := hide (show res = false by rw [← hr.out]; simp [plantOk, h3])
    have h3' : (12 : Int) < R.length := by omega
    go_wp2
    go_ret
    exact ⟨ret_bool hf.out.symm, hb⟩
  have h3' : ¬ ((12 : Int) < R.length) := by omega
  replace hr := hide (show (U.all (fun x => inB x 0 (B - 1)) && R.all (routeOk U.length B)) = res by rw [← hr.out]; simp [plantOk, h1, h2, h3])
  clear h1
  go_wp2
  go_loopw [3] (fun i wr => ∃ (k : Nat), k ≤ U.length ∧ i = .int .i64 k ∧ (U.take k).all (fun x => inB x 0 (B - 1)) = true ∧ Below w.heap.size w wr ∧ wr.heap[w.heap.size]? = some (.cells #[.slice a U.length ca, .int .i64 B, .slice b R.length cb] 27 (0, 0))) (fun i _ => U.length - (intOf i).toNat)
  case atStart => exact ⟨0, Nat.zero_le _, rfl, by simp, hb, hk⟩
  case round =>
    obtain ⟨k, hk', rfl, hall, hb1, hk1⟩ := hrel
    clear hb hk h2' h3'
    obtain ⟨⟨g1, g2, g3⟩, -⟩ := blk3 hk1
    by_cases hlt : k < U.length
    · rcases hU with h | ⟨nb, off, rfl, hc⟩
      · simp [h] at hlt
      have q0 := ble hb1 (hc k hlt)
      have e0 : U.getD k 0 = U[k] := by simp [List.getD, hlt]
      rw [e0] at q0
      have ho := fun h => hide (all_step (P := fun x => inB x 0 (B - 1)) hlt hall h)
      have hno := fun h => hide (all_bad (P := fun x => inB x 0 (B - 1)) hlt h)
      generalize U[k] = x at *
      have hwB : IntKind.i64.wrap (B - 1) = B - 1 := wrap_in _ (by omega) (by omega)
      clear hc e0 hall
      cases hx : inB x 0 (B - 1)
      · have hf := hide (show res = false by rw [← hr.out, (hno hx).out]; rfl)
        clear ho hno
        go_wp2
        go_quiet ((go_at_call 51; with_reducible exact Calls.quiet_of_same (cInV hx _)))
        go_wp2
        go_ret
        exact ⟨ret_bool hf.out.symm, bdraw hb1 _⟩
      · have ho' := ho hx
        clear ho hno
        go_wp2
        go_quiet ((go_at_call 51; with_reducible exact Calls.quiet_of_same (cInV hx _)))
        go_wp2
        go_roundw
        case rel => exact ⟨k + 1, by omega, by go_num, ho'.out, bdraw hb1 _, hk1⟩
        case measure => simp [intOf]; omega
    · obtain rfl : k = U.length := by omega
      rw [List.take_length] at hall
      replace hr := hide (show R.all (routeOk U.length B) = res by rw [← hr.out, hall]; rfl)
      clear hU hall
      go_wp2
      clear g1 g2 g3
      obtain ⟨wo, hwo⟩ : ∃ wo, wo = wr := ⟨wr, rfl⟩
      rw [← hwo] at hb1 hk1
      rw [← hwo]
      clear hwo
      go_loopw [4] (fun i wr => ∃ (k : Nat), k ≤ R.length ∧ i = .int .i64 k ∧ (R.take k).all (routeOk U.length B) = true ∧ Below w.heap.size w wr ∧ wr.heap[w.heap.size]? = some (.cells #[.slice a U.length ca, .int .i64 B, .slice b R.length cb] 27 (0, 0))) (fun i _ => R.length - (intOf i).toNat)
      case atStart => exact ⟨0, Nat.zero_le _, rfl, by simp, hb1, hk1⟩
      case round =>
        obtain ⟨k, hk', rfl, hall, hb2, hk2⟩ := hrel
        clear hb1 hk1
        obtain ⟨⟨g1, g2, g3⟩, -⟩ := blk3 hk2
        by_cases hlt : k < R.length
        · obtain ⟨rb, off, n, cn, m, cm, rfl, c1, c2, hcm, c3, c4⟩ := (hR.below hb2).at hlt
          have e0 : R.getD k RouteV.zero = R[k] := by simp [List.getD, hlt]
          have hek := s3 R[k] (List.getElem_mem hlt)
          rw [e0] at c1 c2 c3 c4 hcm
          have ho := fun h => hide (all_step (P := routeOk U.length B) hlt hall h)
          have hno := fun h => hide (all_bad (P := routeOk U.length B) hlt h)
          have CR' := fun (w1 : World) (hb1 : Below wr.heap.size wr w1) => CR n m cn cm R[k] w1 (c3.below hb1) (c4.below hb1) hek.1 hek.2 hcm h2 hB.1 hB.2
          generalize R[k] = Q at *
          obtain ⟨es, bs⟩ := Q
          dsimp only at *
          clear e0 hall c3 c4
          by_cases l1 : 24 < bs.length
          · have hf := hide (show res = false by rw [← hr.out, (hno (route_long h2 hB.2 (.inl l1))).out])
            have l1' : decide ((24 : Int) < (bs.length : Int)) = true := by simp; omega
            clear ho hno CR'
            go_wp2
            go_quiet (fail)
            go_wp2
            go_ret
            exact ⟨ret_bool hf.out.symm, bdraw hb2 _⟩
          have l1' : decide ((24 : Int) < (bs.length : Int)) = false := by simp; omega
          by_cases l2 : 16 < es.length
          · have hf := hide (show res = false by rw [← hr.out, (hno (route_long h2 hB.2 (.inr l2))).out])
            have l2' : decide ((16 : Int) < (es.length : Int)) = true := by simp; omega
            clear ho hno CR'
            go_wp2
            go_quiet (fail)
            go_wp2
            go_ret
            exact ⟨ret_bool hf.out.symm, bdraw hb2 _⟩
          have l2' : decide ((16 : Int) < (es.length : Int)) = false := by simp; omega
          cases hx : routeOk U.length B ⟨es, bs⟩
          · have hf := hide (show res = false by rw [← hr.out, (hno hx).out])
            rw [hx] at CR'
            clear ho hno
            go_wp2_with fail
            go_region_with (go_at_call 52; refine (CR' _ (bdraw (Below.refl _ _) _)).mono ?_; rintro e w6 ⟨rfl, hb6⟩; have HB6 := btrans hb2 (undrew hb6))
            all_goals go_wp2
            all_goals go_ret
            all_goals exact ⟨ret_bool hf.out.symm, HB6⟩
          · have ho' := ho hx
            rw [hx] at CR'
            have hK : ∀ w6, Below wr.heap.size wr w6 → w6.heap[w.heap.size]? = some (.cells #[.slice a U.length ca, .int .i64 B, .slice (some ⟨rb, off, none⟩) R.length cb] 27 (0, 0)) := fun w6 h => blk_keep h hk2
            clear ho hno
            go_wp2_with fail
            go_region_with (go_at_call 52; refine (CR' _ (bdraw (Below.refl _ _) _)).mono ?_; rintro e w6 ⟨rfl, hb6⟩; have HB6 := btrans hb2 (undrew hb6); have HK6 := hK _ (undrew hb6))
            all_goals go_wp2
            all_goals exact ⟨⟨k + 1, by omega, by go_num, ho'.out, HB6, HK6⟩, by simp [intOf]; omega⟩
        · obtain rfl : k = R.length := by omega
          rw [List.take_length] at hall
          have hf := hide (show res = true by rw [← hr.out, hall])
          clear hR hall hr
          go_wp2
          go_ret
          exact ⟨ret_bool hf.out.symm, hb2⟩
end Go.Proofs.Ytpgjllefhlanpaa
