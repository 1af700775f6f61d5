/- Fleet of program and model. -/
import Derived.Test.YtbnhkkaiohmllaaSF
namespace Go.Proofs.Ytbnhkkaiohmllaa
open Go.RowKit Go.Lib

/-- What the program's Fleet tells. -/
def FlA (ts : List TaskV) (n : Int) (z : Int) : Prop := ((tasksB ts && turnB n) = false ∧ z = -1) ∨ ((tasksB ts && turnB n) = true ∧ ∃ os h, Ord ts os ∧ Chn ts n os h ∧ z = nU h)
/-- What the model's Fleet tells. -/
def FlS (ts : List TaskV) (n : Int) (z : Int) : Prop := ((tasksB ts && turnB n) = false ∧ z = -1) ∨ ((tasksB ts && turnB n) = true ∧ ∃ aq c, Kuhn (FF ts n) ts.length aq ts.length c ∧ z = ts.length - c)
theorem FlA.same {ts : List TaskV} {n x y : Int} (h : FlA ts n x) (g : FlS ts n y) : x = y := by
  rcases h with ⟨h1, h2⟩ | ⟨h1, os, hh, h2, h3, h4⟩ <;> rcases g with ⟨g1, g2⟩ | ⟨g1, aq, c, g2, g3⟩
  · omega
  · rw [h1] at g1; cases g1
  · rw [h1] at g1; cases g1
  · have hr : ts.all taskB = true := by simp only [Bool.and_eq_true, tasksB, decide_eq_true_eq] at h1; exact h1.1.2
    rw [h4, g3]
    exact fleet_eq h2 h3 hr g2

set_option maxRecDepth 20000 in
set_option maxHeartbeats 1600000 in
theorem cFleetI (a : Option Addr) (cap : Nat) (ts : List TaskV) (n : Int) (w : World) (hz : Tasks w a ts) (hl : ts.length ≤ 1048576) :
    Calls Try.prog 24 #[.slice a ts.length cap, .int .i64 n] w fun e w' => ∃ z, e = .returned (.int .i64 z) ∧ FlA ts n z ∧ Below w.heap.size w w' := by
  go_enter Try.func24, Try.ntmps24
  go_wp2_with fail
  refine (cCircI a cap ts n _ hz hl).mono ?_
  rintro e w1 ⟨rfl, hb⟩
  cases hok : (tasksB ts && turnB n)
  · have hF := hide (show FlA ts n (-1) from .inl ⟨hok, rfl⟩)
    go_wp2
    go_ret
    exact ⟨-1, rfl, hF.out, hb⟩
  · have CC := cChained a cap ts n w1 (hz.below hb) hl
    replace hok := hide hok
    go_wp2_with fail
    refine CC.mono ?_
    rintro e w2 ⟨r, m, zs, h, vu, vr, vs, rfl, hR, hA, hb2⟩
    have hF := hide (show FlA ts n (nU h) by
      rcases hA with ⟨h1, _⟩ | ⟨h1, os, h2, h3, _⟩
      · rw [hok.out] at h1; cases h1
      · exact .inr ⟨h1, os, h, h2, h3, rfl⟩)
    have hb3 := btrans hb hb2
    obtain ⟨⟨c0, c1, c2⟩, -⟩ := blk3 hR.blk
    obtain ⟨ra, rc, rfl⟩ := own_form hR.hr
    clear hR hA CC
    generalize nU h = M at *
    go_wp2
    go_ret
    exact ⟨_, rfl, hF.out, hb3⟩
theorem infoBool : (Try.prog.info? 4).map (fun i => (i.zero, i.size, i.bytes)) = some (some (.bool false), 1, 1) := by kernel_rfl

set_option maxRecDepth 20000 in
set_option maxHeartbeats 3200000 in
theorem cFleetS (a : Option Addr) (cap : Nat) (ts : List TaskV) (n : Int) (w : World) (hz : Tasks w a ts) (hl : ts.length ≤ 1048576) :
    Calls Try.prog 45 #[.slice a ts.length cap, .int .i64 n] w fun e w' => ∃ z, e = .returned (.int .i64 z) ∧ FlS ts n z ∧ Below w.heap.size w w' := by
  obtain ⟨i0, hi, hz0, hz1, hz2⟩ := info_parts infoInts
  obtain ⟨i1, hj, hy0, hy1, hy2⟩ := info_parts infoBool
  go_enter Try.func45, Try.ntmps45
  go_wp2_with fail
  refine (cTasksS a cap ts _ hz hl).mono ?_
  rintro e w1 ⟨rfl, hb⟩
  cases h1 : tasksB ts
  · have hF := hide (show FlS ts n (-1) from .inl ⟨by rw [h1]; rfl, rfl⟩)
    go_wp2
    go_ret
    exact ⟨-1, rfl, hF.out, hb⟩
  go_wp2_with fail
  refine (cTurnS n _).mono ?_
  rintro e w2 ⟨rfl, hw⟩
  subst w2
  cases h2 : turnB n
  · have hF := hide (show FlS ts n (-1) from .inl ⟨by rw [h1, h2]; rfl, rfl⟩)
    go_wp2
    go_ret
    exact ⟨-1, rfl, hF.out, hb⟩
  have hok := hide (show (tasksB ts && turnB n) = true by rw [h1, h2]; rfl)
  have h40 : ts.length ≤ 40 := by simp only [Bool.and_eq_true, tasksB, decide_eq_true_eq] at h1; exact h1.1
  clear h1 h2 hl
  have hO := World.ownsRow_made (base := w.heap.size) (e := 3) (size := 1) w1 #[] 0 hb.size (by unfold maxLen; omega) rfl
  have HB := btrans hb (balloc w1 (.cells #[] 3))
  go_wp2
  go_loopw [5, 6] (fun v i wr => ∃ k : Nat, k ≤ ts.length ∧ i = .int .i64 k ∧ wr.ownsRow w.heap.size 3 1 v k (List.replicate k (.int .i64 (-1))) ∧ Below w.heap.size w wr) (fun _ i _ => ts.length - (intOf i).toNat)
  case atStart => exact ⟨0, Nat.zero_le _, rfl, by simpa using hO, HB⟩
  case round =>
    obtain ⟨k, hk, rfl, ho, hbr⟩ := hrel
    clear hO HB
    obtain ⟨va, vc, rfl⟩ := own_form ho
    by_cases hlt : k < ts.length
    · have hlt' : (k : Int) < (ts.length : Int) := by omega
      have ho2 := own_keep ho (balloc wr (.cells #[.int .i64 (-1)] 3))
      have hb2 := btrans hbr (balloc wr (.cells #[.int .i64 (-1)] 3))
      go_wp2_with (at_builtin; refine wpList_append_own _ rfl _ _ 27 rfl w.heap.size 3 i0 _ 1 8 Try.underlying27 hi hz0 hz1 hz2 rfl (by decide) _ _ _ rfl ho2 ⟨wr.heap.size, 0, none⟩ 1 1 [.int .i64 (-1)] rfl rfl ?c1 ?c2 ?c3 ?c4 ?c5 ?_)
      case c1 => exact World.news_of_block (heap_alloc_new wr _)
      case c2 => simp [Value.oneCell']
      case c3 => unfold maxLen; omega
      case c4 => omega
      case c5 => have := hbr.size; simp; omega
      intro v2 w5 hown hgrow _
      have hb5 := hb2.grown hgrow hb2.size (own_from ho2 (Nat.le_refl _))
      have hown2 : w5.ownsRow w.heap.size 3 1 v2 (k + 1) (List.replicate (k + 1) (.int .i64 (-1))) := by
        rw [List.replicate_succ']; exact hown
      obtain ⟨v2a, v2c, rfl⟩ := own_form hown2
      clear hgrow hown ho2 hb2 ho
      go_wp2
      go_roundw
      case rel => exact ⟨k + 1, by omega, by go_num, hown2, hb5⟩
      case measure => simp [intOf]; omega
    · obtain rfl : k = ts.length := by omega
      have hlt' : ¬ ((ts.length : Int) < (ts.length : Int)) := by omega
      have OA : wr.ownsRow w.heap.size 3 1 (.slice va ts.length vc) ts.length ((List.replicate ts.length (-1)).map (Value.int .i64)) := by rw [List.map_replicate]; exact ho
      have hK0 := hide (Kuhn.start (FF ts n) ts.length)
      clear ho
      generalize wr = wo at *
      go_wp2
      go_loopw [7, 8] (fun v i wr => ∃ (k : Nat) (aq : List Int) (c : Int), k ≤ ts.length ∧ v = .int .i64 (ts.length - c) ∧ i = .int .i64 k ∧ Hid (Kuhn (FF ts n) ts.length aq k c) ∧ 0 ≤ c ∧ c ≤ k ∧ wr.ownsRow w.heap.size 3 1 (.slice va ts.length vc) ts.length (aq.map (Value.int .i64)) ∧ Below w.heap.size w wr) (fun _ i _ => ts.length - (intOf i).toNat)
      case atStart => exact ⟨0, _, 0, Nat.zero_le _, by simp, rfl, hK0, by omega, by omega, OA, hbr⟩
      case round =>
        obtain ⟨k, aq, c, hk, rfl, rfl, hK, hc0, hc1, OQ, hbq⟩ := hrel
        clear OA hK0
        by_cases hkl : k < ts.length
        · have hkl' : (k : Int) < (ts.length : Int) := by omega
          obtain ⟨ga, ca, he, hga1, hga2⟩ := OQ.form (by omega)
          simp only [Value.slice.injEq, true_and] at he
          obtain ⟨rfl, rfl⟩ := he
          have CK := cKuhn a cap ts n w hz h40 ga vc
          have hqs := hbq.size
          go_wp2_with (at_make; refine wpList_make_full _ rfl _ _ 84 rfl w.heap.size 4 i1 (.bool false) 1 Try.underlying84 hj hy0 hy1 _ _ _ _ ts.length rfl rfl rfl rfl (by rw [hy2]; omega) (by unfold maxLen; omega) hqs ?_; intro w3 hmk hgrow)
          have hbm : Below wr.heap.size wr w3 := (Below.refl _ _).grown hgrow (Nat.le_refl _) (fun k hk => by cases hk)
          have OS : w3.ownsRow w.heap.size 4 1 (.slice (some ⟨wr.heap.size, 0, none⟩) ts.length ts.length) ts.length ((List.replicate ts.length false).map Value.bool) := by
            rw [List.map_replicate]
            simpa [toList_madeCells_one, Value.cells] using hmk
          have OQ3 := own_keep OQ hbm
          have hb3 := btrans hbq hbm
          have C1 := CK wr.heap.size ts.length _ k aq (List.replicate ts.length false) w3 rfl hkl hK.out.la (by simp) hK.out.valid OQ3 OS hb3
          have hyes := hide (fun aq' ck R => hK.out.yes (aq' := aq') (ck := ck) R)
          have hno := hide (fun aq' ck R => hK.out.no (aq' := aq') (ck := ck) R)
          clear CK hmk hgrow hK OQ3 OS
          go_wp2_with fail
          refine C1.mono ?_
          rintro e w4 ⟨r, aq', ck, rfl, OA4, OS4, hb4, hM⟩
          have hb5 := hb3.trans hb4
          cases r
          · have hK2 := hide (hno.out aq' ck hM)
            clear hyes hno hM C1 OS4
            go_wp2
            go_roundw
            case rel => exact ⟨k + 1, aq', c, by omega, rfl, by go_num, hK2, hc0, by omega, OA4, hb5⟩
            case measure => simp [intOf]; omega
          · have hK2 := hide (hyes.out aq' ck hM)
            have hw : IntKind.i64.wrap ((ts.length : Int) - c - 1) = (ts.length : Int) - (c + 1) := (wrap_in _ (by omega) (by omega)).trans (by omega)
            clear hyes hno hM C1 OS4
            go_wp2
            go_roundw
            case rel => exact ⟨k + 1, aq', c + 1, by omega, rfl, by go_num, hK2, by omega, by omega, OA4, hb5⟩
            case measure => simp [intOf]; omega
        · obtain rfl : k = ts.length := by omega
          have hkl' : ¬ ((ts.length : Int) < (ts.length : Int)) := by omega
          have hF := hide (show FlS ts n (ts.length - c) from .inr ⟨hok.out, aq, c, hK.out, rfl⟩)
          clear hK hz
          go_wp2
          go_ret
          exact ⟨_, rfl, hF.out, hbq⟩
end Go.Proofs.Ytbnhkkaiohmllaa
