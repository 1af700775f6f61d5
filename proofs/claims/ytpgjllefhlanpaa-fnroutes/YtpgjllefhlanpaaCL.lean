/- The program's routes that clash. -/
import Derived.Test.YtpgjllefhlanpaaCP
import Derived.Laws.StructEq
namespace Go.Proofs.Ytpgjllefhlanpaa
open Go.RowKit

set_option maxHeartbeats 800000 in
theorem cIndexInts (a : Option Addr) (cap : Nat) (zs : List Int) (x : Int) (w : World) (hz : Ints w a zs) (hl : zs.length ≤ 1048576) :
    Calls Try.prog 70 #[.slice a zs.length cap, .int .i64 x] w fun e w' => ∃ r : Int, e = .returned (.int .i64 r) ∧ decide (0 ≤ r) = decide (x ∈ zs) ∧ w' = w := by
  generalize hr : decide (x ∈ zs) = res
  have hr0 : Hid (decide (x ∈ zs.drop 0) = res) := hr
  clear hr
  go_enter Try.func70, Try.ntmps70
  go_wp2
  go_loop [8] (fun i => ∃ k : Nat, k ≤ zs.length ∧ i = .int .i64 k ∧ Hid (decide (x ∈ zs.drop k) = res)) (fun i => zs.length - (intOf i).toNat)
  case atStart => exact ⟨0, Nat.zero_le _, rfl, hr0⟩
  case round =>
    obtain ⟨k, hk, rfl, hres⟩ := hrel
    clear hr0
    by_cases hlt : k < zs.length
    · rcases hz with h | ⟨b, off, rfl, hc⟩
      · simp [h] at hlt
      have q0 := hc k hlt
      have e0 : zs.getD k 0 = zs[k] := by simp [List.getD, hlt]
      rw [e0] at q0
      have hd := hide (List.drop_eq_getElem_cons hlt)
      generalize zs[k] = y at *
      clear hc e0
      by_cases hxy : x = y
      · subst hxy
        have hf := hide (show res = true by rw [← hres.out, hd.out]; simp)
        clear hd hres
        go_wp2
        go_ret
        exact ⟨_, rfl, by rw [hf.out]; simp, rfl⟩
      · have hf := hide (show decide (x ∈ zs.drop (k + 1)) = res by
          rw [← hres.out, hd.out]
          simp [hxy])
        clear hd hres
        go_wp2
        go_round
        case rel => exact ⟨k + 1, by omega, by go_num, hf⟩
        case measure => simp [intOf]; omega
    · obtain rfl : k = zs.length := by omega
      have hf := hide (show res = false by rw [← hres.out, List.drop_length]; simp)
      clear hz
      go_wp2
      go_ret
      exact ⟨_, rfl, by rw [hf.out]; rfl, rfl⟩
set_option maxHeartbeats 800000 in
theorem cContainsInts (a : Option Addr) (cap : Nat) (zs : List Int) (x : Int) (w : World) (hz : Ints w a zs) (hl : zs.length ≤ 1048576) :
    Calls Try.prog 65 #[.slice a zs.length cap, .int .i64 x] w fun e w' => e = .returned (.bool (decide (x ∈ zs))) ∧ w' = w := by
  go_enter Try.func65, Try.ntmps65
  go_wp2_with fail
  refine (cIndexInts a cap zs x _ hz hl).mono ?_
  rintro e w1 ⟨r, rfl, hr, hw⟩
  subst w1
  replace hr := hide hr
  go_wp2
  go_ret
  exact ⟨ret_bool hr.out, rfl⟩

theorem need_hp : Try.prog.stoodInHeld 74 = false := by kernel_rfl
theorem need_eq (a b c d : Int) (w : World) : (binOp .eql 74 (.agg #[.int .i64 a, .int .i64 b]) (.agg #[.int .i64 c, .int .i64 d])).run Try.prog w = .ok (.bool (decide ((⟨a, b⟩ : NeedV) = ⟨c, d⟩))) w := by
  rw [run_eql_struct, run_equalIn_agg w 9999 74 _ _ (by simp [Program.fieldsOf, Try.underlying74]) need_hp]
  simp [go_sem, Try.underlying74]
  by_cases h1 : a = c
  · by_cases h2 : b = d
    · subst h1 h2; simp
    · subst h1; simp [h2]
  · simp [h1]

set_option maxHeartbeats 800000 in
theorem cIndexNeeds (a : Option Addr) (cap : Nat) (es : List NeedV) (x : NeedV) (w : World) (hz : Needs w a es) (hl : es.length ≤ 1048576) :
    Calls Try.prog 71 #[.slice a es.length cap, x.val] w fun e w' => ∃ r : Int, e = .returned (.int .i64 r) ∧ decide (0 ≤ r) = decide (x ∈ es) ∧ Below w.heap.size w w' := by
  generalize hr : decide (x ∈ es) = res
  have hr0 : Hid (decide (x ∈ es.drop 0) = res) := hr
  clear hr
  obtain ⟨x0, x1⟩ := x
  unfold NeedV.val
  dsimp only
  have hb0 := balloc w (.cells #[.int .i64 x0, .int .i64 x1] 74)
  have hk0 : (w.alloc (.cells #[.int .i64 x0, .int .i64 x1] 74)).heap[w.heap.size]? = some (.cells #[.int .i64 x0, .int .i64 x1] 74 (0, 0)) := by
    show (w.heap.push _)[w.heap.size]? = _
    simp
  go_enter Try.func71, Try.ntmps71
  go_wp2
  go_loopw [8] (fun i wr => ∃ k : Nat, k ≤ es.length ∧ i = .int .i64 k ∧ Hid (decide (⟨x0, x1⟩ ∈ es.drop k) = res) ∧ Below w.heap.size w wr ∧ wr.heap[w.heap.size]? = some (.cells #[.int .i64 x0, .int .i64 x1] 74 (0, 0))) (fun i _ => es.length - (intOf i).toNat)
  case atStart => exact ⟨0, Nat.zero_le _, rfl, hr0, hb0, hk0⟩
  case round =>
    obtain ⟨k, hk, rfl, hres, hb, hk1⟩ := hrel
    clear hr0 hb0 hk0
    by_cases hlt : k < es.length
    · rcases hz with h | ⟨b, off, rfl, hc⟩
      · simp [h] at hlt
      obtain ⟨q0, q1⟩ := hc k hlt
      replace q0 := ble hb q0
      replace q1 := ble hb q1
      have e0 : es.getD k NeedV.zero = es[k] := by simp [List.getD, hlt]
      rw [e0] at q0 q1
      have hd := hide (List.drop_eq_getElem_cons hlt)
      generalize es[k] = y at *
      obtain ⟨y0, y1⟩ := y
      dsimp only at *
      obtain ⟨⟨g0, g1⟩, -⟩ := blk2 hk1
      have heq := need_eq x0 x1 y0 y1
      clear hc e0
      cases hxy : decide ((⟨x0, x1⟩ : NeedV) = ⟨y0, y1⟩)
      · rw [hxy] at heq
        have hf := hide (show decide ((⟨x0, x1⟩ : NeedV) ∈ es.drop (k + 1)) = res by
          rw [← hres.out, hd.out]
          simp only [decide_eq_false_iff_not] at hxy
          simp only [List.mem_cons, hxy, false_or])
        clear hd hres hxy
        go_wp2
        go_quiet (fail)
        go_wp2
        go_roundw
        case rel => exact ⟨k + 1, by omega, by go_num, hf, bdraw hb _, hk1⟩
        case measure => simp [intOf]; omega
      · rw [hxy] at heq
        have hf := hide (show res = true by
          rw [← hres.out, hd.out]
          simp only [decide_eq_true_eq] at hxy
          simp only [List.mem_cons, hxy, true_or, decide_true])
        clear hd hres hxy
        go_wp2
        go_quiet (fail)
        go_wp2
        go_ret
        exact ⟨_, rfl, by rw [hf.out]; simp, bdraw hb _⟩
    · obtain rfl : k = es.length := by omega
      have hf := hide (show res = false by rw [← hres.out, List.drop_length]; simp)
      clear hz
      go_wp2
      go_ret
      exact ⟨_, rfl, by rw [hf.out]; rfl, hb⟩
set_option maxHeartbeats 800000 in
theorem cContainsNeeds (a : Option Addr) (cap : Nat) (es : List NeedV) (x : NeedV) (w : World) (hz : Needs w a es) (hl : es.length ≤ 1048576) :
    Calls Try.prog 66 #[.slice a es.length cap, x.val] w fun e w' => e = .returned (.bool (decide (x ∈ es))) ∧ Below w.heap.size w w' := by
  have CI := fun w hz => cIndexNeeds a cap es x w hz hl
  generalize decide (x ∈ es) = res at *
  obtain ⟨x0, x1⟩ := x
  unfold NeedV.val at *
  dsimp only at *
  have hb0 := balloc w (.cells #[.int .i64 x0, .int .i64 x1] 74)
  go_enter Try.func66, Try.ntmps66
  go_wp2_with fail
  refine (CI _ (hz.below hb0)).mono ?_
  rintro e w1 ⟨r, rfl, hr, hb⟩
  replace hr := hide hr
  replace hb := btrans hb0 hb
  clear hb0
  go_wp2
  go_ret
  exact ⟨ret_bool hr.out, hb⟩

theorem any_drop {α : Type} {P : α → Bool} {zs : List α} {k : Nat} (hk : k < zs.length) : (zs.drop k).any P = (P zs[k] || (zs.drop (k + 1)).any P) := by
  rw [List.drop_eq_getElem_cons hk]; rfl
def routeVal (a : Option Addr) (ca : Nat) (b : Option Addr) (cb : Nat) (r : RouteV) : Value := .agg #[.slice a r.needs.length ca, .slice b r.blocks.length cb]
/-- No list of a route is longer than the law's own measure. -/
def RSmall (r : RouteV) : Prop := r.needs.length ≤ 1048576 ∧ r.blocks.length ≤ 1048576

set_option maxHeartbeats 1600000 in
theorem cShare (a1 b1 a2 b2 : Option Addr) (p1 q1 p2 q2 : Nat) (r s : RouteV) (w : World) (h1 : Ints w b1 r.blocks) (h2 : Ints w b2 s.blocks) (hr : RSmall r) (hs : RSmall s) :
    Calls Try.prog 56 #[routeVal a1 p1 b1 q1 r, routeVal a2 p2 b2 q2 s] w fun e w' => e = .returned (.bool (share r s)) ∧ Below w.heap.size w w' := by
  generalize hres : share r s = res
  obtain ⟨es, bs⟩ := r
  obtain ⟨fs, cs⟩ := s
  have hr0 : Hid ((bs.drop 0).any (fun x => decide (x ∈ cs)) = res) := hres
  clear hres
  obtain ⟨l1, l2⟩ := hr
  obtain ⟨l3, l4⟩ := hs
  unfold routeVal
  dsimp only at *
  have hb0 := btrans (balloc w (.cells #[.slice a1 es.length p1, .slice b1 bs.length q1] 48)) (balloc _ (.cells #[.slice a2 fs.length p2, .slice b2 cs.length q2] 48))
  have j0 : ((w.alloc (.cells #[.slice a1 es.length p1, .slice b1 bs.length q1] 48)).alloc (.cells #[.slice a2 fs.length p2, .slice b2 cs.length q2] 48)).heap[w.heap.size + 1]? = some (.cells #[.slice a2 fs.length p2, .slice b2 cs.length q2] 48 (0, 0)) := two_blocks2 _ _ _
  go_enter Try.func56, Try.ntmps56
  go_wp2
  go_loopw [10] (fun i wr => ∃ k : Nat, k ≤ bs.length ∧ i = .int .i64 k ∧ Hid ((bs.drop k).any (fun x => decide (x ∈ cs)) = res) ∧ Below w.heap.size w wr ∧ wr.heap[w.heap.size + 1]? = some (.cells #[.slice a2 fs.length p2, .slice b2 cs.length q2] 48 (0, 0))) (fun i _ => bs.length - (intOf i).toNat)
  case atStart => exact ⟨0, Nat.zero_le _, rfl, hr0, hb0, j0⟩
  case round =>
    obtain ⟨k, hk, rfl, hres, hb, hj⟩ := hrel
    clear hr0 hb0 j0
    obtain ⟨⟨g0, g1⟩, -⟩ := blk2 hj
    by_cases hlt : k < bs.length
    · rcases h1 with h | ⟨nb, off, rfl, hc⟩
      · simp [h] at hlt
      have q0 := ble hb (hc k hlt)
      have e0 : bs.getD k 0 = bs[k] := by simp [List.getD, hlt]
      rw [e0] at q0
      have hd := hide (any_drop (P := fun x => decide (x ∈ cs)) hlt)
      generalize bs[k] = y at *
      clear hc e0
      go_wp2_with fail
      refine (cContainsInts b2 q2 cs y _ (h2.below hb) l4).mono ?_
      rintro e w1 ⟨rfl, hw⟩
      subst w1
      cases hy : decide (y ∈ cs)
      · have hf := hide (show (bs.drop (k + 1)).any (fun x => decide (x ∈ cs)) = res by rw [← hres.out, hd.out, hy]; rfl)
        clear hd hres hy
        go_wp2
        go_roundw
        case rel => exact ⟨k + 1, by omega, by go_num, hf, hb, hj⟩
        case measure => simp [intOf]; omega
      · have hf := hide (show res = true by rw [← hres.out, hd.out, hy]; rfl)
        clear hd hres hy
        go_wp2
        go_ret
        exact ⟨ret_bool hf.out.symm, hb⟩
    · obtain rfl : k = bs.length := by omega
      have hf := hide (show res = false by rw [← hres.out, List.drop_length]; rfl)
      clear h1 h2
      go_wp2
      go_ret
      exact ⟨ret_bool hf.out.symm, hb⟩

set_option maxHeartbeats 1600000 in
theorem cPull (a1 b1 a2 b2 : Option Addr) (p1 q1 p2 q2 : Nat) (r s : RouteV) (w : World) (h1 : Needs w a1 r.needs) (h2 : Needs w a2 s.needs) (hr : RSmall r) (hs : RSmall s) (hbit : Bits r) :
    Calls Try.prog 57 #[routeVal a1 p1 b1 q1 r, routeVal a2 p2 b2 q2 s] w fun e w' => e = .returned (.bool (apartI r s)) ∧ Below w.heap.size w w' := by
  generalize hres : apartI r s = res
  obtain ⟨es, bs⟩ := r
  obtain ⟨fs, cs⟩ := s
  have hr0 : Hid ((es.drop 0).any (fun n => decide ((⟨n.point, 1 - n.pos⟩ : NeedV) ∈ fs)) = res) := hres
  clear hres
  obtain ⟨l1, l2⟩ := hr
  obtain ⟨l3, l4⟩ := hs
  unfold routeVal
  dsimp only at *
  have hb0 := btrans (balloc w (.cells #[.slice a1 es.length p1, .slice b1 bs.length q1] 48)) (balloc _ (.cells #[.slice a2 fs.length p2, .slice b2 cs.length q2] 48))
  have j0 : ((w.alloc (.cells #[.slice a1 es.length p1, .slice b1 bs.length q1] 48)).alloc (.cells #[.slice a2 fs.length p2, .slice b2 cs.length q2] 48)).heap[w.heap.size + 1]? = some (.cells #[.slice a2 fs.length p2, .slice b2 cs.length q2] 48 (0, 0)) := two_blocks2 _ _ _
  go_enter Try.func57, Try.ntmps57
  go_wp2
  go_loopw [10] (fun i wr => ∃ k : Nat, k ≤ es.length ∧ i = .int .i64 k ∧ Hid ((es.drop k).any (fun n => decide ((⟨n.point, 1 - n.pos⟩ : NeedV) ∈ fs)) = res) ∧ Below w.heap.size w wr ∧ wr.heap[w.heap.size + 1]? = some (.cells #[.slice a2 fs.length p2, .slice b2 cs.length q2] 48 (0, 0))) (fun i _ => es.length - (intOf i).toNat)
  case atStart => exact ⟨0, Nat.zero_le _, rfl, hr0, hb0, j0⟩
  case round =>
    obtain ⟨k, hk, rfl, hres, hb, hj⟩ := hrel
    clear hr0 hb0 j0
    by_cases hlt : k < es.length
    · rcases h1 with h | ⟨nb, off, rfl, hc⟩
      · simp [h] at hlt
      obtain ⟨q0, q1⟩ := hc k hlt
      replace q0 := ble hb q0
      replace q1 := ble hb q1
      have e0 : es.getD k NeedV.zero = es[k] := by simp [List.getD, hlt]
      rw [e0] at q0 q1
      have hd := hide (any_drop (P := fun n => decide ((⟨n.point, 1 - n.pos⟩ : NeedV) ∈ fs)) hlt)
      have hbk := hbit es[k] (List.getElem_mem hlt)
      generalize es[k] = E at *
      obtain ⟨pt, ps⟩ := E
      dsimp only at *
      have hba := balloc wr (.cells #[.int .i64 pt, .int .i64 ps] 74)
      replace hj := blk_keep hba hj
      replace hb := btrans hb hba
      obtain ⟨⟨g0, g1⟩, -⟩ := blk2 hj
      have hwp : IntKind.i64.wrap (1 - ps) = 1 - ps := wrap_in _ (by omega) (by omega)
      have CC := fun w1 hz => cContainsNeeds a2 p2 fs ⟨pt, 1 - ps⟩ w1 hz l3
      unfold NeedV.val at CC
      dsimp only at CC
      clear hc e0 hba
      go_wp2_with fail
      refine (CC _ (h2.below hb)).mono ?_
      rintro e w1 ⟨rfl, hb1⟩
      replace hj := blk_keep hb1 hj
      replace hb := btrans hb hb1
      clear hb1 g0 g1 q0 q1
      cases hy : decide ((⟨pt, 1 - ps⟩ : NeedV) ∈ fs)
      · have hf := hide (show (es.drop (k + 1)).any (fun n => decide ((⟨n.point, 1 - n.pos⟩ : NeedV) ∈ fs)) = res by rw [← hres.out, hd.out, hy]; rfl)
        clear hd hres hy
        go_wp2
        go_roundw
        case rel => exact ⟨k + 1, by omega, by go_num, hf, hb, hj⟩
        case measure => simp [intOf]; omega
      · have hf := hide (show res = true by rw [← hres.out, hd.out, hy]; rfl)
        clear hd hres hy
        go_wp2
        go_ret
        exact ⟨ret_bool hf.out.symm, hb⟩
    · obtain rfl : k = es.length := by omega
      have hf := hide (show res = false by rw [← hres.out, List.drop_length]; rfl)
      clear h1 h2
      go_wp2
      go_ret
      exact ⟨ret_bool hf.out.symm, hb⟩

set_option maxHeartbeats 1600000 in
theorem cClash (a1 b1 a2 b2 : Option Addr) (p1 q1 p2 q2 : Nat) (r s : RouteV) (w : World) (n1 : Needs w a1 r.needs) (i1 : Ints w b1 r.blocks) (n2 : Needs w a2 s.needs) (i2 : Ints w b2 s.blocks) (hr : RSmall r) (hs : RSmall s) (hbit : Bits r) (hbit2 : Bits s) :
    Calls Try.prog 37 #[routeVal a1 p1 b1 q1 r, routeVal a2 p2 b2 q2 s] w fun e w' => e = .returned (.bool (clash r s)) ∧ Below w.heap.size w w' := by
  have CS := fun w h1 h2 => cShare a1 b1 a2 b2 p1 q1 p2 q2 r s w h1 h2 hr hs
  have CP := fun w h1 h2 => cPull a1 b1 a2 b2 p1 q1 p2 q2 r s w h1 h2 hr hs hbit
  rw [apartI_eq hbit hbit2] at CP
  have hcl : Hid (clash r s = (share r s || apart r s)) := rfl
  generalize share r s = x at *
  generalize apart r s = y at *
  generalize clash r s = z at *
  unfold routeVal at *
  have hb0 := btrans (balloc w (.cells #[.slice a1 r.needs.length p1, .slice b1 r.blocks.length q1] 48)) (balloc _ (.cells #[.slice a2 s.needs.length p2, .slice b2 s.blocks.length q2] 48))
  have k0 : ((w.alloc (.cells #[.slice a1 r.needs.length p1, .slice b1 r.blocks.length q1] 48)).alloc (.cells #[.slice a2 s.needs.length p2, .slice b2 s.blocks.length q2] 48)).heap[w.heap.size]? = some (.cells #[.slice a1 r.needs.length p1, .slice b1 r.blocks.length q1] 48 (0, 0)) := two_blocks1 _ _ _
  have j0 : ((w.alloc (.cells #[.slice a1 r.needs.length p1, .slice b1 r.blocks.length q1] 48)).alloc (.cells #[.slice a2 s.needs.length p2, .slice b2 s.blocks.length q2] 48)).heap[w.heap.size + 1]? = some (.cells #[.slice a2 s.needs.length p2, .slice b2 s.blocks.length q2] 48 (0, 0)) := two_blocks2 _ _ _
  go_enter Try.func37, Try.ntmps37
  go_wp2_with fail
  refine (CS _ (i1.below hb0) (i2.below hb0)).mono ?_
  rintro e w1 ⟨rfl, hb⟩
  replace k0 := blk_keep hb k0
  replace j0 := blk_keep hb j0
  replace hb0 := btrans hb0 hb
  obtain ⟨⟨g0, g1⟩, -⟩ := blk2 k0
  obtain ⟨⟨g2, g3⟩, -⟩ := blk2 j0
  clear hb
  cases x
  · go_wp2_with fail
    refine (CP _ (n1.below hb0) (n2.below hb0)).mono ?_
    rintro e w1 ⟨rfl, hb⟩
    replace hb0 := btrans hb0 hb
    clear hb k0 j0 g0 g1 g2 g3
    go_wp2
    go_ret
    exact ⟨ret_bool (by rw [hcl.out]; rfl), hb0⟩
  · go_wp2
    go_ret
    exact ⟨ret_bool (by rw [hcl.out]; rfl), hb0⟩
end Go.Proofs.Ytpgjllefhlanpaa
