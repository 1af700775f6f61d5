/- Right tasks, turns, and who follows, of program and model. -/
import Derived.Test.YtdmdoknkkfhheaaMA
import Derived.Test.YtdmdoknkkfhheaaB
import Derived.Deep.RegionHeld3
namespace Go.Proofs.Ytdmdoknkkfhheaa
open Go.RowKit

theorem all_drop {α : Type} {P : α → Bool} {zs : List α} {k : Nat} (hk : k < zs.length) : (zs.drop k).all P = (P zs[k] && (zs.drop (k + 1)).all P) := by
  rw [List.drop_eq_getElem_cons hk, List.all_cons]
theorem blk_keep {w w1 : World} (h : Below w.heap.size w w1) {g : Nat} {o : Obj} (hg : w.heap[g]? = some o) : w1.heap[g]? = some o := (h.block g (lt_of_block hg)).trans hg
theorem one_block (w : World) (o : Obj) : (w.alloc o).heap[w.heap.size]? = some o := by
  show (w.heap.push o)[w.heap.size]? = _
  rw [Array.getElem?_push, if_pos rfl]
theorem same_below {P : Program} {f : FuncId} {args : Array Value} {w : World} {v : Ending} (h : Calls P f args w fun e w' => e = v ∧ w' = w) : Calls P f args w fun e w' => e = v ∧ Below w.heap.size w w' :=
  h.mono (fun e w' g => ⟨g.1, by rw [g.2]; exact Below.refl _ _⟩)
/-- A task in a block of its own. -/
def Bx5 (w : World) (b : Nat) (x : TaskV) : Prop := w.cell? ⟨b, 0, none⟩ = some (.int .i64 x.e) ∧ w.cell? ⟨b, 1, none⟩ = some (.int .i64 x.d) ∧ w.cell? ⟨b, 2, none⟩ = some (.int .i64 x.f) ∧ w.cell? ⟨b, 3, none⟩ = some (.int .i64 x.t) ∧ w.cell? ⟨b, 4, none⟩ = some (.int .i64 x.p)
theorem Bx5.below {w w1 : World} {b : Nat} {x : TaskV} (h : Bx5 w b x) (hb : Below w.heap.size w w1) : Bx5 w1 b x := ⟨ble hb h.1, ble hb h.2.1, ble hb h.2.2.1, ble hb h.2.2.2.1, ble hb h.2.2.2.2⟩
theorem Bx5.new (w : World) (x : TaskV) (t : TypeId) : Bx5 (w.alloc (.cells x.vs.toArray t)) w.heap.size x := ⟨by simp [TaskV.vs], by simp [TaskV.vs], by simp [TaskV.vs], by simp [TaskV.vs], by simp [TaskV.vs]⟩
theorem Bx5.parts {w : World} {b : Nat} {x : TaskV} (h : Bx5 w b x) : w.cell? ⟨b, 0, none⟩ = some (.int .i64 x.e) ∧ w.cell? ⟨b, 1, none⟩ = some (.int .i64 x.d) ∧ w.cell? ⟨b, 2, none⟩ = some (.int .i64 x.f) ∧ w.cell? ⟨b, 3, none⟩ = some (.int .i64 x.t) ∧ w.cell? ⟨b, 4, none⟩ = some (.int .i64 x.p) := h
theorem Bx5.new1 (w : World) (o : Obj) (x : TaskV) (t : TypeId) : Bx5 ((w.alloc o).alloc (.cells x.vs.toArray t)) (w.heap.size + 1) x := by
  have h := Bx5.new (w.alloc o) x t
  rwa [sz1] at h

set_option maxHeartbeats 400000 in
theorem cTurnI (x : Int) (w : World) : Calls Try.prog 71 #[.int .i64 x] w fun e w' => e = .returned (.bool (turnB x)) ∧ w' = w := by
  go_enter Try.func71, Try.ntmps71
  go_wp2_with fail
  refine (cWithin x 0 120 _).mono ?_
  rintro e w1 ⟨rfl, hw⟩
  subst w1
  go_wp2
  go_ret
  exact ⟨rfl, rfl⟩

theorem taskS (e d f t p : Int) : taskB ⟨e, d, f, t, p⟩ = (inB e 0 29 && (inB d 0 29 && (inB t 0 100000 && (inB f 0 (t - 1) && inB p 0 2000)))) := by
  rw [Bool.eq_iff_iff, taskB_iff]
  simp only [inB, Bool.and_eq_true, decide_eq_true_eq]; omega
set_option maxHeartbeats 1600000 in
theorem cTaskI (s : TaskV) (w : World) : Calls Try.prog 66 #[s.val] w fun e w' => e = .returned (.bool (taskB s)) ∧ Below w.heap.size w w' := by
  obtain ⟨e, d, f, t, p⟩ := s
  unfold TaskV.val
  have hW := balloc w (.cells #[.int .i64 e, .int .i64 d, .int .i64 f, .int .i64 t, .int .i64 p] 37)
  have E := hide (show taskB ⟨e, d, f, t, p⟩ = (inB e 0 29 && (inB d 0 29 && (decide (0 ≤ f) && (decide (f < t) && (decide (t ≤ 100000) && inB p 0 2000))))) from rfl)
  cases g0 : inB e 0 29
  · have R := hide (show taskB ⟨e, d, f, t, p⟩ = false by rw [E.out]; simp [g0])
    clear E
    go_enter Try.func66, Try.ntmps66
    go_wp2_with (go_at_call 49; refine (cWithin _ _ _ _).mono ?_; rintro e w' ⟨rfl, rfl⟩)
    go_ret
    exact ⟨ret_bool R.out.symm, hW⟩
  cases g1 : inB d 0 29
  · have R := hide (show taskB ⟨e, d, f, t, p⟩ = false by rw [E.out]; simp [g0, g1])
    clear E
    go_enter Try.func66, Try.ntmps66
    go_wp2_with (go_at_call 49; refine (cWithin _ _ _ _).mono ?_; rintro e w' ⟨rfl, rfl⟩)
    go_ret
    exact ⟨ret_bool R.out.symm, hW⟩
  by_cases g2 : 0 ≤ f
  rotate_left
  · have R := hide (show taskB ⟨e, d, f, t, p⟩ = false by rw [E.out]; simp [g0, g1, g2])
    clear E
    go_enter Try.func66, Try.ntmps66
    go_wp2_with (go_at_call 49; refine (cWithin _ _ _ _).mono ?_; rintro e w' ⟨rfl, rfl⟩)
    go_ret
    exact ⟨ret_bool R.out.symm, hW⟩
  by_cases g3 : f < t
  rotate_left
  · have R := hide (show taskB ⟨e, d, f, t, p⟩ = false by rw [E.out]; simp [g0, g1, g2, g3])
    clear E
    go_enter Try.func66, Try.ntmps66
    go_wp2_with (go_at_call 49; refine (cWithin _ _ _ _).mono ?_; rintro e w' ⟨rfl, rfl⟩)
    go_ret
    exact ⟨ret_bool R.out.symm, hW⟩
  by_cases g4 : t ≤ 100000
  rotate_left
  · have R := hide (show taskB ⟨e, d, f, t, p⟩ = false by rw [E.out]; simp [g0, g1, g2, g3, g4])
    clear E
    go_enter Try.func66, Try.ntmps66
    go_wp2_with (go_at_call 49; refine (cWithin _ _ _ _).mono ?_; rintro e w' ⟨rfl, rfl⟩)
    go_ret
    exact ⟨ret_bool R.out.symm, hW⟩
  cases g5 : inB p 0 2000
  · have R := hide (show taskB ⟨e, d, f, t, p⟩ = false by rw [E.out]; simp [g0, g1, g2, g3, g4, g5])
    clear E
    go_enter Try.func66, Try.ntmps66
    go_wp2_with (go_at_call 49; refine (cWithin _ _ _ _).mono ?_; rintro e w' ⟨rfl, rfl⟩)
    go_ret
    exact ⟨ret_bool R.out.symm, hW⟩
  · have R := hide (show taskB ⟨e, d, f, t, p⟩ = true by rw [E.out]; simp [g0, g1, g2, g3, g4, g5])
    clear E
    go_enter Try.func66, Try.ntmps66
    go_wp2_with (go_at_call 49; refine (cWithin _ _ _ _).mono ?_; rintro e w' ⟨rfl, rfl⟩)
    go_ret
    exact ⟨ret_bool R.out.symm, hW⟩

set_option maxHeartbeats 1600000 in
theorem cTaskS (s : TaskV) (w : World) : Calls Try.prog 69 #[s.val] w fun e w' => e = .returned (.bool (taskB s)) ∧ Below w.heap.size w w' := by
  obtain ⟨e, d, f, t, p⟩ := s
  unfold TaskV.val
  have hW := balloc w (.cells #[.int .i64 e, .int .i64 d, .int .i64 f, .int .i64 t, .int .i64 p] 37)
  have E := hide (taskS e d f t p)
  cases g0 : inB e 0 29
  · have R := hide (show taskB ⟨e, d, f, t, p⟩ = false by rw [E.out]; simp [g0])
    clear E
    go_enter Try.func69, Try.ntmps69
    go_wp2_with (go_at_call 48; refine (cIn _ _ _ _).mono ?_; rintro e w' ⟨rfl, rfl⟩)
    go_ret
    exact ⟨ret_bool R.out.symm, hW⟩
  cases g1 : inB d 0 29
  · have R := hide (show taskB ⟨e, d, f, t, p⟩ = false by rw [E.out]; simp [g0, g1])
    clear E
    go_enter Try.func69, Try.ntmps69
    go_wp2_with (go_at_call 48; refine (cIn _ _ _ _).mono ?_; rintro e w' ⟨rfl, rfl⟩)
    go_ret
    exact ⟨ret_bool R.out.symm, hW⟩
  cases g2 : inB t 0 100000
  · have R := hide (show taskB ⟨e, d, f, t, p⟩ = false by rw [E.out]; simp [g0, g1, g2])
    clear E
    go_enter Try.func69, Try.ntmps69
    go_wp2_with (go_at_call 48; refine (cIn _ _ _ _).mono ?_; rintro e w' ⟨rfl, rfl⟩)
    go_ret
    exact ⟨ret_bool R.out.symm, hW⟩
  have x2 := inB_true g2
  cases g3 : inB f 0 (t - 1)
  · have R := hide (show taskB ⟨e, d, f, t, p⟩ = false by rw [E.out]; simp [g0, g1, g2, g3])
    clear E
    go_enter Try.func69, Try.ntmps69
    go_wp2_with (go_at_call 48; refine (cIn _ _ _ _).mono ?_; rintro e w' ⟨rfl, rfl⟩)
    go_ret
    exact ⟨ret_bool R.out.symm, hW⟩
  cases g4 : inB p 0 2000
  · have R := hide (show taskB ⟨e, d, f, t, p⟩ = false by rw [E.out]; simp [g0, g1, g2, g3, g4])
    clear E
    go_enter Try.func69, Try.ntmps69
    go_wp2_with (go_at_call 48; refine (cIn _ _ _ _).mono ?_; rintro e w' ⟨rfl, rfl⟩)
    go_ret
    exact ⟨ret_bool R.out.symm, hW⟩
  · have R := hide (show taskB ⟨e, d, f, t, p⟩ = true by rw [E.out]; simp [g0, g1, g2, g3, g4])
    clear E
    go_enter Try.func69, Try.ntmps69
    go_wp2_with (go_at_call 48; refine (cIn _ _ _ _).mono ?_; rintro e w' ⟨rfl, rfl⟩)
    go_ret
    exact ⟨ret_bool R.out.symm, hW⟩

set_option maxHeartbeats 800000 in
theorem cAllTasks (a : Option Addr) (cap : Nat) (cs : List TaskV) (w : World) (hz : Tasks w a cs) (hl : cs.length ≤ 1048576) :
    Calls Try.prog 65 #[.slice a cs.length cap, .func (.func 66) #[] #[]] w fun e w' => e = .returned (.bool (cs.all taskB)) ∧ Below w.heap.size w w' := by
  generalize hr : cs.all taskB = res
  have hr0 : Hid ((cs.drop 0).all taskB = res) := hr
  clear hr
  go_enter Try.func65, Try.ntmps65
  go_wp2
  go_loopw [9] (fun i wr => ∃ k : Nat, k ≤ cs.length ∧ i = .int .i64 k ∧ Hid ((cs.drop k).all taskB = res) ∧ Below w.heap.size w wr) (fun i _ => cs.length - (intOf i).toNat)
  case atStart => exact ⟨0, Nat.zero_le _, rfl, hr0, Below.refl _ _⟩
  case round =>
    obtain ⟨k, hk, rfl, hres, hb⟩ := hrel
    clear hr0
    by_cases hlt : k < cs.length
    · rcases hz with h | ⟨b, off, rfl, hc⟩
      · simp [h] at hlt
      obtain ⟨q0, q1, q2, q3, q4⟩ := hc k hlt
      replace q0 := ble hb q0
      replace q1 := ble hb q1
      replace q2 := ble hb q2
      replace q3 := ble hb q3
      replace q4 := ble hb q4
      have e0 : cs.getD k TaskV.zero = cs[k] := by simp [List.getD, hlt]
      rw [e0] at q0 q1 q2 q3 q4
      have hd := hide ((all_drop (P := taskB) hlt).symm.trans hres.out)
      generalize cs[k] = y at *
      clear hc e0 hres
      have hcon := cTaskI y
      obtain ⟨e, d, f, t, p⟩ := y
      unfold TaskV.val at hcon
      dsimp only at *
      have hb1 := btrans hb (balloc wr (.cells #[.int .i64 e, .int .i64 d, .int .i64 f, .int .i64 t, .int .i64 p] 37))
      go_wp2_with fail
      refine (hcon _).mono ?_
      rintro e w1 ⟨rfl, hw⟩
      have hb2 := btrans hb1 hw
      clear hw hb1 hcon
      cases hy : taskB _
      · have hf := hide (show res = false by rw [← hd.out, hy]; rfl)
        clear hd hy
        go_wp2
        go_ret
        exact ⟨ret_bool hf.out.symm, hb2⟩
      · have hf := hide (show (cs.drop (k + 1)).all taskB = res by rw [← hd.out, hy]; rfl)
        clear hd hy
        go_wp2
        go_roundw
        case rel => exact ⟨k + 1, by omega, by go_num, hf, hb2⟩
        case measure => simp [intOf]; omega
    · obtain rfl : k = cs.length := by omega
      have hf := hide (show res = true by rw [← hres.out, List.drop_length]; rfl)
      clear hz hres
      go_wp2
      go_ret
      exact ⟨ret_bool hf.out.symm, hb⟩

set_option maxHeartbeats 800000 in
theorem cTasksI (a : Option Addr) (cap : Nat) (cs : List TaskV) (w : World) (hz : Tasks w a cs) (hl : cs.length ≤ 1048576) :
    Calls Try.prog 55 #[.slice a cs.length cap] w fun e w' => e = .returned (.bool (tasksB cs)) ∧ Below w.heap.size w w' := by
  have E : Hid (tasksB cs = (decide (cs.length ≤ 40) && cs.all taskB)) := rfl
  by_cases h1 : cs.length ≤ 40
  · have hf := hide (show tasksB cs = cs.all taskB by rw [E.out]; simp [h1])
    have h1' : (cs.length : Int) ≤ 40 := by omega
    clear E
    go_enter Try.func55, Try.ntmps55
    go_wp2_with fail
    refine (cAllTasks a cap cs _ hz hl).mono ?_
    rintro e w1 ⟨rfl, hw⟩
    go_wp2
    go_ret
    exact ⟨ret_bool hf.out.symm, hw⟩
  · have hf := hide (show tasksB cs = false by rw [E.out]; simp [h1])
    have h1' : ¬ ((cs.length : Int) ≤ 40) := by omega
    clear E
    go_enter Try.func55, Try.ntmps55
    go_wp2
    go_ret
    exact ⟨ret_bool hf.out.symm, Below.refl _ _⟩

set_option maxHeartbeats 1600000 in
theorem cTasksS (a : Option Addr) (cap : Nat) (cs : List TaskV) (w : World) (hz : Tasks w a cs) (hl : cs.length ≤ 1048576) :
    Calls Try.prog 58 #[.slice a cs.length cap] w fun e w' => e = .returned (.bool (tasksB cs)) ∧ Below w.heap.size w w' := by
  have hr : tasksB cs = (cs.all taskB && decide (cs.length ≤ 40)) := by unfold tasksB; rw [Bool.and_comm]
  generalize tasksB cs = res at *
  have hr0 : Hid (((cs.drop 0).all taskB && decide (cs.length ≤ 40)) = res) := hr.symm
  clear hr
  go_enter Try.func58, Try.ntmps58
  go_wp2
  go_loopw [3] (fun i wr => ∃ k : Nat, k ≤ cs.length ∧ i = .int .i64 k ∧ Hid (((cs.drop k).all taskB && decide (cs.length ≤ 40)) = res) ∧ Below w.heap.size w wr) (fun i _ => cs.length - (intOf i).toNat)
  case atStart => exact ⟨0, Nat.zero_le _, rfl, hr0, Below.refl _ _⟩
  case round =>
    obtain ⟨k, hk, rfl, hres, hb⟩ := hrel
    clear hr0
    by_cases hlt : k < cs.length
    · rcases hz with h | ⟨b, off, rfl, hc⟩
      · simp [h] at hlt
      obtain ⟨q0, q1, q2, q3, q4⟩ := hc k hlt
      replace q0 := ble hb q0
      replace q1 := ble hb q1
      replace q2 := ble hb q2
      replace q3 := ble hb q3
      replace q4 := ble hb q4
      have e0 : cs.getD k TaskV.zero = cs[k] := by simp [List.getD, hlt]
      rw [e0] at q0 q1 q2 q3 q4
      have hd : Hid ((taskB cs[k] && (cs.drop (k + 1)).all taskB && decide (cs.length ≤ 40)) = res) := by rw [← hres.out, all_drop (P := taskB) hlt]; exact hide rfl
      generalize cs[k] = y at *
      clear hc e0 hres
      have hcon := cTaskS y
      obtain ⟨e, d, f, t, p⟩ := y
      unfold TaskV.val at hcon
      dsimp only at *
      go_wp2_with fail
      refine (hcon _).mono ?_
      rintro e w1 ⟨rfl, hw⟩
      have hb2 := btrans hb hw
      clear hw hcon
      cases hy : taskB _
      · have hf := hide (show res = false by rw [← hd.out, hy]; rfl)
        clear hd hy
        go_wp2
        go_ret
        exact ⟨ret_bool hf.out.symm, hb2⟩
      · have hf := hide (show ((cs.drop (k + 1)).all taskB && decide (cs.length ≤ 40)) = res by rw [← hd.out, hy]; rfl)
        clear hd hy
        go_wp2
        go_roundw
        case rel => exact ⟨k + 1, by omega, by go_num, hf, hb2⟩
        case measure => simp [intOf]; omega
    · obtain rfl : k = cs.length := by omega
      have hf := hide (show decide (cs.length ≤ 40) = res by rw [← hres.out, List.drop_length]; rfl)
      clear hz hres
      go_wp2
      go_ret
      exact ⟨ret_bool (by rw [← hf.out]; simp; omega), hb⟩

set_option maxHeartbeats 3200000 in
theorem cFolI (x y : TaskV) (n : Int) (w : World) : Calls Try.prog 70 #[x.val, y.val, .int .i64 n] w fun e w' => e = .returned (.bool (folB x y n)) ∧ Below w.heap.size w w' := by
  have E : Hid (folB x y n = (taskB x && (taskB y && (turnB n && (decide (x.d = y.e) && decide (x.t + n ≤ y.f)))))) := rfl
  have hb1 := btrans (balloc w (.cells x.vs.toArray 37)) (balloc _ (.cells y.vs.toArray 37))
  have B0 := (Bx5.new w x 37).below (balloc _ (.cells y.vs.toArray 37))
  have B1 := Bx5.new1 w (.cells x.vs.toArray 37) y 37
  have CX := cTaskI x
  have CY := cTaskI y
  obtain ⟨xe, xd, xf, xt, xp⟩ := x
  obtain ⟨ye, yd, yf, yt, yp⟩ := y
  unfold TaskV.val TaskV.vs at *
  dsimp only at *
  go_enter Try.func70, Try.ntmps70
  obtain ⟨p0, p1, p2, p3, p4⟩ := B0.parts
  obtain ⟨q0, q1, q2, q3, q4⟩ := B1.parts
  dsimp only at p0 p1 p2 p3 p4 q0 q1 q2 q3 q4
  go_wp2_with fail
  refine (CX _).mono ?_
  rintro e w1 ⟨rfl, hw⟩
  replace hb1 := btrans hb1 hw
  replace B0 := B0.below hw
  replace B1 := B1.below hw
  clear p0 p1 p2 p3 p4 q0 q1 q2 q3 q4
  obtain ⟨p0, p1, p2, p3, p4⟩ := B0.parts
  obtain ⟨q0, q1, q2, q3, q4⟩ := B1.parts
  dsimp only at p0 p1 p2 p3 p4 q0 q1 q2 q3 q4
  clear hw CX
  cases g1 : taskB ⟨xe, xd, xf, xt, xp⟩
  · have R := hide (show folB ⟨xe, xd, xf, xt, xp⟩ ⟨ye, yd, yf, yt, yp⟩ n = false by rw [E.out, g1]; rfl)
    clear E
    go_wp2
    go_ret
    exact ⟨ret_bool R.out.symm, hb1⟩
  have k1 := taskB_iff.1 g1
  dsimp only at k1
  go_wp2_with fail
  refine (CY _).mono ?_
  rintro e w2 ⟨rfl, hw⟩
  replace hb1 := btrans hb1 hw
  replace B0 := B0.below hw
  replace B1 := B1.below hw
  clear p0 p1 p2 p3 p4 q0 q1 q2 q3 q4
  obtain ⟨p0, p1, p2, p3, p4⟩ := B0.parts
  obtain ⟨q0, q1, q2, q3, q4⟩ := B1.parts
  dsimp only at p0 p1 p2 p3 p4 q0 q1 q2 q3 q4
  clear hw CY
  cases g2 : taskB ⟨ye, yd, yf, yt, yp⟩
  · have R := hide (show folB ⟨xe, xd, xf, xt, xp⟩ ⟨ye, yd, yf, yt, yp⟩ n = false by rw [E.out, g1, g2]; rfl)
    clear E
    go_wp2
    go_ret
    exact ⟨ret_bool R.out.symm, hb1⟩
  go_wp2_with fail
  refine (cTurnI n _).mono ?_
  rintro e w3 ⟨rfl, hw⟩
  subst w3
  cases g3 : turnB n
  · have R := hide (show folB ⟨xe, xd, xf, xt, xp⟩ ⟨ye, yd, yf, yt, yp⟩ n = false by rw [E.out, g1, g2, g3]; rfl)
    clear E
    go_wp2
    go_ret
    exact ⟨ret_bool R.out.symm, hb1⟩
  have k3 := inB_true g3
  obtain ⟨-, -, -, -, -, -, k1t, -, -⟩ := k1
  have k1s : 0 ≤ xt := by have := taskB_iff.1 g1; dsimp only at this; omega
  by_cases g4 : xd = ye
  rotate_left
  · have R := hide (show folB ⟨xe, xd, xf, xt, xp⟩ ⟨ye, yd, yf, yt, yp⟩ n = false by rw [E.out]; simp [g4])
    clear E
    go_wp2
    go_ret
    exact ⟨ret_bool R.out.symm, hb1⟩
  subst g4
  have R := hide (show folB ⟨xe, xd, xf, xt, xp⟩ ⟨xd, yd, yf, yt, yp⟩ n = decide (xt + n ≤ yf) by rw [E.out, g1, g2, g3]; simp)
  clear E
  go_wp2
  go_ret
  exact ⟨ret_bool R.out.symm, hb1⟩

end Go.Proofs.Ytdmdoknkkfhheaa
