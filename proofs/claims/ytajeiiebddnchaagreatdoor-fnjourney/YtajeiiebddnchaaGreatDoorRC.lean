/- The question of a journey, of both; the model's soonest. -/
import Derived.Test.YtajeiiebddnchaaGreatDoorRB
import Derived.Test.YtajeiiebddnchaaGreatDoorZA
namespace Go.Proofs.YtajeiiebddnchaaGreatDoor
open Go.RowKit
/-- The question is one. -/
def AskP (ts : List TripV) (f to m ch h : Int) : Prop := Table ts ∧ inB f 0 29 = true ∧ inB to 0 29 = true ∧ inB m 0 100000 = true ∧ inB ch 0 60 = true ∧ inB h 0 5 = true
theorem AskP.parts {ts : List TripV} {f to m ch h : Int} (q : AskP ts f to m ch h) : Gd ts ∧ (0 ≤ f ∧ f ≤ 29) ∧ (0 ≤ to ∧ to ≤ 29) ∧ (0 ≤ m ∧ m ≤ 100000) ∧ (0 ≤ ch ∧ ch ≤ 60) ∧ (0 ≤ h ∧ h ≤ 5) :=
  ⟨table_gd q.1, inB_true q.2.1, inB_true q.2.2.1, inB_true q.2.2.2.1, inB_true q.2.2.2.2.1, inB_true q.2.2.2.2.2⟩
/-- What Soonest tells. -/
def SoonAns (ts : List TripV) (f to m ch h r : Int) : Prop := (¬ AskP ts f to m ch h ∧ r = -1) ∨ (AskP ts f to m ch h ∧ IsSoon ts ⟨f, m⟩ ch h.toNat to r)
theorem SoonAns.uniq {ts : List TripV} {f to m ch h r r' : Int} (a : SoonAns ts f to m ch h r) (b : SoonAns ts f to m ch h r') : r = r' := by
  rcases a with ⟨a1, a2⟩ | ⟨a1, a2⟩ <;> rcases b with ⟨b1, b2⟩ | ⟨b1, b2⟩
  · omega
  · exact absurd b1 a1
  · exact absurd a1 b1
  · exact IsMin.uniq a2 b2

set_option maxHeartbeats 400000 in
theorem cChangeS (x : Int) (w : World) : Calls Tryz.prog 29 #[.int .i64 x] w fun e w' => e = .returned (.bool (inB x 0 60)) ∧ w' = w := by
  go_enter Tryz.func29, Tryz.ntmps29
  go_wp2_with fail
  refine (cIn x 0 60 _).mono ?_
  rintro e w1 ⟨rfl, hw⟩
  subst w1
  go_wp2
  go_ret
  exact ⟨rfl, rfl⟩

set_option maxHeartbeats 400000 in
theorem cChangeI (x : Int) (w : World) : Calls Tryz.prog 22 #[.int .i64 x] w fun e w' => e = .returned (.bool (inB x 0 60)) ∧ w' = w := by
  go_enter Tryz.func22, Tryz.ntmps22
  go_wp2_with fail
  refine (cWithin x 0 60 _).mono ?_
  rintro e w1 ⟨rfl, hw⟩
  subst w1
  go_wp2
  go_ret
  exact ⟨rfl, rfl⟩

set_option maxHeartbeats 400000 in
theorem cMinuteI (x : Int) (w : World) : Calls Tryz.prog 52 #[.int .i64 x] w fun e w' => e = .returned (.bool (inB x 0 100000)) ∧ w' = w := by
  go_enter Tryz.func52, Tryz.ntmps52
  go_wp2_with fail
  refine (cWithin x 0 100000 _).mono ?_
  rintro e w1 ⟨rfl, hw⟩
  subst w1
  go_wp2
  go_ret
  exact ⟨rfl, rfl⟩

set_option maxHeartbeats 1600000 in
theorem cAskS (a : Option Addr) (cap : Nat) (ts : List TripV) (f to m ch h : Int) (w : World) (hz : Trips w a ts) (hS : Small ts) :
    Calls Tryz.prog 19 #[.slice a ts.length cap, .int .i64 f, .int .i64 to, .int .i64 m, .int .i64 ch, .int .i64 h] w (AnsIff w (AskP ts f to m ch h)) := by
  go_enter Tryz.func19, Tryz.ntmps19
  go_wp2_with fail
  refine (cTableS a cap ts _ hz hS).mono ?_
  rintro e w1 ⟨r, rfl, hr, hb⟩
  cases r
  · have hF : Hid (¬ AskP ts f to m ch h) := hide (fun q => absurd (hr.2 q.1) (by decide))
    clear hr
    go_wp2
    go_ret
    exact AnsIff.no hF.out hb
  have hT := hide (hr.1 rfl)
  clear hr
  go_wp2_with fail
  refine (cIn f 0 29 _).mono ?_
  rintro e w2 ⟨rfl, hw⟩
  subst w2
  cases g0 : inB f 0 29
  · have hF : Hid (¬ AskP ts f to m ch h) := hide (fun q => by have := q.2.1; rw [g0] at this; cases this)
    clear hT g0
    go_wp2
    go_ret
    exact AnsIff.no hF.out hb
  replace g0 := hide g0
  go_wp2_with fail
  refine (cIn to 0 29 _).mono ?_
  rintro e w2 ⟨rfl, hw⟩
  subst w2
  cases g1 : inB to 0 29
  · have hF : Hid (¬ AskP ts f to m ch h) := hide (fun q => by have := q.2.2.1; rw [g1] at this; cases this)
    clear hT g1
    go_wp2
    go_ret
    exact AnsIff.no hF.out hb
  replace g1 := hide g1
  go_wp2_with fail
  refine (cIn m 0 100000 _).mono ?_
  rintro e w2 ⟨rfl, hw⟩
  subst w2
  cases g2 : inB m 0 100000
  · have hF : Hid (¬ AskP ts f to m ch h) := hide (fun q => by have := q.2.2.2.1; rw [g2] at this; cases this)
    clear hT g2
    go_wp2
    go_ret
    exact AnsIff.no hF.out hb
  replace g2 := hide g2
  go_wp2_with fail
  refine (cChangeS ch _).mono ?_
  rintro e w2 ⟨rfl, hw⟩
  subst w2
  cases g3 : inB ch 0 60
  · have hF : Hid (¬ AskP ts f to m ch h) := hide (fun q => by have := q.2.2.2.2.1; rw [g3] at this; cases this)
    clear hT g3
    go_wp2
    go_ret
    exact AnsIff.no hF.out hb
  replace g3 := hide g3
  go_wp2_with fail
  refine (cIn h 0 5 _).mono ?_
  rintro e w2 ⟨rfl, hw⟩
  subst w2
  cases g4 : inB h 0 5
  · have hF : Hid (¬ AskP ts f to m ch h) := hide (fun q => by have := q.2.2.2.2.2; rw [g4] at this; cases this)
    clear hT g4
    go_wp2
    go_ret
    exact AnsIff.no hF.out hb
  replace g4 := hide g4
  go_wp2
  go_ret
  exact AnsIff.yes ⟨hT.out, g0.out, g1.out, g2.out, g3.out, g4.out⟩ hb

set_option maxHeartbeats 1600000 in
theorem cAskI (a : Option Addr) (cap : Nat) (ts : List TripV) (f to m ch h : Int) (w : World) (hz : Trips w a ts) (hS : Small ts) :
    Calls Tryz.prog 36 #[.slice a ts.length cap, .int .i64 f, .int .i64 to, .int .i64 m, .int .i64 ch, .int .i64 h] w (AnsIff w (AskP ts f to m ch h)) := by
  go_enter Tryz.func36, Tryz.ntmps36
  go_wp2_with fail
  refine (cTableI a cap ts _ hz hS).mono ?_
  rintro e w1 ⟨r, rfl, hr, hb⟩
  cases r
  · have hF : Hid (¬ AskP ts f to m ch h) := hide (fun q => absurd (hr.2 q.1) (by decide))
    clear hr
    go_wp2
    go_ret
    exact AnsIff.no hF.out hb
  have hT := hide (hr.1 rfl)
  clear hr
  go_wp2_with fail
  refine (cWithin f 0 29 _).mono ?_
  rintro e w2 ⟨rfl, hw⟩
  subst w2
  cases g0 : inB f 0 29
  · have hF : Hid (¬ AskP ts f to m ch h) := hide (fun q => by have := q.2.1; rw [g0] at this; cases this)
    clear hT g0
    go_wp2
    go_ret
    exact AnsIff.no hF.out hb
  replace g0 := hide g0
  go_wp2_with fail
  refine (cWithin to 0 29 _).mono ?_
  rintro e w2 ⟨rfl, hw⟩
  subst w2
  cases g1 : inB to 0 29
  · have hF : Hid (¬ AskP ts f to m ch h) := hide (fun q => by have := q.2.2.1; rw [g1] at this; cases this)
    clear hT g1
    go_wp2
    go_ret
    exact AnsIff.no hF.out hb
  replace g1 := hide g1
  go_wp2_with fail
  refine (cMinuteI m _).mono ?_
  rintro e w2 ⟨rfl, hw⟩
  subst w2
  cases g2 : inB m 0 100000
  · have hF : Hid (¬ AskP ts f to m ch h) := hide (fun q => by have := q.2.2.2.1; rw [g2] at this; cases this)
    clear hT g2
    go_wp2
    go_ret
    exact AnsIff.no hF.out hb
  replace g2 := hide g2
  go_wp2_with fail
  refine (cChangeI ch _).mono ?_
  rintro e w2 ⟨rfl, hw⟩
  subst w2
  cases g3 : inB ch 0 60
  · have hF : Hid (¬ AskP ts f to m ch h) := hide (fun q => by have := q.2.2.2.2.1; rw [g3] at this; cases this)
    clear hT g3
    go_wp2
    go_ret
    exact AnsIff.no hF.out hb
  replace g3 := hide g3
  go_wp2_with fail
  refine (cWithin h 0 5 _).mono ?_
  rintro e w2 ⟨rfl, hw⟩
  subst w2
  cases g4 : inB h 0 5
  · have hF : Hid (¬ AskP ts f to m ch h) := hide (fun q => by have := q.2.2.2.2.2; rw [g4] at this; cases this)
    clear hT g4
    go_wp2
    go_ret
    exact AnsIff.no hF.out hb
  replace g4 := hide g4
  go_wp2
  go_ret
  exact AnsIff.yes ⟨hT.out, g0.out, g1.out, g2.out, g3.out, g4.out⟩ hb

set_option maxHeartbeats 1600000 in
theorem cSoonS (a : Option Addr) (cap : Nat) (ts : List TripV) (f to m ch h : Int) (w : World) (hz : Trips w a ts) (hS : Small ts) :
    Calls Tryz.prog 9 #[.slice a ts.length cap, .int .i64 f, .int .i64 to, .int .i64 m, .int .i64 ch, .int .i64 h] w fun e w' => ∃ r, e = .returned (.int .i64 r) ∧ SoonAns ts f to m ch h r ∧ Below w.heap.size w w' := by
  go_enter Tryz.func9, Tryz.ntmps9
  go_wp2_with fail
  refine (cAskS a cap ts f to m ch h _ hz hS).mono ?_
  rintro e w1 ⟨r, rfl, hr, hb⟩
  cases r
  · have hF : SoonAns ts f to m ch h (-1) := .inl ⟨fun q => absurd (hr.2 q) (by decide), rfl⟩
    clear hr
    go_wp2
    go_ret
    exact ⟨_, rfl, hF, hb⟩
  have hq := hr.1 rfl
  clear hr
  obtain ⟨hg, hf, ht, hm, hc, hh⟩ := hq.parts
  obtain ⟨H, rfl⟩ : ∃ H : Nat, h = H := ⟨h.toNat, by omega⟩
  obtain ⟨T, rfl⟩ : ∃ T : Nat, to = T := ⟨to.toNat, by omega⟩
  have hT : T < 30 := by omega
  have hT' : (T : Int) < 30 := by omega
  have CR := cReach a cap ts f m ch H w1 (hz.below hb) hg hf.1 hf.2 hm.1 (by omega) hc.1 hc.2 (by omega)
  go_wp2_with fail
  refine CR.mono ?_
  rintro e w2 ⟨v, rfl, L, hL, ho, hb2⟩
  obtain ⟨g, c, rfl, -, R, -⟩ := row30_of ho
  have x0 := R.cell hT
  have hA : SoonAns ts f T m ch H (L.getD T 0) := .inr ⟨hq, hL.2 T hT⟩
  generalize L.getD T 0 = y at *
  have HB := btrans hb hb2
  clear CR ho hL R hq
  go_wp2
  go_ret
  exact ⟨_, rfl, hA, HB⟩
end Go.Proofs.YtajeiiebddnchaaGreatDoor
