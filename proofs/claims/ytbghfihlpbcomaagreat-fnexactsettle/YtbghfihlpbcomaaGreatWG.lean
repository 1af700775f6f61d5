/- Clean of the program and of the model; the walk of the law on Clean. -/
import Derived.Test.YtbghfihlpbcomaaGreatKH
import Derived.Test.YtbghfihlpbcomaaGreatWS
namespace Go.Proofs.YtbghfihlpbcomaaGreat
open Go.RowKit
/-- No two of the uses clash. -/
def NoClash (us : List RideV) (h : Int) : Prop := ∃ y, FirstAns us h (-1) y
theorem FirstAns.neg {us : List RideV} {h x y : Int} (a : FirstAns us h x y) : x < 0 ↔ NoClash us h := by
  constructor
  · intro hx
    have : x = -1 := by have := a.sign; omega
    subst this
    exact ⟨y, a⟩
  · rintro ⟨y', b⟩
    have := (a.uniq b).1
    omega
def CleanP (n : Int) (es : List EdgeV) (ts : List TripV) (h : Int) : Prop := Ridden n es ts ∧ inB h 0 60 = true ∧ NoClash (usesL es ts) h
theorem usesL_small {n : Int} {es : List EdgeV} {ts : List TripV} (h : Ridden n es ts) : (usesL es ts).length ≤ 264 := by
  have h1 := usesTo_small (es := es) h.2.1 ts.length (Nat.le_refl _)
  have h2 := h.2.1.1
  unfold usesL
  omega

set_option maxHeartbeats 1600000 in
theorem cCleanI (a : Option Addr) (cap : Nat) (n : Int) (es : List EdgeV) (ta : Option Addr) (tc : Nat) (ts : List TripV) (h : Int) (w : World) (he : Edges w a es) (hl : es.length ≤ 1048576) (hz : Trips w ta ts) (hS : Small ts) :
    Calls Tryz.prog 11 #[.agg #[.int .i64 n, .slice a es.length cap], .slice ta ts.length tc, .int .i64 h] w (AnsIff w (CleanP n es ts h)) := by
  have hW := balloc w (.cells #[.int .i64 n, .slice a es.length cap] 26)
  go_enter Tryz.func11, Tryz.ntmps11
  go_wp2_with fail
  refine (cUsesOf a cap n es ta tc ts _ (he.below hW) hl (hz.below hW) hS).mono ?_
  rintro e w1 ⟨hb1, hA⟩
  have HB := btrans hW hb1
  clear hW hb1
  rcases hA with ⟨hR, v, rfl, ho⟩ | ⟨hR, rfl⟩
  · have hLn := usesL_small hR
    replace hR := hide hR
    obtain ⟨va, vc, rfl⟩ := own_form ho
    have hZ := Rides.own ho
    have CH := fun w => cHeadOk h w
    cases hh : inB h 0 60
    · rw [hh] at CH
      have hF : Hid (¬ CleanP n es ts h) := hide (fun g => by have := g.2.1; rw [hh] at this; cases this)
      clear hZ ho
      go_wp2_with (go_at_call 36; refine (CH _).mono ?_; rintro e w2 ⟨rfl, hw⟩; subst w2)
      go_ret
      exact AnsIff.no hF.out HB
    · rw [hh] at CH
      replace hh := hide hh
      go_wp2_with (go_at_call 36; refine (CH _).mono ?_; rintro e w2 ⟨rfl, hw⟩; subst w2)
      refine (cFirstI va vc (usesL es ts) h _ hZ (by omega)).mono ?_
      rintro e w3 ⟨x, y, rfl, hA, hb3⟩
      replace HB := btrans HB hb3
      have hI := hide hA.neg
      clear hA hb3 hZ ho
      have hT : Hid (decide (x < 0) = true ↔ CleanP n es ts h) := hide ⟨fun hx => ⟨hR.out, hh.out, hI.out.1 (of_decide_eq_true hx)⟩, fun g => decide_eq_true (hI.out.2 g.2.2)⟩
      clear hI
      go_wp2
      go_ret
      exact ⟨_, rfl, hT.out, HB⟩
  · have hF : Hid (¬ CleanP n es ts h) := hide (fun g => hR g.1)
    clear hR
    go_wp2_with (go_at_call 36; refine (cHeadOk _ _).mono ?_; rintro e w2 ⟨rfl, hw⟩; subst w2)
    go_ret
    exact AnsIff.no hF.out HB

set_option maxHeartbeats 1600000 in
theorem cCleanS (a : Option Addr) (cap : Nat) (n : Int) (es : List EdgeV) (ta : Option Addr) (tc : Nat) (ts : List TripV) (h : Int) (w : World) (he : Edges w a es) (hl : es.length ≤ 1048576) (hz : Trips w ta ts) (hS : Small ts) :
    Calls Tryz.prog 60 #[.agg #[.int .i64 n, .slice a es.length cap], .slice ta ts.length tc, .int .i64 h] w (AnsIff w (CleanP n es ts h)) := by
  have hW := balloc w (.cells #[.int .i64 n, .slice a es.length cap] 26)
  have X := one_block w (.cells #[.int .i64 n, .slice a es.length cap] 26)
  go_enter Tryz.func60, Tryz.ntmps60
  go_wp2_with fail
  refine (cRiddenS a cap n es ta tc ts _ (he.below hW) hl (hz.below hW) hS).mono ?_
  rintro e w1 ⟨r, rfl, hr, hb1⟩
  have HB := btrans hW hb1
  replace X := blk_keep hb1 X
  clear hW hb1
  cases r
  · have hF : Hid (¬ CleanP n es ts h) := hide (fun g => by have := hr.2 g.1; cases this)
    clear hr
    go_wp2_with (go_at_call 61; refine (cIn _ _ _ _).mono ?_; rintro e w2 ⟨rfl, hw⟩; subst w2)
    go_ret
    exact AnsIff.no hF.out HB
  have hR := hide (hr.1 rfl)
  clear hr
  have CH := fun w => cIn h 0 60 w
  cases hh : inB h 0 60
  · rw [hh] at CH
    have hF : Hid (¬ CleanP n es ts h) := hide (fun g => by have := g.2.1; rw [hh] at this; cases this)
    go_wp2_with (go_at_call 61; refine (CH _).mono ?_; rintro e w2 ⟨rfl, hw⟩; subst w2)
    go_ret
    exact AnsIff.no hF.out HB
  rw [hh] at CH
  replace hh := hide hh
  obtain ⟨⟨x0, x1⟩, -⟩ := blk2 X
  go_wp2_with (go_at_call 61; refine (CH _).mono ?_; rintro e w2 ⟨rfl, hw⟩; subst w2)
  refine (cUsesS a cap n es ta tc ts _ (he.below HB) hl (hz.below HB) hS).mono ?_
  rintro e w3 ⟨hb3, hA⟩
  replace HB := btrans HB hb3
  clear hb3 x0 x1 X
  rcases hA with ⟨-, v, rfl, ho⟩ | ⟨hN, rfl⟩
  · have hLn := usesL_small hR.out
    obtain ⟨va, vc, rfl⟩ := own_form ho
    have hZ := Rides.own ho
    clear ho
    go_wp2_with fail
    refine (cFirstS va vc (usesL es ts) h _ hZ (by omega)).mono ?_
    rintro e w4 ⟨x, y, rfl, hA, hb4⟩
    replace HB := btrans HB hb4
    have hI := hide hA.neg
    clear hA hb4 hZ
    have hT : Hid (decide (x < 0) = true ↔ CleanP n es ts h) := hide ⟨fun hx => ⟨hR.out, hh.out, hI.out.1 (of_decide_eq_true hx)⟩, fun g => decide_eq_true (hI.out.2 g.2.2)⟩
    clear hI
    go_wp2
    go_ret
    exact ⟨_, rfl, hT.out, HB⟩
  · exact absurd hR.out hN

end Go.Proofs.YtbghfihlpbcomaaGreat
