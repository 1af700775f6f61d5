/- Does a pattern run on a day: the model's text, the program's text, and the walk of the law on RunsOn. -/
import Derived.Test.YtmchdclieejohaaI
namespace Go.Proofs.Ytmchdclieejohaa
open Go.RowKit

theorem on_s1 {W F T : Int} {zs es : List Int} {d : Int} (hin : inB d F T = true) (hw : wkB W d = true) (hz : hasB zs d = false) : onB W F T zs es d = true := by
  simp only [onB, hin, hw, hz, Bool.true_and, Bool.not_false, Bool.true_or]
theorem on_s2 {W F T : Int} {zs es : List Int} {d : Int} (hin : inB d F T = true) (hz : hasB zs d = true) : onB W F T zs es d = hasB es d := by
  simp only [onB, hin, hz, Bool.true_and, Bool.not_true, Bool.and_false, Bool.false_or]

set_option maxHeartbeats 1600000 in
theorem c39 (a1 a2 : Option Addr) (p1 p2 : Nat) (zs es : List Int) (W F T d : Int) (w : World) (hz : Ints w a1 zs) (he : Ints w a2 es) (hl1 : zs.length ≤ 1048576) (hl2 : es.length ≤ 1048576) :
    Calls Try.prog 39 #[.agg #[.int .i64 W, .int .i64 F, .int .i64 T, .slice a1 zs.length p1, .slice a2 es.length p2], .int .i64 d] w fun e w' => e = .returned (.bool (onB W F T zs es d)) ∧ Below w.heap.size w w' := by
  cases hin : inB d F T
  · have R := hide (on_out (W := W) (zs := zs) (es := es) hin)
    clear hz he
    go_enter Try.func39, Try.ntmps39
    go_wp2_with (first | (go_at_call 46; refine (c46 _ _ _ _).mono ?_; rintro e w' ⟨rfl, rfl⟩) | (go_at_call 40; refine (c40 _ _ _).mono ?_; rintro e w' ⟨rfl, rfl⟩))
    go_ret
    exact ⟨ret_bool R.out.symm, balloc _ _⟩
  cases hw : wkB W d
  · have R := hide (on_nwk (zs := zs) (es := es) hin hw)
    go_enter Try.func39, Try.ntmps39
    go_wp2_with (first | (go_at_call 46; refine (c46 _ _ _ _).mono ?_; rintro e w' ⟨rfl, rfl⟩) | (go_at_call 40; refine (c40 _ _ _).mono ?_; rintro e w' ⟨rfl, rfl⟩))
    refine (c47 a2 p2 es d _ (he.below (balloc _ _)) hl2).mono ?_
    rintro e w1 ⟨rfl, rfl⟩
    go_wp2
    go_ret
    exact ⟨ret_bool R.out.symm, balloc _ _⟩
  cases hs : hasB zs d
  · have R := hide (on_s1 (es := es) hin hw hs)
    go_enter Try.func39, Try.ntmps39
    go_wp2_with (first | (go_at_call 46; refine (c46 _ _ _ _).mono ?_; rintro e w' ⟨rfl, rfl⟩) | (go_at_call 40; refine (c40 _ _ _).mono ?_; rintro e w' ⟨rfl, rfl⟩))
    refine (c47 a1 p1 zs d _ (hz.below (balloc _ _)) hl1).mono ?_
    rintro e w1 ⟨rfl, rfl⟩
    go_wp2
    go_ret
    exact ⟨ret_bool R.out.symm, balloc _ _⟩
  · have R := hide (on_s2 (W := W) (es := es) hin hs)
    go_enter Try.func39, Try.ntmps39
    go_wp2_with (first | (go_at_call 46; refine (c46 _ _ _ _).mono ?_; rintro e w' ⟨rfl, rfl⟩) | (go_at_call 40; refine (c40 _ _ _).mono ?_; rintro e w' ⟨rfl, rfl⟩))
    refine (c47 a1 p1 zs d _ (hz.below (balloc _ _)) hl1).mono ?_
    rintro e w1 ⟨rfl, rfl⟩
    go_wp2_with fail
    refine (c47 a2 p2 es d _ (he.below (balloc _ _)) hl2).mono ?_
    rintro e w1 ⟨rfl, rfl⟩
    go_wp2
    go_ret
    exact ⟨ret_bool R.out.symm, balloc _ _⟩

/-- What RunsOn answers. -/
def runsOnB (W F T : Int) (zs es : List Int) (d : Int) : Bool := patOk W F T zs es && onB W F T zs es d
theorem ro_no {W F T : Int} {zs es : List Int} {d : Int} (h : patOk W F T zs es = false) : runsOnB W F T zs es d = false := by simp only [runsOnB, h, Bool.false_and]
theorem ro_yes {W F T : Int} {zs es : List Int} {d : Int} (h : patOk W F T zs es = true) : runsOnB W F T zs es d = onB W F T zs es d := by simp only [runsOnB, h, Bool.true_and]

set_option maxHeartbeats 1600000 in
theorem c17 (a1 a2 : Option Addr) (p1 p2 : Nat) (zs es : List Int) (W F T d : Int) (w : World) (hz : Ints w a1 zs) (he : Ints w a2 es) (hl1 : zs.length ≤ 1048576) (hl2 : es.length ≤ 1048576) :
    Calls Try.prog 17 #[.agg #[.int .i64 W, .int .i64 F, .int .i64 T, .slice a1 zs.length p1, .slice a2 es.length p2], .int .i64 d] w fun e w' => e = .returned (.bool (runsOnB W F T zs es d)) ∧ Below w.heap.size w w' := by
  cases hok : patOk W F T zs es
  · have R := hide (ro_no (d := d) hok)
    go_enter Try.func17, Try.ntmps17
    go_wp2_with fail
    refine (c21 a1 a2 p1 p2 zs es W F T _ (hz.below (balloc _ _)) (he.below (balloc _ _)) hl1 hl2).mono ?_
    rintro e w1 ⟨rfl, hb⟩
    go_wp2
    go_ret
    exact ⟨ret_bool R.out.symm, btrans (balloc _ _) hb⟩
  · have R := hide (ro_yes (d := d) hok)
    go_enter Try.func17, Try.ntmps17
    go_wp2_with fail
    refine (c21 a1 a2 p1 p2 zs es W F T _ (hz.below (balloc _ _)) (he.below (balloc _ _)) hl1 hl2).mono ?_
    rintro e w1 ⟨rfl, hb⟩
    have HB := btrans (balloc _ _) hb
    obtain ⟨b0, b1, b2, b3, b4⟩ := box_cells hb
    clear hb
    go_wp2_with fail
    refine (c37 a1 a2 p1 p2 zs es W F T d _ (hz.below HB) (he.below HB) hl1 hl2 hok).mono ?_
    rintro e w2 ⟨rfl, hb2⟩
    go_wp2
    go_ret
    exact ⟨ret_bool R.out.symm, btrans HB hb2⟩

set_option maxHeartbeats 1600000 in
theorem c22 (a1 a2 : Option Addr) (p1 p2 : Nat) (zs es : List Int) (W F T d : Int) (w : World) (hz : Ints w a1 zs) (he : Ints w a2 es) (hl1 : zs.length ≤ 1048576) (hl2 : es.length ≤ 1048576) :
    Calls Try.prog 22 #[.agg #[.int .i64 W, .int .i64 F, .int .i64 T, .slice a1 zs.length p1, .slice a2 es.length p2], .int .i64 d] w fun e w' => e = .returned (.bool (runsOnB W F T zs es d)) ∧ Below w.heap.size w w' := by
  cases hok : patOk W F T zs es
  · have R := hide (ro_no (d := d) hok)
    go_enter Try.func22, Try.ntmps22
    go_wp2_with fail
    refine (c25 a1 a2 p1 p2 zs es W F T _ (hz.below (balloc _ _)) (he.below (balloc _ _)) hl1 hl2).mono ?_
    rintro e w1 ⟨rfl, hb⟩
    have HB := btrans (balloc _ _) hb
    obtain ⟨b0, b1, b2, b3, b4⟩ := box_cells hb
    clear hb
    go_wp2
    go_ret
    exact ⟨ret_bool R.out.symm, HB⟩
  cases hin : inB d F T
  · have R := hide ((ro_yes (d := d) hok).trans (on_out hin))
    go_enter Try.func22, Try.ntmps22
    go_wp2_with fail
    refine (c25 a1 a2 p1 p2 zs es W F T _ (hz.below (balloc _ _)) (he.below (balloc _ _)) hl1 hl2).mono ?_
    rintro e w1 ⟨rfl, hb⟩
    have HB := btrans (balloc _ _) hb
    obtain ⟨b0, b1, b2, b3, b4⟩ := box_cells hb
    clear hb
    go_wp2_with (first | (go_at_call 46; refine (c46 _ _ _ _).mono ?_; rintro e w' ⟨rfl, rfl⟩) | (go_at_call 40; refine (c40 _ _ _).mono ?_; rintro e w' ⟨rfl, rfl⟩))
    go_ret
    exact ⟨ret_bool R.out.symm, HB⟩
  cases hw : wkB W d
  · have R := hide ((ro_yes (d := d) hok).trans (on_nwk hin hw))
    go_enter Try.func22, Try.ntmps22
    go_wp2_with fail
    refine (c25 a1 a2 p1 p2 zs es W F T _ (hz.below (balloc _ _)) (he.below (balloc _ _)) hl1 hl2).mono ?_
    rintro e w1 ⟨rfl, hb⟩
    have HB := btrans (balloc _ _) hb
    obtain ⟨b0, b1, b2, b3, b4⟩ := box_cells hb
    clear hb
    go_wp2_with (first | (go_at_call 46; refine (c46 _ _ _ _).mono ?_; rintro e w' ⟨rfl, rfl⟩) | (go_at_call 40; refine (c40 _ _ _).mono ?_; rintro e w' ⟨rfl, rfl⟩))
    refine (c47 a2 p2 es d _ (he.below HB) hl2).mono ?_
    rintro e w2 ⟨rfl, rfl⟩
    go_wp2
    go_ret
    exact ⟨ret_bool R.out.symm, HB⟩
  cases hs : hasB zs d
  · have R := hide ((ro_yes (d := d) hok).trans (on_s1 hin hw hs))
    go_enter Try.func22, Try.ntmps22
    go_wp2_with fail
    refine (c25 a1 a2 p1 p2 zs es W F T _ (hz.below (balloc _ _)) (he.below (balloc _ _)) hl1 hl2).mono ?_
    rintro e w1 ⟨rfl, hb⟩
    have HB := btrans (balloc _ _) hb
    obtain ⟨b0, b1, b2, b3, b4⟩ := box_cells hb
    clear hb
    go_wp2_with (first | (go_at_call 46; refine (c46 _ _ _ _).mono ?_; rintro e w' ⟨rfl, rfl⟩) | (go_at_call 40; refine (c40 _ _ _).mono ?_; rintro e w' ⟨rfl, rfl⟩))
    refine (c47 a1 p1 zs d _ (hz.below HB) hl1).mono ?_
    rintro e w2 ⟨rfl, rfl⟩
    go_wp2
    go_ret
    exact ⟨ret_bool R.out.symm, HB⟩
  · have R := hide ((ro_yes (d := d) hok).trans (on_s2 hin hs))
    go_enter Try.func22, Try.ntmps22
    go_wp2_with fail
    refine (c25 a1 a2 p1 p2 zs es W F T _ (hz.below (balloc _ _)) (he.below (balloc _ _)) hl1 hl2).mono ?_
    rintro e w1 ⟨rfl, hb⟩
    have HB := btrans (balloc _ _) hb
    obtain ⟨b0, b1, b2, b3, b4⟩ := box_cells hb
    clear hb
    go_wp2_with (first | (go_at_call 46; refine (c46 _ _ _ _).mono ?_; rintro e w' ⟨rfl, rfl⟩) | (go_at_call 40; refine (c40 _ _ _).mono ?_; rintro e w' ⟨rfl, rfl⟩))
    refine (c47 a1 p1 zs d _ (hz.below HB) hl1).mono ?_
    rintro e w2 ⟨rfl, rfl⟩
    go_wp2_with fail
    refine (c47 a2 p2 es d _ (he.below HB) hl2).mono ?_
    rintro e w2 ⟨rfl, rfl⟩
    go_wp2
    go_ret
    exact ⟨ret_bool R.out.symm, HB⟩

end Go.Proofs.Ytmchdclieejohaa
