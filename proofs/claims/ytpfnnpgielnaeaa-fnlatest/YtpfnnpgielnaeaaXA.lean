/- The walk of FnLatest. -/
import Derived.Test.YtpfnnpgielnaeaaDV
namespace Go.Proofs.Ytpfnnpgielnaeaa
open Go.RowKit
/-- What the latest minute is, held against Soonest. -/
theorem late_same {ts : List TripV} {f ch B t : Int} (q : AskP ts f f B ch 5) (hL : LateAns ts f f B ch 5 t) : t = B := by
  rcases hL with ⟨h, _⟩ | ⟨_, h⟩
  · exact absurd q h
  · exact h.uniq (latest_same q.parts.2.2.2.1.1)
theorem late_range {ts : List TripV} {f u ch B t : Int} (q : AskP ts f u B ch 5) (hL : LateAns ts f u B ch 5 t) : -1 ≤ t ∧ t ≤ B := by
  have hB := q.parts.2.2.2.1
  rcases hL with ⟨h, _⟩ | ⟨_, ⟨h, g⟩ | ⟨h, g, _⟩⟩
  · exact absurd q h
  · omega
  · omega
theorem late_none {ts : List TripV} {f u ch B t r : Int} (q : AskP ts f u B ch 5) (hL : LateAns ts f u B ch 5 t) (ht : t < 0) (hs : SoonAns ts f u 0 ch 5 r) : t = -1 ∧ (r < 0 ∨ B < r) := by
  have hB := q.parts.2.2.2.1
  rcases hL with ⟨h, _⟩ | ⟨_, ⟨h, g⟩ | ⟨h, _⟩⟩
  · exact absurd q h
  · exact ⟨h, (soon_late (q.sooner (Int.le_refl 0) hB.1) hs).2 (g 0 (Int.le_refl 0) hB.1)⟩
  · omega
theorem late_some {ts : List TripV} {f u ch B t x y : Int} (q : AskP ts f u B ch 5) (hB : B ≤ 1000) (hL : LateAns ts f u B ch 5 t) (ht : ¬ t < 0) (hx : SoonAns ts f u t ch 5 x) (hy : SoonAns ts f u (t + 1) ch 5 y) : t ≤ B ∧ 0 ≤ x ∧ x ≤ B ∧ (y < 0 ∨ B < y) := by
  rcases hL with ⟨h, _⟩ | ⟨_, ⟨h, g⟩ | ⟨h0, h1, h2, h3⟩⟩
  · exact absurd q h
  · omega
  · have e1 := soon_late (by_ := B) (q.sooner h0 h1) hx
    have e2 : ¬ (x < 0 ∨ B < x) := fun e => e1.1 e h2
    have q2 : AskP ts f u (t + 1) ch 5 := ⟨q.1, q.2.1, q.2.2.1, inB_yes (by omega) (by omega), q.2.2.2.2.1, q.2.2.2.2.2⟩
    have e3 := soon_late (by_ := B) q2 hy
    have hN : ¬ InTime ts f u ch B (5 : Int).toNat (t + 1) := by
      by_cases hb : t + 1 ≤ B
      · exact h3 _ (by omega) hb
      · rintro ⟨z, hz, hj⟩
        have := hj.ge q.parts.1 q.parts.2.2.2.2.1.1
        dsimp only at this
        omega
    have := e3.2 hN
    exact ⟨h1, by omega, by omega, this⟩

set_option maxRecDepth 100000 in
set_option maxHeartbeats 3200000 in
theorem walkLatestD (a : Option Addr) (cap : Nat) (zs : List Int) (w : World) (hz : Bytes w a zs) (hm : zs.length ≤ maxLen) :
    Calls Try.prog 4 #[.slice a zs.length cap] w fun e w' => e = .returned (.bool true) ∧ Below w.heap.size w w' := by
  by_cases hbig : 1048576 < zs.length
  · have hd : decide (1048576 < zs.length) = true := by simp [hbig]
    go_enter Try.func4, Try.ntmps4
    go_wp2_with fail
    refine (cbig a cap zs.length _ hm).mono ?_
    rintro e w1 ⟨rfl, hw⟩
    subst w1
    rw [hd]
    go_wp2
    go_ret
    exact ⟨rfl, Below.refl _ _⟩
  have hd : decide (1048576 < zs.length) = false := by simp; omega
  have hl : zs.length ≤ 1048576 := by omega
  have hat := atZ_in hz 5
  go_enter Try.func4, Try.ntmps4
  go_wp2_with fail
  refine (cbig a cap zs.length _ hm).mono ?_
  rintro e w1 ⟨rfl, hw⟩
  subst w1
  rw [hd]
  clear hd hbig hm
  go_wp2_with fail
  refine (cDrawQ a cap zs _ hz hl).mono ?_
  rintro e w1 ⟨ao, cp, ts, f, u, m, ch, rfl, hT, hS, hTab, ⟨f0, f1⟩, ⟨u0, u1⟩, ⟨m0, m1⟩, ⟨c0, c1⟩, HB⟩
  go_wp2_with fail
  refine (cat a cap zs 5 _ (hz.below HB) hl (by omega)).mono ?_
  rintro e w2 ⟨rfl, hw⟩
  subst w2
  generalize atZ zs 5 = z at *
  obtain ⟨q1, q2, q3⟩ := rem_in (x := z) (n := 90) hat.1 (by omega) (by omega)
  obtain ⟨B, hB⟩ : ∃ B, B = m + 30 + z % 90 := ⟨_, rfl⟩
  have q : Hid (AskP ts f u B ch 5) := ⟨hTab, inB_yes (by omega) (by omega), inB_yes (by omega) (by omega), inB_yes (by omega) (by omega), inB_yes (by omega) (by omega), inB_yes (by omega) (by omega)⟩
  have hB1 : B ≤ 1000 := by omega
  have hB0 : 0 ≤ B := by omega
  replace hTab := hide hTab
  replace hS := hide hS
  replace hT := hide hT
  go_wp2_with fail
  rw [← hB]
  clear hB q1 q2 q3 hat
  refine (cLateI ao cp ts f u B ch 5 _ hT.out hS.out).mono ?_
  rintro e w3 ⟨t, rfl, hL, hb⟩
  replace HB := btrans HB hb
  replace hT := hide (hT.out.below hb)
  replace hL := hide hL
  have ht := late_range q.out hL.out
  clear hb
  by_cases hfu : f = u
  · subst hfu
    obtain rfl := late_same q.out hL.out
    go_wp2
    go_ret
    exact ⟨rfl, HB⟩
  by_cases ht0 : t < 0
  · go_wp2_with fail
    refine (cSoonI ao cp ts f u 0 ch 5 _ hT.out hS.out).mono ?_
    rintro e w4 ⟨r, rfl, hr, hb⟩
    replace HB := btrans HB hb
    obtain ⟨rfl, hr⟩ := late_none q.out hL.out ht0 hr
    clear hL
    by_cases r0 : r < 0
    · go_wp2
      go_ret
      exact ⟨rfl, HB⟩
    · have r1 : B < r := by omega
      go_wp2
      go_ret
      exact ⟨rfl, HB⟩
  · go_wp2_with fail
    refine (cSoonI ao cp ts f u t ch 5 _ hT.out hS.out).mono ?_
    rintro e w4 ⟨x, rfl, hx, hb⟩
    replace HB := btrans HB hb
    replace hT := hide (hT.out.below hb)
    replace hx := hide hx
    clear hb
    go_wp2_with fail
    refine (cSoonI ao cp ts f u (t + 1) ch 5 _ hT.out hS.out).mono ?_
    rintro e w5 ⟨y', rfl, hy, hb⟩
    replace HB := btrans HB hb
    obtain ⟨e1, e2, e3, e4⟩ := late_some q.out hB1 hL.out (by omega) hx.out hy
    clear hL hx hy q hT hS hTab
    by_cases r0 : y' < 0
    · go_wp2
      go_ret
      exact ⟨rfl, HB⟩
    · have r1 : B < y' := by omega
      go_wp2
      go_ret
      exact ⟨rfl, HB⟩
end Go.Proofs.Ytpfnnpgielnaeaa
