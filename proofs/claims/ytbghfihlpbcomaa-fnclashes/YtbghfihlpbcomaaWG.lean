/- Clean of the program and of the model; the walk of the law on Clean. -/
import Derived.Test.YtbghfihlpbcomaaKH
import Derived.Test.YtbghfihlpbcomaaWS
namespace Go.Proofs.Ytbghfihlpbcomaa
open Go.RowKit
/-- No two of the uses clash. -/
def NoClash (us : List RideV) (h : Int) : Prop := ∃ y, FirstAns us h (-1) y
theorem FirstAns.neg {us : List RideV} {h x y : Int} (a : FirstAns us h x y) : x < 0 ↔ NoClash us h := by
  constructor
  · intro hx
    have : x = -1 := by have := a.sign; omega
    subst this
    exact ⟨y, a⟩
  · rintro ⟨y', b⟩
    have := (a.uniq b).1
    omega
def CleanP (n : Int) (es : List EdgeV) (ts : List TripV) (h : Int) : Prop := Ridden n es ts ∧ inB h 0 60 = true ∧ NoClash (usesL es ts) h
theorem usesL_small {n : Int} {es : List EdgeV} {ts : List TripV} (h : Ridden n es ts) : (usesL es ts).length ≤ 264 := by
  have h1 := usesTo_small (es := es) h.2.1 ts.length (Nat.le_refl _)
  have h2 := h.2.1.1
  unfold usesL
  omega

set_option maxHeartbeats 1600000 in
theorem cCleanI (a : Option Addr) (cap : Nat) (n : Int) (es : List EdgeV) (ta : Option Addr) (tc : Nat) (ts : List TripV) (h : Int) (w : World) (he : Edges w a es) (hl : es.length ≤ 1048576) (hz : Trips w ta ts) (hS : Small ts) :
    Calls Try.prog 16 #[.agg #[.int .i64 n, .slice a es.length cap], .slice ta ts.length tc, .int .i64 h] w (AnsIff w (CleanP n es ts h)) := by
  have hW := balloc w (.cells #[.int .i64 n, .slice a es.length cap] 26)
  go_enter Try.func16, Try.ntmps16
  go_wp2_with fail
  refine (cUsesOf a cap n es ta tc ts _ (he.below hW) hl (hz.below hW) hS).mono ?_
  rintro e w1 ⟨hb1, hA⟩
  have HB := btrans hW hb1
  clear hW hb1
  rcases hA with ⟨hR, v, rfl, ho⟩ | ⟨hR, rfl⟩
  · have hLn := usesL_small hR
    replace hR := hide hR
    obtain ⟨va, vc, rfl⟩ := own_form ho
    have hZ := Rides.own ho
    have CH := fun w => cHeadOk h w
    cases hh : inB h 0 60
    · rw [hh] at CH
      have hF : Hid (¬ CleanP n es ts h) := hide (fun g => by have := g.2.1; rw [hh] at this; cases this)
      clear hZ ho
      go_wp2_with (go_at_call 48; refine (CH _).mono ?_; rintro e w2 ⟨rfl, hw⟩; subst w2)
      go_ret
      exact AnsIff.no hF.out HB
    · rw [hh] at CH
      replace hh := hide hh
      go_wp2_with (go_at_call 48; refine (CH _).mono ?_; rintro e w2 ⟨rfl, hw⟩; subst w2)
      refine (cFirstI va vc (usesL es ts) h _ hZ (by omega)).mono ?_
      rintro e w3 ⟨x, y, rfl, hA, hb3⟩
      replace HB := btrans HB hb3
      have hI := hide hA.neg
      clear hA hb3 hZ ho
      have hT : Hid (decide (x < 0) = true ↔ CleanP n es ts h) := hide ⟨fun hx => ⟨hR.out, hh.out, hI.out.1 (of_decide_eq_true hx)⟩, fun g => decide_eq_true (hI.out.2 g.2.2)⟩
      clear hI
      go_wp2
      go_ret
      exact ⟨_, rfl, hT.out, HB⟩
  · have hF : Hid (¬ CleanP n es ts h) := hide (fun g => hR g.1)
    clear hR
    go_wp2_with (go_at_call 48; refine (cHeadOk _ _).mono ?_; rintro e w2 ⟨rfl, hw⟩; subst w2)
    go_ret
    exact AnsIff.no hF.out HB

set_option maxHeartbeats 1600000 in
theorem cCleanS (a : Option Addr) (cap : Nat) (n : Int) (es : List EdgeV) (ta : Option Addr) (tc : Nat) (ts : List TripV) (h : Int) (w : World) (he : Edges w a es) (hl : es.length ≤ 1048576) (hz : Trips w ta ts) (hS : Small ts) :
    Calls Try.prog 39 #[.agg #[.int .i64 n, .slice a es.length cap], .slice ta ts.length tc, .int .i64 h] w (AnsIff w (CleanP n es ts h)) := by
  have hW := balloc w (.cells #[.int .i64 n, .slice a es.length cap] 26)
  have X := one_block w (.cells #[.int .i64 n, .slice a es.length cap] 26)
  go_enter Try.func39, Try.ntmps39
  go_wp2_with fail
  refine (cRiddenS a cap n es ta tc ts _ (he.below hW) hl (hz.below hW) hS).mono ?_
  rintro e w1 ⟨r, rfl, hr, hb1⟩
  have HB := btrans hW hb1
  replace X := blk_keep hb1 X
  clear hW hb1
  cases r
  · have hF : Hid (¬ CleanP n es ts h) := hide (fun g => by have := hr.2 g.1; cases this)
    clear hr
    go_wp2_with (go_at_call 53; refine (cIn _ _ _ _).mono ?_; rintro e w2 ⟨rfl, hw⟩; subst w2)
    go_ret
    exact AnsIff.no hF.out HB
  have hR := hide (hr.1 rfl)
  clear hr
  have CH := fun w => cIn h 0 60 w
  cases hh : inB h 0 60
  · rw [hh] at CH
    have hF : Hid (¬ CleanP n es ts h) := hide (fun g => by have := g.2.1; rw [hh] at this; cases this)
    go_wp2_with (go_at_call 53; refine (CH _).mono ?_; rintro e w2 ⟨rfl, hw⟩; subst w2)
    go_ret
    exact AnsIff.no hF.out HB
  rw [hh] at CH
  replace hh := hide hh
  obtain ⟨⟨x0, x1⟩, -⟩ := blk2 X
  go_wp2_with (go_at_call 53; refine (CH _).mono ?_; rintro e w2 ⟨rfl, hw⟩; subst w2)
  refine (cUsesS a cap n es ta tc ts _ (he.below HB) hl (hz.below HB) hS).mono ?_
  rintro e w3 ⟨hb3, hA⟩
  replace HB := btrans HB hb3
  clear hb3 x0 x1 X
  rcases hA with ⟨-, v, rfl, ho⟩ | ⟨hN, rfl⟩
  · have hLn := usesL_small hR.out
    obtain ⟨va, vc, rfl⟩ := own_form ho
    have hZ := Rides.own ho
    clear ho
    go_wp2_with fail
    refine (cFirstS va vc (usesL es ts) h _ hZ (by omega)).mono ?_
    rintro e w4 ⟨x, y, rfl, hA, hb4⟩
    replace HB := btrans HB hb4
    have hI := hide hA.neg
    clear hA hb4 hZ
    have hT : Hid (decide (x < 0) = true ↔ CleanP n es ts h) := hide ⟨fun hx => ⟨hR.out, hh.out, hI.out.1 (of_decide_eq_true hx)⟩, fun g => decide_eq_true (hI.out.2 g.2.2)⟩
    clear hI
    go_wp2
    go_ret
    exact ⟨_, rfl, hT.out, HB⟩
  · exact absurd hR.out hN

set_option maxRecDepth 20000 in
set_option maxHeartbeats 1600000 in
theorem walkClean (n : Int) (a : Option Addr) (p : Nat) (es : List EdgeV) (ta : Option Addr) (tc : Nat) (ts : List TripV) (hd : Int) (w : World) (he : Edges w a es) (hn : es.length ≤ maxLen) (hz : Trips w ta ts) (hB : Big ts) :
    Calls Try.prog 9 #[.agg #[.int .i64 n, .slice a es.length p], .slice ta ts.length tc, .int .i64 hd] w fun e w' => e = .returned (.bool true) ∧ Below w.heap.size w w' := by
  have A0 := one_block w (.cells #[.int .i64 n, .slice a es.length p] 48)
  have HB := balloc w (.cells #[.int .i64 n, .slice a es.length p] 48)
  go_enter Try.func9, Try.ntmps9
  go_wp2_with fail
  refine (cSzNet a es.length p _ 1048576 _ (by omega) (by omega) hn).mono ?_
  rintro e w1 ⟨r, rfl, hr, hb⟩
  replace HB := btrans HB hb
  replace A0 := blk_keep hb A0
  clear hb
  rcases hr with rfl | ⟨hr, hr0⟩
  · go_wp2
    go_ret
    exact ⟨rfl, HB⟩
  have hl : es.length ≤ 1048576 := by omega
  have hr1 : r ≤ 1048576 := by omega
  have hr2 : ¬ r < 0 := by omega
  clear hr
  go_wp2_with fail
  refine (cSzTrips ta tc ts r _ (hz.below HB) hr0 hr1 hB).mono ?_
  rintro e w2 ⟨r', rfl, hr, hb⟩
  replace HB := btrans HB hb
  replace A0 := blk_keep hb A0
  clear hb
  rcases hr with rfl | ⟨hr3, hr4, hS⟩
  · go_wp2
    go_ret
    exact ⟨rfl, HB⟩
  have hr5 : ¬ r' < 0 := by omega
  clear hr4 hB
  obtain ⟨⟨x0, x1⟩, -⟩ := blk2 A0
  go_wp2_with fail
  refine (cToNet a p n es _ (he.below HB) hl).mono ?_
  rintro e w3 ⟨g1, rfl, N1, hb⟩
  replace HB := btrans HB hb
  replace A0 := blk_keep hb A0
  clear hb x0 x1
  go_wp2_with fail
  refine (cToTrips ta tc ts _ (hz.below HB) hS).mono ?_
  rintro e w4 ⟨rfl, o1, hb⟩
  replace HB := btrans HB hb
  replace A0 := blk_keep hb A0
  replace N1 := N1.below hb
  clear hb
  go_wp2_with fail
  refine (cCleanS _ _ n es _ _ ts hd _ N1.edges hl o1.read hS).mono ?_
  rintro e w5 ⟨q1, rfl, hq1, hb⟩
  replace HB := btrans HB hb
  replace A0 := blk_keep hb A0
  replace hq1 := hide hq1
  clear hb N1 o1
  obtain ⟨⟨x0, x1⟩, -⟩ := blk2 A0
  go_wp2_with fail
  refine (cToNet a p n es _ (he.below HB) hl).mono ?_
  rintro e w6 ⟨g2, rfl, N2, hb⟩
  replace HB := btrans HB hb
  replace A0 := blk_keep hb A0
  clear hb x0 x1
  have X0 := one_block w6 (.cells #[.int .i64 n, .slice (some ⟨g2, 0, none⟩) es.length es.length] 26)
  have hb6 := balloc w6 (.cells #[.int .i64 n, .slice (some ⟨g2, 0, none⟩) es.length es.length] 26)
  replace HB := btrans HB hb6
  replace A0 := blk_keep hb6 A0
  replace N2 := N2.below hb6
  clear hb6
  go_wp2_with fail
  refine (cToTrips ta tc ts _ (hz.below HB) hS).mono ?_
  rintro e w7 ⟨rfl, o2, hb⟩
  rw [sz1] at o2
  replace HB := btrans HB hb
  replace A0 := blk_keep hb A0
  replace X0 := blk_keep hb X0
  replace N2 := N2.below hb
  clear hb
  obtain ⟨⟨x0, x1⟩, -⟩ := blk2 X0
  go_wp2_with fail
  refine (cCleanI _ _ n es _ _ ts hd _ N2.edges hl o2.read hS).mono ?_
  rintro e w8 ⟨q2, rfl, hq2, hb⟩
  replace HB := btrans HB hb
  replace A0 := blk_keep hb A0
  replace X0 := blk_keep hb X0
  replace N2 := N2.below hb
  replace o2 := o2.below hb
  have hqq := iff_same hq1.out hq2
  subst hqq
  clear hb hq1 hq2 x0 x1
  obtain ⟨⟨x0, x1⟩, -⟩ := blk2 X0
  obtain ⟨⟨y0, y1⟩, -⟩ := blk2 A0
  have hE := he.below HB.drew
  go_wp2_with fail
  go_region_held3 (fun w' => w'.cell? ⟨w6.heap.size, 0, none⟩ = some (.int .i64 n) ∧ w'.cell? ⟨w6.heap.size, 1, none⟩ = some (.slice (some ⟨g2, 0, none⟩) es.length es.length) ∧ w'.cell? ⟨w.heap.size, 0, none⟩ = some (.int .i64 n) ∧ w'.cell? ⟨w.heap.size, 1, none⟩ = some (.slice a es.length p)) (go_keep) (first
    | (go_at_call 28; with_reducible refine (cEqNet _ _ _ _ n es _ P2 P3 hl).mono ?_; rintro e wb ⟨rfl, hbb⟩; have Bb := btrans Bp hbb; clear hbb; obtain ⟨⟨v0, v1⟩, -⟩ := blk2 (blk_keep Bb X0); obtain ⟨⟨v2, v3⟩, -⟩ := blk2 (blk_keep Bb A0))
    | (go_at_call 25; with_reducible refine (cToNet a p n es _ hE hl).mono ?_; rintro e wp ⟨g4, rfl, N3, hbp⟩; have Bp := undrew hbp; have P2 := (N2.below Bp).edges; have P3 := N3.edges; clear hbp; obtain ⟨⟨v0, v1⟩, -⟩ := blk2 (blk_keep Bp X0); obtain ⟨⟨v2, v3⟩, -⟩ := blk2 (blk_keep Bp A0)))
  clear v0 v1 v2 v3 P2 P3 N3 N2
  replace HB := btrans HB Bb
  replace o2 := o2.below Bb
  clear Bb Bp hE A0 X0 x0 x1 y0 y1
  go_wp2_with fail
  refine (cToTrips ta tc ts _ (hz.below HB) hS).mono ?_
  rintro e w9 ⟨rfl, o3, hb⟩
  replace HB := btrans HB hb
  replace o2 := o2.below hb
  clear hb
  go_wp2_with fail
  refine (cEqTrips _ _ _ _ ts _ o2.read o3.read hS).mono ?_
  rintro e w10 ⟨rfl, hb⟩
  replace HB := btrans HB hb
  go_wp2
  go_ret
  exact ⟨rfl, HB⟩
end Go.Proofs.Ytbghfihlpbcomaa
