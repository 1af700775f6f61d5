/- The walk of the law on PushOf. -/
import Derived.Test.YtbghfihlpbcomaaPZ
import Derived.Deep.RegionHeld3
namespace Go.Proofs.Ytbghfihlpbcomaa
open Go.RowKit
set_option maxRecDepth 20000 in
set_option maxHeartbeats 6400000 in
theorem walkPushOf (n : Int) (a : Option Addr) (p : Nat) (es : List EdgeV) (ta : Option Addr) (tc : Nat) (ts : List TripV) (s : ByteArray) (ca : Option Addr) (cc : Nat) (cs : List HaltV) (hd : Int) (w : World) (he : Edges w a es) (hn : es.length ≤ maxLen) (hz : Trips w ta ts) (hB : Big ts) (hc : Halts w ca cs) (hcn : cs.length ≤ maxLen) (hsn : s.size ≤ maxLen) :
    Calls Try.prog 10 #[.agg #[.int .i64 n, .slice a es.length p], .slice ta ts.length tc, .agg #[.string s, .slice ca cs.length cc], .int .i64 hd] w fun e w' => e = .returned (.bool true) ∧ Below w.heap.size w w' := by
  have HB := btrans (balloc w (.cells #[.int .i64 n, .slice a es.length p] 48)) (balloc _ (.cells #[.string s, .slice ca cs.length cc] 70))
  have A0 := blk_keep (balloc _ (.cells #[.string s, .slice ca cs.length cc] 70)) (one_block w (.cells #[.int .i64 n, .slice a es.length p] 48))
  have T0 := one_block (w.alloc (.cells #[.int .i64 n, .slice a es.length p] 48)) (.cells #[.string s, .slice ca cs.length cc] 70)
  rw [sz1] at T0
  obtain ⟨⟨x0, x1⟩, -⟩ := blk2 A0
  go_enter Try.func10, Try.ntmps10
  go_wp2_with fail
  refine (cSzNet a es.length p _ 1048576 _ (by omega) (by omega) hn).mono ?_
  rintro e w1 ⟨r, rfl, hr, hb⟩
  replace HB := btrans HB hb
  replace A0 := blk_keep hb A0
  replace T0 := blk_keep hb T0
  clear hb x0 x1
  rcases hr with rfl | ⟨hr, hr0⟩
  · go_wp2
    go_ret
    exact ⟨rfl, HB⟩
  have hl : es.length ≤ 1048576 := by omega
  have hr1 : r ≤ 1048576 := by omega
  have hr2 : ¬ r < 0 := by omega
  clear hr
  go_wp2_with fail
  refine (cSzTrips ta tc ts r _ (hz.below HB) hr0 hr1 hB).mono ?_
  rintro e w2 ⟨r', rfl, hr, hb⟩
  replace HB := btrans HB hb
  replace A0 := blk_keep hb A0
  replace T0 := blk_keep hb T0
  clear hb
  rcases hr with rfl | ⟨hr3, hr4, hS⟩
  · go_wp2
    go_ret
    exact ⟨rfl, HB⟩
  have hr5 : ¬ r' < 0 := by omega
  have hr6 : r' ≤ 1048576 := by omega
  have hr7 : 0 ≤ r' := by omega
  clear hr4 hB
  obtain ⟨⟨x0, x1⟩, -⟩ := blk2 T0
  go_wp2_with fail
  refine (cSzTrip s ca cs.length cc r' _ hr7 hr6 hcn hsn).mono ?_
  rintro e w2b ⟨r2, rfl, hr, hb⟩
  replace HB := btrans HB hb
  replace A0 := blk_keep hb A0
  replace T0 := blk_keep hb T0
  clear hb x0 x1
  rcases hr with rfl | ⟨hr8, hr9⟩
  · go_wp2
    go_ret
    exact ⟨rfl, HB⟩
  have hr10 : ¬ r2 < 0 := by omega
  have hcl : cs.length ≤ 1048576 := by omega
  have hs : s.size ≤ 1048576 := by omega
  clear hr8 hcn hsn
  obtain ⟨⟨x0, x1⟩, -⟩ := blk2 A0
  obtain ⟨⟨y0, y1⟩, -⟩ := blk2 T0
  have hE := he.below HB.drew
  have ZW := fun w' (hb : Below w.heap.size w w') => cToTrips ta tc ts w' (hz.below hb) hS
  have CW := fun w' (hb : Below w.heap.size w w') => cToTrip s ca cc cs w' (hc.below hb) hcl
  go_wp2_with fail
  go_region_held3 (fun w' => w'.cell? ⟨w.heap.size, 0, none⟩ = some (.int .i64 n) ∧ w'.cell? ⟨w.heap.size, 1, none⟩ = some (.slice a es.length p) ∧ w'.cell? ⟨w.heap.size + 1, 0, none⟩ = some (.string s) ∧ w'.cell? ⟨w.heap.size + 1, 1, none⟩ = some (.slice ca cs.length cc)) (go_keep) (first
    | (go_at_call 41; with_reducible refine (cPushS _ _ n es _ _ ts s _ _ cs hd _ Pn hl Pt hS Pc hcl hs).mono ?_; rintro e w5 ⟨q1, rfl, hq1, hb5⟩; have B5 := btrans B4 hb5; have C5 := btrans C4 hb5; clear hb5; obtain ⟨⟨v0, v1⟩, -⟩ := blk2 (blk_keep C5 A0); obtain ⟨⟨v2, v3⟩, -⟩ := blk2 (blk_keep C5 T0))
    | (go_at_call 42; with_reducible refine (CW w4 B4').mono ?_; rintro e w4b ⟨g4, rfl, o4, hb4⟩; have B4 := btrans B4' hb4; have C4 := btrans C4' hb4; have Pn := (N1.below (btrans D3 hb4)).edges; have Pt := (o3.below hb4).read; have Pc := Halts.own o4; clear hb4; obtain ⟨⟨v0, v1⟩, -⟩ := blk2 (blk_keep C4 A0); obtain ⟨⟨v2, v3⟩, -⟩ := blk2 (blk_keep C4 T0))
    | (go_at_call 26; with_reducible refine (ZW w3 B3).mono ?_; rintro e w4 ⟨rfl, o3, hb3⟩; have B4' := btrans B3 hb3; have C4' := btrans C3 hb3; have D3 := hb3; clear hb3; obtain ⟨⟨v0, v1⟩, -⟩ := blk2 (blk_keep C4' A0); obtain ⟨⟨v2, v3⟩, -⟩ := blk2 (blk_keep C4' T0))
    | (go_at_call 25; with_reducible refine (cToNet a p n es _ hE hl).mono ?_; rintro e w3 ⟨g1, rfl, N1, hbp⟩; have C3 := undrew hbp; have B3 := btrans HB C3; clear hbp; obtain ⟨⟨v0, v1⟩, -⟩ := blk2 (blk_keep C3 A0); obtain ⟨⟨v2, v3⟩, -⟩ := blk2 (blk_keep C3 T0)))
  replace A0 := blk_keep C5 A0
  replace T0 := blk_keep C5 T0
  replace HB := B5
  replace hq1 := hide hq1
  clear v0 v1 v2 v3 x0 x1 y0 y1 Pn Pt Pc N1 o3 o4 B3 B4 B4' C3 C4 C4' D3 C5 hE
  obtain ⟨⟨x0, x1⟩, -⟩ := blk2 A0
  go_wp2_with fail
  refine (cToNet a p n es _ (he.below HB) hl).mono ?_
  rintro e w6 ⟨g2, rfl, N2, hb⟩
  replace HB := btrans HB hb
  replace A0 := blk_keep hb A0
  replace T0 := blk_keep hb T0
  clear hb x0 x1
  have X0 := one_block w6 (.cells #[.int .i64 n, .slice (some ⟨g2, 0, none⟩) es.length es.length] 26)
  have hb6 := balloc w6 (.cells #[.int .i64 n, .slice (some ⟨g2, 0, none⟩) es.length es.length] 26)
  replace HB := btrans HB hb6
  replace A0 := blk_keep hb6 A0
  replace T0 := blk_keep hb6 T0
  replace N2 := N2.below hb6
  clear hb6
  go_wp2_with fail
  refine (cToTrips ta tc ts _ (hz.below HB) hS).mono ?_
  rintro e w7 ⟨rfl, o2, hb⟩
  rw [sz1] at o2
  replace HB := btrans HB hb
  replace A0 := blk_keep hb A0
  replace T0 := blk_keep hb T0
  replace X0 := blk_keep hb X0
  replace N2 := N2.below hb
  clear hb
  obtain ⟨⟨x0, x1⟩, -⟩ := blk2 T0
  go_wp2_with fail
  refine (cToTrip s ca cc cs _ (hc.below HB) hcl).mono ?_
  rintro e w7b ⟨g3, rfl, o5, hb⟩
  replace HB := btrans HB hb
  replace A0 := blk_keep hb A0
  replace T0 := blk_keep hb T0
  replace X0 := blk_keep hb X0
  replace N2 := N2.below hb
  replace o2 := o2.below hb
  clear hb x0 x1
  have Y0 := one_block w7b (.cells #[.string s, .slice (some ⟨g3, 0, none⟩) cs.length cs.length] 35)
  have hb7 := balloc w7b (.cells #[.string s, .slice (some ⟨g3, 0, none⟩) cs.length cs.length] 35)
  replace HB := btrans HB hb7
  replace A0 := blk_keep hb7 A0
  replace T0 := blk_keep hb7 T0
  replace X0 := blk_keep hb7 X0
  replace N2 := N2.below hb7
  replace o2 := o2.below hb7
  have H5 := (Halts.own o5).below hb7
  clear hb7 o5
  obtain ⟨⟨x0, x1⟩, -⟩ := blk2 X0
  obtain ⟨⟨y0, y1⟩, -⟩ := blk2 Y0
  go_wp2_with fail
  refine (cPushI _ _ n es _ _ _ ts s _ _ cs hd _ N2.edges hl o2.read hS H5 hcl (Nat.le_refl _) hs).mono ?_
  rintro e w8 ⟨q2, rfl, hq2, hb⟩
  replace HB := btrans HB hb
  replace A0 := blk_keep hb A0
  replace T0 := blk_keep hb T0
  replace X0 := blk_keep hb X0
  replace Y0 := blk_keep hb Y0
  replace N2 := N2.below hb
  replace o2 := o2.below hb
  replace H5 := H5.below hb
  have hqq := hq1.out.uniq hq2
  subst hqq
  clear hb hq1 hq2 x0 x1 y0 y1
  obtain ⟨⟨x0, x1⟩, -⟩ := blk2 X0
  obtain ⟨⟨y0, y1⟩, -⟩ := blk2 A0
  have hE := he.below HB.drew
  go_wp2_with fail
  go_region_held3 (fun w' => w'.cell? ⟨w6.heap.size, 0, none⟩ = some (.int .i64 n) ∧ w'.cell? ⟨w6.heap.size, 1, none⟩ = some (.slice (some ⟨g2, 0, none⟩) es.length es.length) ∧ w'.cell? ⟨w.heap.size, 0, none⟩ = some (.int .i64 n) ∧ w'.cell? ⟨w.heap.size, 1, none⟩ = some (.slice a es.length p)) (go_keep) (first
    | (go_at_call 28; with_reducible refine (cEqNet _ _ _ _ n es _ P2 P3 hl).mono ?_; rintro e wb ⟨rfl, hbb⟩; have Bb := btrans Bp hbb; clear hbb; obtain ⟨⟨v0, v1⟩, -⟩ := blk2 (blk_keep Bb X0); obtain ⟨⟨v2, v3⟩, -⟩ := blk2 (blk_keep Bb A0))
    | (go_at_call 25; with_reducible refine (cToNet a p n es _ hE hl).mono ?_; rintro e wp ⟨g4, rfl, N3, hbp⟩; have Bp := undrew hbp; have P2 := (N2.below Bp).edges; have P3 := N3.edges; clear hbp; obtain ⟨⟨v0, v1⟩, -⟩ := blk2 (blk_keep Bp X0); obtain ⟨⟨v2, v3⟩, -⟩ := blk2 (blk_keep Bp A0)))
  clear v0 v1 v2 v3 P2 P3 N3 N2
  replace HB := btrans HB Bb
  replace o2 := o2.below Bb
  replace T0 := blk_keep Bb T0
  replace Y0 := blk_keep Bb Y0
  replace H5 := H5.below Bb
  clear Bb Bp hE A0 X0 x0 x1 y0 y1
  go_wp2_with fail
  refine (cToTrips ta tc ts _ (hz.below HB) hS).mono ?_
  rintro e w9 ⟨rfl, o3, hb⟩
  replace HB := btrans HB hb
  replace o2 := o2.below hb
  replace T0 := blk_keep hb T0
  replace Y0 := blk_keep hb Y0
  replace H5 := H5.below hb
  clear hb
  go_wp2_with fail
  refine (cEqTrips _ _ _ _ ts _ o2.read o3.read hS).mono ?_
  rintro e w10 ⟨rfl, hb⟩
  replace HB := btrans HB hb
  replace T0 := blk_keep hb T0
  replace Y0 := blk_keep hb Y0
  replace H5 := H5.below hb
  clear hb o2 o3
  obtain ⟨⟨x0, x1⟩, -⟩ := blk2 Y0
  obtain ⟨⟨y0, y1⟩, -⟩ := blk2 T0
  have hE := hc.below HB.drew
  go_wp2_with fail
  go_region_held3 (fun w' => w'.cell? ⟨w7b.heap.size, 0, none⟩ = some (.string s) ∧ w'.cell? ⟨w7b.heap.size, 1, none⟩ = some (.slice (some ⟨g3, 0, none⟩) cs.length cs.length) ∧ w'.cell? ⟨w.heap.size + 1, 0, none⟩ = some (.string s) ∧ w'.cell? ⟨w.heap.size + 1, 1, none⟩ = some (.slice ca cs.length cc)) (go_keep) (first
    | (go_at_call 44; with_reducible refine (cEqTrip s _ _ _ _ cs _ P2 P3 hcl).mono ?_; rintro e wb ⟨rfl, hbb⟩; have Bb := btrans Bp hbb; clear hbb; obtain ⟨⟨v0, v1⟩, -⟩ := blk2 (blk_keep Bb Y0); obtain ⟨⟨v2, v3⟩, -⟩ := blk2 (blk_keep Bb T0))
    | (go_at_call 42; with_reducible refine (cToTrip s ca cc cs _ hE hcl).mono ?_; rintro e wp ⟨g5, rfl, o6, hbp⟩; have Bp := undrew hbp; have P2 := H5.below Bp; have P3 := Halts.own o6; clear hbp; obtain ⟨⟨v0, v1⟩, -⟩ := blk2 (blk_keep Bp Y0); obtain ⟨⟨v2, v3⟩, -⟩ := blk2 (blk_keep Bp T0)))
  replace HB := btrans HB Bb
  go_wp2
  go_ret
  exact ⟨rfl, HB⟩
end Go.Proofs.Ytbghfihlpbcomaa
