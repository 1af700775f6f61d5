/- Ridden of the program; the walk of the law on Ridden. -/
import Derived.Test.YtbghfihlpbcomaaUB
import Derived.Test.YtbghfihlpbcomaaND
namespace Go.Proofs.Ytbghfihlpbcomaa
open Go.RowKit

theorem iff_same {P : Prop} {a b : Bool} (h1 : a = true ↔ P) (h2 : b = true ↔ P) : b = a := by
  have h := h1.trans h2.symm
  cases a <;> cases b <;> simp_all

set_option maxHeartbeats 1600000 in
theorem cRiddenI (a : Option Addr) (cap : Nat) (n : Int) (es : List EdgeV) (ta : Option Addr) (tc : Nat) (ts : List TripV) (w : World) (he : Edges w a es) (hl : es.length ≤ 1048576) (hz : Trips w ta ts) (hS : Small ts) :
    Calls Try.prog 27 #[.agg #[.int .i64 n, .slice a es.length cap], .slice ta ts.length tc] w (AnsIff w (Ridden n es ts)) := by
  have hW := balloc w (.cells #[.int .i64 n, .slice a es.length cap] 26)
  go_enter Try.func27, Try.ntmps27
  go_wp2_with fail
  refine (cUsesOf a cap n es ta tc ts _ (he.below hW) hl (hz.below hW) hS).mono ?_
  rintro e w1 ⟨hb1, hA⟩
  have HB := btrans hW hb1
  clear hW hb1
  rcases hA with ⟨hR, v, rfl, ho⟩ | ⟨hR, rfl⟩
  · replace hR := hide hR
    clear ho
    go_wp2
    go_ret
    exact AnsIff.yes hR.out HB
  · replace hR := hide hR
    go_wp2
    go_ret
    exact AnsIff.no hR.out HB

set_option maxRecDepth 20000 in
set_option maxHeartbeats 800000 in
theorem walkRidden (n : Int) (a : Option Addr) (p : Nat) (es : List EdgeV) (ta : Option Addr) (tc : Nat) (ts : List TripV) (w : World) (he : Edges w a es) (hn : es.length ≤ maxLen) (hz : Trips w ta ts) (hB : Big ts) :
    Calls Try.prog 5 #[.agg #[.int .i64 n, .slice a es.length p], .slice ta ts.length tc] w fun e w' => e = .returned (.bool true) ∧ Below w.heap.size w w' := by
  have A0 := one_block w (.cells #[.int .i64 n, .slice a es.length p] 48)
  have HB := balloc w (.cells #[.int .i64 n, .slice a es.length p] 48)
  go_enter Try.func5, Try.ntmps5
  go_wp2_with fail
  refine (cSzNet a es.length p _ 1048576 _ (by omega) (by omega) hn).mono ?_
  rintro e w1 ⟨r, rfl, hr, hb⟩
  replace HB := btrans HB hb
  replace A0 := blk_keep hb A0
  clear hb
  rcases hr with rfl | ⟨hr, hr0⟩
  · go_wp2
    go_ret
    exact ⟨rfl, HB⟩
  have hl : es.length ≤ 1048576 := by omega
  have hr1 : r ≤ 1048576 := by omega
  have hr2 : ¬ r < 0 := by omega
  clear hr
  go_wp2_with fail
  refine (cSzTrips ta tc ts r _ (hz.below HB) hr0 hr1 hB).mono ?_
  rintro e w2 ⟨r', rfl, hr, hb⟩
  replace HB := btrans HB hb
  replace A0 := blk_keep hb A0
  clear hb
  rcases hr with rfl | ⟨hr3, hr4, hS⟩
  · go_wp2
    go_ret
    exact ⟨rfl, HB⟩
  have hr5 : ¬ r' < 0 := by omega
  clear hr4 hB
  obtain ⟨⟨x0, x1⟩, -⟩ := blk2 A0
  go_wp2_with fail
  refine (cToNet a p n es _ (he.below HB) hl).mono ?_
  rintro e w3 ⟨g1, rfl, N1, hb⟩
  replace HB := btrans HB hb
  replace A0 := blk_keep hb A0
  clear hb x0 x1
  go_wp2_with fail
  refine (cToTrips ta tc ts _ (hz.below HB) hS).mono ?_
  rintro e w4 ⟨rfl, o1, hb⟩
  replace HB := btrans HB hb
  replace A0 := blk_keep hb A0
  replace N1 := N1.below hb
  clear hb
  go_wp2_with fail
  refine (cRiddenS _ _ n es _ _ ts _ N1.edges hl o1.read hS).mono ?_
  rintro e w5 ⟨q1, rfl, hq1, hb⟩
  replace HB := btrans HB hb
  replace A0 := blk_keep hb A0
  replace hq1 := hide hq1
  clear hb N1 o1
  obtain ⟨⟨x0, x1⟩, -⟩ := blk2 A0
  go_wp2_with fail
  refine (cToNet a p n es _ (he.below HB) hl).mono ?_
  rintro e w6 ⟨g2, rfl, N2, hb⟩
  replace HB := btrans HB hb
  replace A0 := blk_keep hb A0
  clear hb x0 x1
  have X0 := one_block w6 (.cells #[.int .i64 n, .slice (some ⟨g2, 0, none⟩) es.length es.length] 26)
  have hb6 := balloc w6 (.cells #[.int .i64 n, .slice (some ⟨g2, 0, none⟩) es.length es.length] 26)
  replace HB := btrans HB hb6
  replace A0 := blk_keep hb6 A0
  replace N2 := N2.below hb6
  clear hb6
  go_wp2_with fail
  refine (cToTrips ta tc ts _ (hz.below HB) hS).mono ?_
  rintro e w7 ⟨rfl, o2, hb⟩
  rw [sz1] at o2
  replace HB := btrans HB hb
  replace A0 := blk_keep hb A0
  replace X0 := blk_keep hb X0
  replace N2 := N2.below hb
  clear hb
  obtain ⟨⟨x0, x1⟩, -⟩ := blk2 X0
  go_wp2_with fail
  refine (cRiddenI _ _ n es _ _ ts _ N2.edges hl o2.read hS).mono ?_
  rintro e w8 ⟨q2, rfl, hq2, hb⟩
  replace HB := btrans HB hb
  replace A0 := blk_keep hb A0
  replace X0 := blk_keep hb X0
  replace N2 := N2.below hb
  replace o2 := o2.below hb
  have hqq := iff_same hq1.out hq2
  subst hqq
  clear hb hq1 hq2 x0 x1
  obtain ⟨⟨x0, x1⟩, -⟩ := blk2 X0
  obtain ⟨⟨y0, y1⟩, -⟩ := blk2 A0
  have hE := he.below HB.drew
  go_wp2_with fail
  go_region_held3 (fun w' => w'.cell? ⟨w6.heap.size, 0, none⟩ = some (.int .i64 n) ∧ w'.cell? ⟨w6.heap.size, 1, none⟩ = some (.slice (some ⟨g2, 0, none⟩) es.length es.length) ∧ w'.cell? ⟨w.heap.size, 0, none⟩ = some (.int .i64 n) ∧ w'.cell? ⟨w.heap.size, 1, none⟩ = some (.slice a es.length p)) (go_keep) (first
    | (go_at_call 28; with_reducible refine (cEqNet _ _ _ _ n es _ P2 P3 hl).mono ?_; rintro e wb ⟨rfl, hbb⟩; have Bb := btrans Bp hbb; clear hbb; obtain ⟨⟨v0, v1⟩, -⟩ := blk2 (blk_keep Bb X0); obtain ⟨⟨v2, v3⟩, -⟩ := blk2 (blk_keep Bb A0))
    | (go_at_call 25; with_reducible refine (cToNet a p n es _ hE hl).mono ?_; rintro e wp ⟨g4, rfl, N3, hbp⟩; have Bp := undrew hbp; have P2 := (N2.below Bp).edges; have P3 := N3.edges; clear hbp; obtain ⟨⟨v0, v1⟩, -⟩ := blk2 (blk_keep Bp X0); obtain ⟨⟨v2, v3⟩, -⟩ := blk2 (blk_keep Bp A0)))
  clear v0 v1 v2 v3 P2 P3 N3 N2
  replace HB := btrans HB Bb
  replace o2 := o2.below Bb
  clear Bb Bp hE A0 X0 x0 x1 y0 y1
  go_wp2_with fail
  refine (cToTrips ta tc ts _ (hz.below HB) hS).mono ?_
  rintro e w9 ⟨rfl, o3, hb⟩
  replace HB := btrans HB hb
  replace o2 := o2.below hb
  clear hb
  go_wp2_with fail
  refine (cEqTrips _ _ _ _ ts _ o2.read o3.read hS).mono ?_
  rintro e w10 ⟨rfl, hb⟩
  replace HB := btrans HB hb
  go_wp2
  go_ret
  exact ⟨rfl, HB⟩
end Go.Proofs.Ytbghfihlpbcomaa
