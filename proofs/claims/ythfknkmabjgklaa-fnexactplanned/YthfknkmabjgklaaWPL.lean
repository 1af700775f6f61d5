/- The law of Planned. -/
import Derived.Test.YthfknkmabjgklaaPQ
namespace Go.Proofs.Ythfknkmabjgklaa
open Go.RowKit
theorem ans_one {n : Int} {es : List EdgeV} {ts : List TripV} {xs ys : List RunV} (h1 : xs.Perm (runsTo (lgOf n es ts) ts.length)) (h2 : SortR xs) (h3 : ys.Perm (runsTo (lgOf n es ts) ts.length)) (h4 : SortR ys) : xs = ys :=
  pair_unique (h1.trans h3.symm) (sortR_pair h2) (sortR_pair h4) (fun _ hx _ hy => runs_one (h1.subset hx) (h1.subset hy))
open Classical in
/-- The plan. -/
noncomputable def planL (n : Int) (es : List EdgeV) (ts : List TripV) : List RunV := if h : ∃ rs : List RunV, rs.Perm (runsTo (lgOf n es ts) ts.length) ∧ SortR rs then Classical.choose h else []
theorem planL_is {n : Int} {es : List EdgeV} {ts : List TripV} {rs : List RunV} (h1 : rs.Perm (runsTo (lgOf n es ts) ts.length)) (h2 : SortR rs) : rs = planL n es ts := by
  have hx : ∃ rs : List RunV, rs.Perm (runsTo (lgOf n es ts) ts.length) ∧ SortR rs := ⟨rs, h1, h2⟩
  unfold planL
  rw [dif_pos hx]
  exact ans_one h1 h2 (Classical.choose_spec hx).1 (Classical.choose_spec hx).2
theorem planL_small (n : Int) (es : List EdgeV) (ts : List TripV) : (planL n es ts).length ≤ 264 := by
  by_cases hx : ∃ rs : List RunV, rs.Perm (runsTo (lgOf n es ts) ts.length) ∧ SortR rs
  · obtain ⟨rs, h1, h2⟩ := hx
    rw [← planL_is h1 h2, h1.length_eq]
    exact lgOf_small n es ts _ (Nat.le_refl _)
  · unfold planL
    rw [dif_neg hx]; simp
theorem AnsPlan.one {w w' : World} {n : Int} {es : List EdgeV} {ts : List TripV} {e : Ending} (h : AnsPlan w (runsTo (lgOf n es ts) ts.length) e w') : ∃ v, e = .returned v ∧ w'.ownsRow w.heap.size 72 4 v (planL n es ts).length (flatRuns (planL n es ts)) ∧ Below w.heap.size w w' := by
  obtain ⟨v, rs, rfl, h1, h2, h3, h4⟩ := h
  rw [planL_is h1 h2] at h3
  exact ⟨v, rfl, h3, h4⟩
set_option maxRecDepth 20000 in
set_option maxHeartbeats 6400000 in
theorem walkPlanned (n : Int) (a : Option Addr) (p : Nat) (es : List EdgeV) (ta : Option Addr) (tc : Nat) (ts : List TripV) (w : World) (he : Edges w a es) (hn : es.length ≤ maxLen) (hz : Trips w ta ts) (hB : Big ts) :
    Calls Try.prog 4 #[.agg #[.int .i64 n, .slice a es.length p], .slice ta ts.length tc] w fun e w' => e = .returned (.bool true) ∧ Below w.heap.size w w' := by
  have A0 := one_block w (.cells #[.int .i64 n, .slice a es.length p] 24)
  have HB := balloc w (.cells #[.int .i64 n, .slice a es.length p] 24)
  go_enter Try.func4, Try.ntmps4
  go_wp2_with fail
  refine (cSzNet a es.length p _ 1048576 _ (by omega) (by omega) hn).mono ?_
  rintro e w1 ⟨r, rfl, hr, hb⟩
  replace HB := btrans HB hb
  replace A0 := blk_keep hb A0
  clear hb
  rcases hr with rfl | ⟨hr, hr0⟩
  · go_wp2
    go_ret
    exact ⟨rfl, HB⟩
  have hl : es.length ≤ 1048576 := by omega
  have hr1 : r ≤ 1048576 := by omega
  have hr2 : ¬ r < 0 := by omega
  clear hr
  go_wp2_with fail
  refine (cSzTrips ta tc ts r _ (hz.below HB) hr0 hr1 hB).mono ?_
  rintro e w2 ⟨r', rfl, hr, hb⟩
  replace HB := btrans HB hb
  replace A0 := blk_keep hb A0
  clear hb
  rcases hr with rfl | ⟨hr3, hr4, hS⟩
  · go_wp2
    go_ret
    exact ⟨rfl, HB⟩
  have hr5 : ¬ r' < 0 := by omega
  clear hr4 hB
  obtain ⟨⟨x0, x1⟩, -⟩ := blk2 A0
  go_wp2_with fail
  refine (cToNet a p n es _ (he.below HB) hl).mono ?_
  rintro e w3 ⟨g1, rfl, N1, hb⟩
  replace HB := btrans HB hb
  replace A0 := blk_keep hb A0
  clear hb x0 x1
  go_wp2_with fail
  refine (cToTrips ta tc ts _ (hz.below HB) hS).mono ?_
  rintro e w4 ⟨rfl, o1, hb⟩
  replace HB := btrans HB hb
  replace A0 := blk_keep hb A0
  replace N1 := N1.below hb
  clear hb
  go_wp2_with fail
  refine (cPlanS _ _ n es _ _ ts _ N1.edges hl o1.read hS).mono ?_
  rintro e w5 hA5
  obtain ⟨v5, rfl, O5, hb⟩ := hA5.one
  have hs5 := HB.size
  replace HB := btrans HB hb
  replace A0 := blk_keep hb A0
  have hLn := hide (planL_small n es ts)
  generalize hLL : planL n es ts = L at *
  replace hLL := hide hLL
  replace O5 := own_base O5 hs5
  have hB5 := own_blk_lt O5
  have hA5lt := lt_of_block A0
  clear hb N1 o1 hA5 hs5
  obtain ⟨⟨x0, x1⟩, -⟩ := blk2 A0
  go_wp2_with fail
  refine (cToNet a p n es _ (he.below HB) hl).mono ?_
  rintro e w6 ⟨g2, rfl, N2, hb⟩
  have hs6 := HB.size
  have hg2 := own_from N2 (Nat.le_refl _) g2 rfl
  have hs6b := hb.size
  replace O5 := own_keep O5 hb
  replace HB := btrans HB hb
  replace A0 := blk_keep hb A0
  clear hb x0 x1
  have X0 := one_block w6 (.cells #[.int .i64 n, .slice (some ⟨g2, 0, none⟩) es.length es.length] 32)
  have hb6 := balloc w6 (.cells #[.int .i64 n, .slice (some ⟨g2, 0, none⟩) es.length es.length] 32)
  replace HB := btrans HB hb6
  replace A0 := blk_keep hb6 A0
  replace N2 := N2.below hb6
  replace O5 := own_keep O5 hb6
  clear hb6
  go_wp2_with fail
  refine (cToTripsA ta tc ts _ (hz.below HB) hS).mono ?_
  rintro e w7 ⟨rfl, o2, T2, hb⟩
  rw [sz1] at o2 T2
  have hs7 := hb.size
  rw [sz1] at hs7
  have hg7 : w6.heap.size + 1 < w7.heap.size := by obtain ⟨_, _, h, _⟩ := o2; exact owns_lt h
  have hg2' := owns_lt N2
  rw [sz1] at hg2'
  replace O5 := own_keep O5 hb
  replace HB := btrans HB hb
  replace A0 := blk_keep hb A0
  replace X0 := blk_keep hb X0
  replace N2 := N2.below hb
  clear hb
  obtain ⟨⟨x0, x1⟩, -⟩ := blk2 X0
  go_wp2_with fail
  refine (cPlanI _ _ n es _ _ ts _ N2.edges hl o2.read hS).mono ?_
  rintro e w8 hA8
  obtain ⟨v8, rfl, O8, hb⟩ := hA8.one
  rw [hLL.out] at O8
  have hB8 := own_from O8 (Nat.le_refl _)
  replace O5 := own_keep O5 hb
  replace T2 := T2.below hb
  clear hA8
  replace HB := btrans HB hb
  replace A0 := blk_keep hb A0
  replace X0 := blk_keep hb X0
  replace N2 := N2.below hb
  replace o2 := o2.below hb
  clear hb x0 x1
  have hL20 : L.length ≤ 1048576 := by have := hLn.out; omega
  go_wp2_with fail
  refine (cEqRunsn L.length _ _ v8 v5 L _ (.inl O8) (.inl O5) hL20).mono ?_
  rintro e w8b ⟨rfl, hb⟩
  replace HB := btrans HB hb
  replace A0 := blk_keep hb A0
  replace X0 := blk_keep hb X0
  replace N2 := N2.below hb
  replace o2 := o2.below hb
  replace T2 := T2.below hb
  replace O5 := own_keep O5 hb
  replace O8 := own_keep O8 hb
  clear hb
  obtain ⟨⟨x0, x1⟩, -⟩ := blk2 X0
  obtain ⟨⟨y0, y1⟩, -⟩ := blk2 A0
  have hE := he.below HB.drew
  go_wp2_with fail
  go_region_held3 (fun w' => w'.cell? ⟨w6.heap.size, 0, none⟩ = some (.int .i64 n) ∧ w'.cell? ⟨w6.heap.size, 1, none⟩ = some (.slice (some ⟨g2, 0, none⟩) es.length es.length) ∧ w'.cell? ⟨w.heap.size, 0, none⟩ = some (.int .i64 n) ∧ w'.cell? ⟨w.heap.size, 1, none⟩ = some (.slice a es.length p)) (go_keep) (first
    | (go_at_call 13; with_reducible refine (cEqNet _ _ _ _ n es _ P2 P3 hl).mono ?_; rintro e wb ⟨rfl, hbb⟩; have Bb := btrans Bp hbb; clear hbb; obtain ⟨⟨v0, v1⟩, -⟩ := blk2 (blk_keep Bb X0); obtain ⟨⟨v2, v3⟩, -⟩ := blk2 (blk_keep Bb A0))
    | (go_at_call 9; with_reducible refine (cToNet a p n es _ hE hl).mono ?_; rintro e wp ⟨g4, rfl, N3, hbp⟩; have Bp := undrew hbp; have P2 := (N2.below Bp).edges; have P3 := N3.edges; clear hbp; obtain ⟨⟨v0, v1⟩, -⟩ := blk2 (blk_keep Bp X0); obtain ⟨⟨v2, v3⟩, -⟩ := blk2 (blk_keep Bp A0)))
  clear v0 v1 v2 v3 P2 P3 N3
  replace HB := btrans HB Bb
  replace o2 := o2.below Bb
  replace T2 := T2.below Bb
  replace N2 := N2.below Bb
  replace O5 := own_keep O5 Bb
  replace O8 := own_keep O8 Bb
  replace A0 := blk_keep Bb A0
  replace X0 := blk_keep Bb X0
  clear Bb Bp hE x0 x1 y0 y1
  go_wp2_with fail
  refine (cToTrips ta tc ts _ (hz.below HB) hS).mono ?_
  rintro e w9 ⟨rfl, o3, hb⟩
  replace HB := btrans HB hb
  replace o2 := o2.below hb
  replace T2 := T2.below hb
  replace N2 := N2.below hb
  replace O5 := own_keep O5 hb
  replace O8 := own_keep O8 hb
  replace A0 := blk_keep hb A0
  replace X0 := blk_keep hb X0
  clear hb
  go_wp2_with fail
  refine (cEqTrips _ _ _ _ ts _ o2.read o3.read hS).mono ?_
  rintro e w10 ⟨rfl, hb⟩
  replace HB := btrans HB hb
  replace T2 := T2.below hb
  replace N2 := N2.below hb
  replace O5 := own_keep O5 hb
  replace O8 := own_keep O8 hb
  replace A0 := blk_keep hb A0
  replace X0 := blk_keep hb X0
  clear hb o2 o3
  obtain ⟨⟨x0, x1⟩, -⟩ := blk2 X0
  go_wp2_with fail
  refine (cMarkNet _ g2 n es _ N2 hl).mono ?_
  rintro e w11 ⟨rfl, G11⟩
  clear x0 x1
  have hbl5 : ∀ k, v5.ownBlock = some k → k < w5.heap.size := hB5
  replace T2 := T2.far G11 (by omega)
  replace O5 := own_far O5 G11 (fun k hk e => by cases e; have := hbl5 _ hk; omega)
  replace O8 := own_far O8 G11 (fun k hk e => by cases e; have := hB8 _ hk; omega)
  replace A0 := far_blk G11 A0 (fun j e => by cases e; omega)
  replace HB := grow_below HB G11 (fun k e => by cases e; omega)
  clear G11 N2 X0
  go_wp2_with fail
  refine (cMarkTrips _ _ ts _ _ T2 (by omega) hS (by omega) (by omega)).mono ?_
  rintro e w12 ⟨k12, rfl, hk12, S12⟩
  have hk0 : ¬ k12 < 0 := by omega
  replace hk12 := hide hk12
  replace O5 := own_span O5 S12 (fun k hk => .inl (by have := hbl5 _ hk; omega))
  replace O8 := own_span O8 S12 (fun k hk => .inr (hB8 _ hk))
  replace A0 := span_blk S12 A0 (.inl (by omega))
  replace HB := S12.below HB (by omega)
  clear S12 T2
  go_wp2_with fail
  refine (cEqRunsn L.length _ _ v8 v5 L _ (.inl O8) (.inl O5) hL20).mono ?_
  rintro e w13 ⟨rfl, hb⟩
  replace HB := btrans HB hb
  replace A0 := blk_keep hb A0
  replace O5 := own_keep O5 hb
  replace O8 := own_keep O8 hb
  clear hb
  go_wp2_with fail
  refine (cMarkRuns _ L.length v8 L 1 _ (.inl O8) hL20 (by omega) (by omega)).mono ?_
  rintro e w14 ⟨rfl, R8, r, G14, hr⟩
  replace O5 := own_far O5 G14 (fun k hk e => by have h1 := hbl5 _ hk; have h2 := hB8 k (hr k e.symm).2; omega)
  replace A0 := far_blk G14 A0 (fun j e => by have h2 := hB8 j (hr j e).2; omega)
  replace HB := grow_below HB G14 (fun k e => by have h2 := hB8 k (hr k e).2; omega)
  clear G14 O8
  have hneg : ¬ ((1 : Int) + 4 * (L.length : Int) < 0) := by omega
  go_wp2_with fail
  refine (cHeldRuns _ L.length v8 1 _ R8 hL20 (by omega) (by omega)).mono ?_
  rintro e w15 ⟨rfl, hw⟩
  subst w15
  obtain ⟨⟨x0, x1⟩, -⟩ := blk2 A0
  go_wp2_with fail
  refine (cToNet a p n es _ (he.below HB) hl).mono ?_
  rintro e w16 ⟨g4, rfl, N4, hb⟩
  replace HB := btrans HB hb
  replace O5 := own_keep O5 hb
  replace R8 := R8.keep hb
  clear hb x0 x1 A0
  go_wp2_with fail
  refine (cToTrips ta tc ts _ (hz.below HB) hS).mono ?_
  rintro e w17 ⟨rfl, o4, hb⟩
  replace HB := btrans HB hb
  replace O5 := own_keep O5 hb
  replace R8 := R8.keep hb
  replace N4 := N4.below hb
  clear hb
  go_wp2_with fail
  refine (cPlanI _ _ n es _ _ ts _ N4.edges hl o4.read hS).mono ?_
  rintro e w18 hA
  obtain ⟨v9, rfl, O9, hb⟩ := hA.one
  rw [hLL.out] at O9
  replace HB := btrans HB hb
  replace O5 := own_keep O5 hb
  replace R8 := R8.keep hb
  clear hb hA N4 o4
  go_wp2_with fail
  refine (cEqRunsn L.length _ _ v9 v5 L _ (.inl O9) (.inl O5) hL20).mono ?_
  rintro e w19 ⟨rfl, hb⟩
  replace HB := btrans HB hb
  replace R8 := R8.keep hb
  clear hb O9 O5
  go_wp2_with fail
  refine (cHeldRuns _ L.length v8 1 _ R8 hL20 (by omega) (by omega)).mono ?_
  rintro e w20 ⟨rfl, hw⟩
  subst w20
  clear R8
  go_wp2
  go_ret
  exact ⟨rfl, HB⟩
end Go.Proofs.Ythfknkmabjgklaa
