/- legsOf of the program. -/
import Derived.Test.YthfknkmabjgklaaLM
import Derived.Deep.AppendLies
namespace Go.Proofs.Ythfknkmabjgklaa
open Go.RowKit
theorem infoUseS : (Try.prog.info? 76).map (fun i => (i.zero, i.size, i.bytes)) = some (some (.slice none 0 0), 1, 24) := by kernel_rfl
theorem rowU_le (us : List RideV) (i : Nat) : (rowU us i).length ≤ us.length := List.length_filter_le _ _
theorem LegT.base {B B2 : Nat} {w : World} {g N : Nat} {vs : List Value} {us : List RideV} (h : LegT B B2 w g N vs us) (hb : B ≤ B2) : LegT B B w g N vs us := ⟨h.own, fun i hi => own_base (h.each i hi) hb, h.pair⟩
def AnsLegs (w : World) (es : List EdgeV) (ts : List TripV) (e : Ending) (w' : World) : Prop :=
  ∃ g vs, e = .returned (.slice (some ⟨g, 0, none⟩) ts.length ts.length) ∧ LegT w.heap.size w.heap.size w' g ts.length vs (usesL es ts) ∧ Below w.heap.size w w'
set_option maxRecDepth 100000 in
set_option maxHeartbeats 6400000 in
theorem cLegs (a : Option Addr) (cap : Nat) (n : Int) (es : List EdgeV) (ta : Option Addr) (tc : Nat) (ts : List TripV) (w : World) (he : Edges w a es) (hl : es.length ≤ 1048576) (hz : Trips w ta ts) (hS : Small ts) (hR : Ridden n es ts) :
    Calls Try.prog 39 #[.agg #[.int .i64 n, .slice a es.length cap], .slice ta ts.length tc] w (AnsLegs w es ts) := by
  have hW := balloc w (.cells #[.int .i64 n, .slice a es.length cap] 32)
  have X0 := one_block w (.cells #[.int .i64 n, .slice a es.length cap] 32)
  obtain ⟨i0, hi, hz0, hz1, hz2⟩ := info_parts infoUseS
  obtain ⟨i1, hi1, hy0, hy1, hy2⟩ := info_parts infoRides
  have hSl := hS.1
  have hun : (usesL es ts).length ≤ 264 := by have := lstU_small n es ts; unfold lstU at this; rw [if_pos hR] at this; exact this
  have hpp := hide (fun u hu => uses_p (es := es) (ts := ts) ts.length u hu)
  go_enter Try.func39, Try.ntmps39
  go_wp2_with (at_make; refine wpList_make_full _ rfl _ _ 74 rfl (w.alloc (.cells #[.int .i64 n, .slice a es.length cap] 32)).heap.size 76 i0 (.slice none 0 0) 1 Try.underlying74 hi hz0 hz1 _ _ _ _ ts.length rfl rfl rfl rfl (by rw [hz2]; omega) (by unfold maxLen; omega) (Nat.le_refl _) ?_; intro w1 hown hgrow; have hbel : Below (w.alloc (.cells #[.int .i64 n, .slice a es.length cap] 32)).heap.size (w.alloc (.cells #[.int .i64 n, .slice a es.length cap] 32)) w1 := (Below.refl _ _).grown hgrow (Nat.le_refl _) (fun k hk => by cases hk); obtain ⟨⟨x0, x1⟩, -⟩ := blk2 (blk_keep hbel X0))
  have hsz : w.heap.size ≤ (w.alloc (.cells #[.int .i64 n, .slice a es.length cap] 32)).heap.size := hW.size
  have hown' : w1.ownsRow w.heap.size 76 1 (.slice (some ⟨(w.alloc (.cells #[.int .i64 n, .slice a es.length cap] 32)).heap.size, 0, none⟩) ts.length ts.length) ts.length (List.replicate ts.length (.slice none 0 0)) := own_base (by simpa [toList_madeCells_one, Value.cells] using hown) hsz
  have L0 : ∀ B2, LegT w.heap.size B2 w1 (w.alloc (.cells #[.int .i64 n, .slice a es.length cap] 32)).heap.size ts.length (List.replicate ts.length (.slice none 0 0)) ((usesL es ts).take 0) := fun B2 => ⟨hown', fun i hi => by
    rw [List.getElem_replicate]; exact World.ownsRow_nil _ _ _ _, fun i j hi hj hne k hk => by rw [List.getElem_replicate] at hk; simp [Value.ownBlock] at hk⟩
  have HB := btrans hW hbel
  have he1 := he.below HB
  have hz1' := hz.below HB
  have hsz2 : (w.alloc (.cells #[.int .i64 n, .slice a es.length cap] 32)).heap.size = w.heap.size + 1 := by simp
  simp only [hsz2] at L0
  clear hown hgrow hown' hW X0 hbel hsz hsz2
  have hsw : w.heap.size ≤ w1.heap.size := HB.size
  refine (cUsesI a cap n es ta tc ts w1 he1 hl hz1' hS).mono ?_
  rintro e w2 ⟨hb, hA⟩
  replace HB := btrans HB hb
  replace L0 := (L0 w2.heap.size).below hb
  rcases hA with ⟨-, v, rfl, ho⟩ | ⟨hno, -⟩
  case inr => exact absurd hR hno
  have hB2 : w.heap.size ≤ w2.heap.size := HB.size
  replace ho := own_base ho hsw
  obtain ⟨va, vc, rfl⟩ := own_form ho
  obtain ⟨K, hK⟩ : ∃ K, (usesL es ts).length = K := ⟨_, rfl⟩
  rw [hK] at ho hun ⊢
  replace hK := hide hK
  replace hR := hide hR
  clear hb he1 hz1' x0 x1 he hz
  obtain ⟨B, hBw⟩ : ∃ B, B = w.heap.size := ⟨_, rfl⟩
  obtain ⟨g, hgw⟩ : ∃ g, g = w.heap.size + 1 := ⟨_, rfl⟩
  obtain ⟨N, hN⟩ : ∃ N, N = ts.length := ⟨_, rfl⟩
  obtain ⟨B2, hB2w⟩ : ∃ B2, B2 = w2.heap.size := ⟨_, rfl⟩
  rw [← hgw, ← hBw, ← hN, ← hB2w] at L0
  rw [← hBw] at ho HB hB2
  have hBB : B ≤ B2 := by omega
  have hvB : ∀ x, (Value.slice va K vc).ownBlock = some x → x < B2 := fun x hx => by rw [hB2w]; exact own_blk_lt ho x hx
  have hgB : B ≤ g := by omega
  have hpN : Hid (∀ u ∈ usesL es ts, ∃ i : Nat, i < N ∧ u.p = (i : Int)) := hide (fun u hu => by rw [hN]; exact hpp.out u hu)
  have hNl : N ≤ 1048576 := by omega
  go_wp2
  rw [← hgw, ← hN]
  have fin : ∀ wr vs, LegT B B2 wr g N vs (usesL es ts) → Below B w wr → AnsLegs w es ts (.returned (.slice (some ⟨g, 0, none⟩) N N)) wr := fun wr vs h1 h2 => ⟨g, vs, by rw [hN], by rw [← hBw, ← hN]; exact h1.base hBB, by rw [← hBw]; exact h2⟩
  replace hBw := hide hBw
  replace hgw := hide hgw
  replace hN := hide hN
  replace hB2w := hide hB2w
  clear hpp hsw
  go_loopw [7, 15] (fun _ ix wr => ∃ (j : Nat) (vs : List Value), j ≤ K ∧ ix = .int .i64 j ∧ LegT B B2 wr g N vs ((usesL es ts).take j) ∧ wr.ownsRow B 78 5 (.slice va K vc) K (flatRides (usesL es ts)) ∧ Below B w wr ∧ B2 ≤ wr.heap.size) (fun _ ix _ => K - (intOf ix).toNat)
  case atStart => exact ⟨0, _, Nat.zero_le _, rfl, L0, ho, HB, by have := hB2w.out; omega⟩
  case round =>
    obtain ⟨j, vs, hj, rfl, hL, hus0, hb, hB2r⟩ := hrel
    clear L0 ho HB
    by_cases hlt : j < K
    · have hju : j < (usesL es ts).length := by rw [hK.out]; exact hlt
      obtain ⟨vb, rfl⟩ : ∃ vb, va = some ⟨vb, 0, none⟩ := by
        rcases hus0.2 with ⟨_, h0⟩ | ⟨b', cap', cur, h1, _⟩
        · omega
        · simp only [Value.slice.injEq] at h1
          exact ⟨b', h1.1⟩
      obtain ⟨y0, y1, y2, y3, y4⟩ := flatRides_get (usesL es ts) j hju
      have hfl := flatRides_len (usesL es ts)
      have hKo := hK.out
      have c0 := (hus0.cellAt (j * 5) (by omega)).trans y0
      have c1 := (hus0.cellAt (j * 5 + 1) (by omega)).trans y1
      have c2 := (hus0.cellAt (j * 5 + 2) (by omega)).trans y2
      have c3 := (hus0.cellAt (j * 5 + 3) (by omega)).trans y3
      have c4 := (hus0.cellAt (j * 5 + 4) (by omega)).trans y4
      have hge : (usesL es ts).getD j RideV.zero = (usesL es ts)[j] := by simp [List.getD, hju]
      obtain ⟨i, hiN, hip⟩ := hpN.out _ (List.getElem_mem hju)
      have htk : (usesL es ts).take (j + 1) = (usesL es ts).take j ++ [(usesL es ts).getD j RideV.zero] := by rw [List.take_succ_eq_append_getElem hju, hge]
      rw [← hge] at hip
      obtain ⟨U, hU⟩ : ∃ U, U = (usesL es ts).getD j RideV.zero := ⟨_, rfl⟩
      rw [← hU] at c0 c1 c2 c3 c4 hip htk
      obtain ⟨ue, ud, uf, ut, up⟩ := U
      dsimp only at c0 c1 c2 c3 c4 hip
      rw [hip] at c4 htk
      obtain ⟨us, hus⟩ : ∃ us, us = (usesL es ts).take j := ⟨_, rfl⟩
      rw [← hus] at hL htk
      have husl : us.length ≤ 264 := by rw [hus]; simp; omega
      replace hus := hide htk
      have hNv := hL.len
      have hiv : i < vs.length := by omega
      have hor := hL.each i hiv
      obtain ⟨rn, hrn⟩ : ∃ rn, (rowU us i).length = rn := ⟨_, rfl⟩
      have hrn2 : rn ≤ 264 := by have := rowU_le us i; omega
      rw [hrn] at hor
      obtain ⟨ra, rc, hvi⟩ := own_form hor
      have p0 : wr.cell? ⟨g, i, none⟩ = some vs[i] := by rw [hL.own.cellAt i (by omega), List.getElem?_eq_getElem hiv]
      rw [hvi] at p0 hor
      replace hrn := hide hrn
      replace hvi := hide hvi
      have hubk := one_block wr (.cells #[.int .i64 ue, .int .i64 ud, .int .i64 uf, .int .i64 ut, .int .i64 (i : Int)] 78)
      have hbu := balloc wr (.cells #[.int .i64 ue, .int .i64 ud, .int .i64 uf, .int .i64 ut, .int .i64 (i : Int)] 78)
      have hap : ∀ x, (Value.slice ra rn rc).ownBlock = some x → x ≠ wr.heap.size := fun x hx e => by have := own_blk_lt hor x hx; omega
      replace p0 := ble hbu p0
      replace hor := own_keep hor hbu
      replace hL := hL.below hbu
      replace hus0 := own_keep hus0 hbu
      have HBu := hb.trans (hbu.mono (by have := hb.size; omega))
      have hB2u : B2 ≤ (wr.alloc (.cells #[.int .i64 ue, .int .i64 ud, .int .i64 uf, .int .i64 ut, .int .i64 (i : Int)] 78)).heap.size := by have := hbu.size; omega
      have hk0 : (0 : Int) ≤ (j : Int) := by omega
      have hk1 : (j : Int) < (K : Int) := by omega
      have hi0 : (0 : Int) ≤ (i : Int) := by omega
      have hi1' : (i : Int) < (N : Int) := by omega
      clear y0 y1 y2 y3 y4 hfl hKo hge hU hip htk hNv hbu hb
      go_wp2_with fail
      generalize wr.alloc (.cells #[.int .i64 ue, .int .i64 ud, .int .i64 uf, .int .i64 ut, .int .i64 (i : Int)] 78) = wu at *
      generalize wr.heap.size = ub at *
      obtain ⟨⟨x0, x1, x2, x3, x4⟩, -⟩ := blk5 hubk
      clear c0 c1 c2 c3 c4
      refine wp_region_held_drew (S := (fun w' => w'.cell? ⟨ub, 0, none⟩ = some (.int .i64 ue) ∧ w'.cell? ⟨ub, 1, none⟩ = some (.int .i64 ud) ∧ w'.cell? ⟨ub, 2, none⟩ = some (.int .i64 uf) ∧ w'.cell? ⟨ub, 3, none⟩ = some (.int .i64 ut) ∧ w'.cell? ⟨ub, 4, none⟩ = some (.int .i64 (i : Int)))) (by kernel_rfl) ?_ (fun hHeld => ?_)
      · exact ⟨x0, x1, x2, x3, x4⟩
      have Bd : Below wu.heap.size wu wu.drew := (Below.refl _ _).drew
      have d0 := ble Bd x0
      have d1 := ble Bd x1
      have d2 := ble Bd x2
      have d3 := ble Bd x3
      have d4 := ble Bd x4
      have pd := ble Bd p0
      have hLd := hL.below Bd
      have hubd := blk_keep Bd hubk
      have hod := own_keep hor Bd
      have HBd := HBu.drew
      have hud := own_keep hus0 Bd
      have hB2d : B2 ≤ wu.drew.heap.size := by have := Bd.size; omega
      clear hus0 hB2u
      clear x0 x1 x2 x3 x4 p0 hL hubk hor HBu
      generalize wu.drew = wd at *
      have hds : B ≤ wd.heap.size := by omega
      have sz1 : (wd.alloc (.cells #[.int .i64 ue, .int .i64 ud, .int .i64 uf, .int .i64 ut, .int .i64 (i : Int)] 78)).heap.size = wd.heap.size + 1 := by simp
      refine wpAnyH_take (i := 0) (v := .slice (some ⟨g, 0, none⟩) N N) rfl (by kernel_rfl) (by kernel_rfl) (by kernel_rfl) (fun _ _ _ h => h) (Or.inl ⟨by kernel_rfl, fun w hS => by go_simp⟩) hHeld ?_
      change wpAnyH _ _ _ _ _ _ _ { tmps := List.toArray (_ :: _ :: _ :: _ :: _ :: _ :: _ :: _ :: _ :: _ :: _ :: _ :: _ :: _ :: _ :: _ :: _ :: _ :: _ :: .slice (some ⟨g, 0, none⟩) N N :: _ :: _ :: _ :: _ :: _ :: _ :: _ :: _ :: _ :: _ :: _ :: _ :: _ :: []), defers := [] } _
      refine wpAnyH_take (i := 1) (v := .pointer (some ⟨ub, 4, none⟩)) rfl (by kernel_rfl) (by kernel_rfl) (by kernel_rfl) (fun _ _ _ h => h) (Or.inl ⟨by kernel_rfl, fun w hS => by go_simp⟩) hHeld ?_
      change wpAnyH _ _ _ _ _ _ _ { tmps := List.toArray (_ :: _ :: _ :: _ :: _ :: _ :: _ :: _ :: _ :: _ :: _ :: _ :: _ :: _ :: _ :: _ :: _ :: _ :: _ :: .slice (some ⟨g, 0, none⟩) N N :: .pointer (some ⟨ub, 4, none⟩) :: _ :: _ :: _ :: _ :: _ :: _ :: _ :: _ :: _ :: _ :: _ :: _ :: []), defers := [] } _
      refine wpAnyH_take (i := 2) (v := .int .i64 (i : Int)) rfl (by kernel_rfl) (by kernel_rfl) (by kernel_rfl) (fun _ _ _ h => h) (Or.inl ⟨by kernel_rfl, fun w hS => by (obtain ⟨hS0, hS1, hS2, hS3, hS4⟩ := hS; go_simp)⟩) hHeld ?_
      change wpAnyH _ _ _ _ _ _ _ { tmps := List.toArray (_ :: _ :: _ :: _ :: _ :: _ :: _ :: _ :: _ :: _ :: _ :: _ :: _ :: _ :: _ :: _ :: _ :: _ :: _ :: .slice (some ⟨g, 0, none⟩) N N :: .pointer (some ⟨ub, 4, none⟩) :: .int .i64 (i : Int) :: _ :: _ :: _ :: _ :: _ :: _ :: _ :: _ :: _ :: _ :: _ :: []), defers := [] } _
      refine wpAnyH_take (i := 3) (v := .slice (some ⟨g, 0, none⟩) N N) rfl (by kernel_rfl) (by kernel_rfl) (by kernel_rfl) (fun _ _ _ h => h) (Or.inl ⟨by kernel_rfl, fun w hS => by go_simp⟩) hHeld ?_
      change wpAnyH _ _ _ _ _ _ _ { tmps := List.toArray (_ :: _ :: _ :: _ :: _ :: _ :: _ :: _ :: _ :: _ :: _ :: _ :: _ :: _ :: _ :: _ :: _ :: _ :: _ :: .slice (some ⟨g, 0, none⟩) N N :: .pointer (some ⟨ub, 4, none⟩) :: .int .i64 (i : Int) :: .slice (some ⟨g, 0, none⟩) N N :: _ :: _ :: _ :: _ :: _ :: _ :: _ :: _ :: _ :: _ :: []), defers := [] } _
      refine wpAnyH_take (i := 4) (v := .pointer (some ⟨ub, 4, none⟩)) rfl (by kernel_rfl) (by kernel_rfl) (by kernel_rfl) (fun _ _ _ h => h) (Or.inl ⟨by kernel_rfl, fun w hS => by go_simp⟩) hHeld ?_
      change wpAnyH _ _ _ _ _ _ _ { tmps := List.toArray (_ :: _ :: _ :: _ :: _ :: _ :: _ :: _ :: _ :: _ :: _ :: _ :: _ :: _ :: _ :: _ :: _ :: _ :: _ :: .slice (some ⟨g, 0, none⟩) N N :: .pointer (some ⟨ub, 4, none⟩) :: .int .i64 (i : Int) :: .slice (some ⟨g, 0, none⟩) N N :: .pointer (some ⟨ub, 4, none⟩) :: _ :: _ :: _ :: _ :: _ :: _ :: _ :: _ :: _ :: []), defers := [] } _
      refine wpAnyH_take (i := 5) (v := .int .i64 (i : Int)) rfl (by kernel_rfl) (by kernel_rfl) (by kernel_rfl) (fun _ _ _ h => h) (Or.inl ⟨by kernel_rfl, fun w hS => by (obtain ⟨hS0, hS1, hS2, hS3, hS4⟩ := hS; go_simp)⟩) hHeld ?_
      change wpAnyH _ _ _ _ _ _ _ { tmps := List.toArray (_ :: _ :: _ :: _ :: _ :: _ :: _ :: _ :: _ :: _ :: _ :: _ :: _ :: _ :: _ :: _ :: _ :: _ :: _ :: .slice (some ⟨g, 0, none⟩) N N :: .pointer (some ⟨ub, 4, none⟩) :: .int .i64 (i : Int) :: .slice (some ⟨g, 0, none⟩) N N :: .pointer (some ⟨ub, 4, none⟩) :: .int .i64 (i : Int) :: _ :: _ :: _ :: _ :: _ :: _ :: _ :: _ :: []), defers := [] } _
      refine wpAnyH_take (i := 6) (v := .pointer (some ⟨g, i, none⟩)) rfl (by kernel_rfl) (by kernel_rfl) (by kernel_rfl) (fun _ _ _ h => h) (Or.inl ⟨by kernel_rfl, fun w hS => by go_simp⟩) hHeld ?_
      change wpAnyH _ _ _ _ _ _ _ { tmps := List.toArray (_ :: _ :: _ :: _ :: _ :: _ :: _ :: _ :: _ :: _ :: _ :: _ :: _ :: _ :: _ :: _ :: _ :: _ :: _ :: .slice (some ⟨g, 0, none⟩) N N :: .pointer (some ⟨ub, 4, none⟩) :: .int .i64 (i : Int) :: .slice (some ⟨g, 0, none⟩) N N :: .pointer (some ⟨ub, 4, none⟩) :: .int .i64 (i : Int) :: .pointer (some ⟨g, i, none⟩) :: _ :: _ :: _ :: _ :: _ :: _ :: _ :: []), defers := [] } _
      refine wpAnyH_take (i := 8) (v := .agg #[.int .i64 ue, .int .i64 ud, .int .i64 uf, .int .i64 ut, .int .i64 (i : Int)]) rfl (by kernel_rfl) (by kernel_rfl) (by kernel_rfl) (fun _ _ _ h => h) (Or.inl ⟨by kernel_rfl, fun w hS => by (obtain ⟨hS0, hS1, hS2, hS3, hS4⟩ := hS; go_simp)⟩) hHeld ?_
      change wpAnyH _ _ _ _ _ _ _ { tmps := List.toArray (_ :: _ :: _ :: _ :: _ :: _ :: _ :: _ :: _ :: _ :: _ :: _ :: _ :: _ :: _ :: _ :: _ :: _ :: _ :: .slice (some ⟨g, 0, none⟩) N N :: .pointer (some ⟨ub, 4, none⟩) :: .int .i64 (i : Int) :: .slice (some ⟨g, 0, none⟩) N N :: .pointer (some ⟨ub, 4, none⟩) :: .int .i64 (i : Int) :: .pointer (some ⟨g, i, none⟩) :: _ :: .agg #[.int .i64 ue, .int .i64 ud, .int .i64 uf, .int .i64 ut, .int .i64 (i : Int)] :: _ :: _ :: _ :: _ :: _ :: []), defers := [] } _
      refine wpAnyH_ready (rs := [7, 9]) (by kernel_rfl) (by simp) ?_
      refine (AllReadyH.cons rfl (fun KK hK => ?_) (AllReadyH.cons rfl (fun KK hK => ?_) AllReadyH.nil))
      · skip
        go_simp
        clear hHeld
        refine hK.out _ _ (⟨d0, d1, d2, d3, d4⟩) (fun hHeld => ?_)
        clear hK KK
        change wpAnyH _ _ _ _ _ _ _ { tmps := List.toArray (_ :: _ :: _ :: _ :: _ :: _ :: _ :: _ :: _ :: _ :: _ :: _ :: _ :: _ :: _ :: _ :: _ :: _ :: _ :: .slice (some ⟨g, 0, none⟩) N N :: .pointer (some ⟨ub, 4, none⟩) :: .int .i64 (i : Int) :: .slice (some ⟨g, 0, none⟩) N N :: .pointer (some ⟨ub, 4, none⟩) :: .int .i64 (i : Int) :: .pointer (some ⟨g, i, none⟩) :: .slice ra rn rc :: .agg #[.int .i64 ue, .int .i64 ud, .int .i64 uf, .int .i64 ut, .int .i64 (i : Int)] :: _ :: _ :: _ :: _ :: _ :: []), defers := [] } _
        refine wpAnyH_ready (rs := [9]) (by kernel_rfl) (by simp) ?_
        refine (AllReadyH.cons rfl (fun KK hK => ?_) AllReadyH.nil)
        go_simp
        have p1 := ble (balloc wd (.cells #[.int .i64 ue, .int .i64 ud, .int .i64 uf, .int .i64 ut, .int .i64 (i : Int)] 78)) pd
        clear hHeld
        refine hK.out _ _ (⟨ble (balloc wd (.cells #[.int .i64 ue, .int .i64 ud, .int .i64 uf, .int .i64 ut, .int .i64 (i : Int)] 78)) d0, ble (balloc wd (.cells #[.int .i64 ue, .int .i64 ud, .int .i64 uf, .int .i64 ut, .int .i64 (i : Int)] 78)) d1, ble (balloc wd (.cells #[.int .i64 ue, .int .i64 ud, .int .i64 uf, .int .i64 ut, .int .i64 (i : Int)] 78)) d2, ble (balloc wd (.cells #[.int .i64 ue, .int .i64 ud, .int .i64 uf, .int .i64 ut, .int .i64 (i : Int)] 78)) d3, ble (balloc wd (.cells #[.int .i64 ue, .int .i64 ud, .int .i64 uf, .int .i64 ut, .int .i64 (i : Int)] 78)) d4⟩) (fun hHeld => ?_)
        clear hK KK
        change wpAnyH _ _ _ _ _ _ _ { tmps := List.toArray (_ :: _ :: _ :: _ :: _ :: _ :: _ :: _ :: _ :: _ :: _ :: _ :: _ :: _ :: _ :: _ :: _ :: _ :: _ :: .slice (some ⟨g, 0, none⟩) N N :: .pointer (some ⟨ub, 4, none⟩) :: .int .i64 (i : Int) :: .slice (some ⟨g, 0, none⟩) N N :: .pointer (some ⟨ub, 4, none⟩) :: .int .i64 (i : Int) :: .pointer (some ⟨g, i, none⟩) :: .slice ra rn rc :: .agg #[.int .i64 ue, .int .i64 ud, .int .i64 uf, .int .i64 ut, .int .i64 (i : Int)] :: .slice (some ⟨wd.heap.size, 0, none⟩) 1 1 :: _ :: _ :: _ :: _ :: []), defers := [] } _
        refine wpAnyH_ready (rs := [10]) (by kernel_rfl) (by simp) ?_
        refine (AllReadyH.cons rfl (fun KK hK => ?_) AllReadyH.nil)
        refine step_append_lies _ (by rfl) _ _ 76 (by rfl) B2 78 i1 (.agg #[.int .i64 0, .int .i64 0, .int .i64 0, .int .i64 0, .int .i64 0]) 5 40 Try.underlying76 hi1 hy0 hy1 hy2 rfl (by omega) (.slice ra rn rc) rn (flatRides (rowU us i)) (by rfl) (own_keep hod (balloc wd (.cells #[.int .i64 ue, .int .i64 ud, .int .i64 uf, .int .i64 ut, .int .i64 (i : Int)] 78))) ⟨wd.heap.size, 0, none⟩ 1 1 [.int .i64 ue, .int .i64 ud, .int .i64 uf, .int .i64 ut, .int .i64 (i : Int)] (by rfl) rfl (World.news_of_block (heap_alloc_new wd _)) (fun u hu => by simp only [List.mem_cons, List.not_mem_nil, or_false] at hu; rcases hu with hu | hu | hu | hu | hu <;> subst hu <;> rfl) (by omega) (by unfold maxLen; omega) (by omega) (by rw [sz1]; omega) (wd.heap.size + 1) (by rw [sz1]) ?_
        intro gg gc w3 hown hgrow hwh hgl
        have hst := hLd.step (u := ⟨ue, ud, uf, ut, (i : Int)⟩) hiv rfl (by rw [hrn.out]; exact hown) (by rw [hvi.out]; exact hgrow) (by rw [hvi.out]; exact hwh)
        rw [hrn.out, hvi.out] at hst
        obtain ⟨H9, yc, yf⟩ := hst
        have H9own : w3.ownsRow B 76 1 (.slice (some ⟨g, 0, none⟩) N N) N vs := own_far (own_keep hLd.own (balloc wd (.cells #[.int .i64 ue, .int .i64 ud, .int .i64 uf, .int .i64 ut, .int .i64 (i : Int)] 78))) hgrow (own_otherT hLd.own hod (by decide))
        have hbB := own_from hod (Nat.le_refl _)
        have B3 : Below B w w3 := ((HBd.trans ((balloc wd (.cells #[.int .i64 ue, .int .i64 ud, .int .i64 uf, .int .i64 ut, .int .i64 (i : Int)] 78)).mono hds)).grown hgrow (by rw [sz1]; omega) (fun x hx => Nat.le_trans hBB (hbB x hx)))
        have hu3 : w3.ownsRow B 78 5 (.slice (some ⟨vb, 0, none⟩) K vc) K (flatRides (usesL es ts)) := own_far (own_keep hud (balloc wd (.cells #[.int .i64 ue, .int .i64 ud, .int .i64 uf, .int .i64 ut, .int .i64 (i : Int)] 78))) hgrow (fun x hx e => by have h1 := hvB x hx; have h2 := hbB x e.symm; omega)
        have hs3 : B2 ≤ w3.heap.size := by have := hgrow.size; rw [sz1] at this; omega
        have hub3 : w3.heap[ub]? = some (.cells #[.int .i64 ue, .int .i64 ud, .int .i64 uf, .int .i64 ut, .int .i64 (i : Int)] 78 (0, 0)) := (hgrow.block ub (by rw [sz1]; have := lt_of_block hubd; omega) (fun e => hap ub e.symm rfl)).trans (blk_keep (balloc wd (.cells #[.int .i64 ue, .int .i64 ud, .int .i64 uf, .int .i64 ut, .int .i64 (i : Int)] 78)) hubd)
        have hgu : ub ≠ g := fun e => own_apartL H9own hub3 (by decide) g rfl e.symm
        obtain ⟨⟨y0, y1, y2, y3, y4⟩, -⟩ := blk5 hub3
        clear hHeld
        refine hK.out _ _ (⟨y0, y1, y2, y3, y4⟩) (fun hHeld => ?_)
        clear hK KK
        change wpAnyH _ _ _ _ _ _ _ { tmps := List.toArray (_ :: _ :: _ :: _ :: _ :: _ :: _ :: _ :: _ :: _ :: _ :: _ :: _ :: _ :: _ :: _ :: _ :: _ :: _ :: .slice (some ⟨g, 0, none⟩) N N :: .pointer (some ⟨ub, 4, none⟩) :: .int .i64 (i : Int) :: .slice (some ⟨g, 0, none⟩) N N :: .pointer (some ⟨ub, 4, none⟩) :: .int .i64 (i : Int) :: .pointer (some ⟨g, i, none⟩) :: .slice ra rn rc :: .agg #[.int .i64 ue, .int .i64 ud, .int .i64 uf, .int .i64 ut, .int .i64 (i : Int)] :: .slice (some ⟨wd.heap.size, 0, none⟩) 1 1 :: .slice (some ⟨gg, 0, none⟩) (rn + 1) gc :: _ :: _ :: _ :: []), defers := [] } _
        refine wpAnyH_take (i := 11) (v := .pointer (some ⟨g, i, none⟩)) rfl (by kernel_rfl) (by kernel_rfl) (by kernel_rfl) (fun _ _ _ h => h) (Or.inl ⟨by kernel_rfl, fun w hS => by go_simp⟩) hHeld ?_
        change wpAnyH _ _ _ _ _ _ _ { tmps := List.toArray (_ :: _ :: _ :: _ :: _ :: _ :: _ :: _ :: _ :: _ :: _ :: _ :: _ :: _ :: _ :: _ :: _ :: _ :: _ :: .slice (some ⟨g, 0, none⟩) N N :: .pointer (some ⟨ub, 4, none⟩) :: .int .i64 (i : Int) :: .slice (some ⟨g, 0, none⟩) N N :: .pointer (some ⟨ub, 4, none⟩) :: .int .i64 (i : Int) :: .pointer (some ⟨g, i, none⟩) :: .slice ra rn rc :: .agg #[.int .i64 ue, .int .i64 ud, .int .i64 uf, .int .i64 ut, .int .i64 (i : Int)] :: .slice (some ⟨wd.heap.size, 0, none⟩) 1 1 :: .slice (some ⟨gg, 0, none⟩) (rn + 1) gc :: .pointer (some ⟨g, i, none⟩) :: _ :: _ :: []), defers := [] } _
        refine wpAnyH_ready (rs := [12]) (by kernel_rfl) (by simp) ?_
        refine (AllReadyH.cons rfl (fun KK hK => ?_) AllReadyH.nil)
        go_simp
        obtain ⟨⟨q0, q1, q2, q3, q4⟩, -⟩ := blk5 (blk_other (i := i) (v := .slice (some ⟨gg, 0, none⟩) (rn + 1) gc) hub3 hgu)
        clear hHeld
        refine hK.out _ _ (⟨q0, q1, q2, q3, q4⟩) (fun hHeld => ?_)
        clear hK KK
        change wpAnyH _ _ _ _ _ _ _ { tmps := List.toArray (_ :: _ :: _ :: _ :: _ :: _ :: _ :: _ :: _ :: _ :: _ :: _ :: _ :: _ :: _ :: _ :: _ :: _ :: _ :: .slice (some ⟨g, 0, none⟩) N N :: .pointer (some ⟨ub, 4, none⟩) :: .int .i64 (i : Int) :: .slice (some ⟨g, 0, none⟩) N N :: .pointer (some ⟨ub, 4, none⟩) :: .int .i64 (i : Int) :: .pointer (some ⟨g, i, none⟩) :: .slice ra rn rc :: .agg #[.int .i64 ue, .int .i64 ud, .int .i64 uf, .int .i64 ut, .int .i64 (i : Int)] :: .slice (some ⟨wd.heap.size, 0, none⟩) 1 1 :: .slice (some ⟨gg, 0, none⟩) (rn + 1) gc :: .pointer (some ⟨g, i, none⟩) :: _ :: _ :: []), defers := [] } _
        refine wpAnyH_done (by kernel_rfl) ?_ _
        have hu9 := own_set (b := g) (i := i) (u := .slice (some ⟨gg, 0, none⟩) (rn + 1) gc) hu3 (fun x hx e => own_otherT hu3 H9own (by decide) x hx (by rw [e]; rfl))
        have hs9 : B2 ≤ (w3.setCell ⟨g, i, none⟩ (.slice (some ⟨gg, 0, none⟩) (rn + 1) gc)).heap.size := by simp; exact hs3
        have B9 := below_set (o := i) (v := .slice (some ⟨gg, 0, none⟩) (rn + 1) gc) hgB B3
        clear hown hgrow hwh hgl hLd hod B3 hu3 H9own hud hub3 yc yf y0 y1 y2 y3 y4 q0 q1 q2 q3 q4 d0 d1 d2 d3 d4 pd p1 HBd
        rw [← hus.out] at H9
        go_wp2
        go_roundw
        case rel => exact ⟨j + 1, _, by omega, by go_num, H9, hu9, B9, hs9⟩
        case measure => simp [intOf]; omega
      · skip
        go_simp
        have p1 := ble (balloc wd (.cells #[.int .i64 ue, .int .i64 ud, .int .i64 uf, .int .i64 ut, .int .i64 (i : Int)] 78)) pd
        clear hHeld
        refine hK.out _ _ (⟨ble (balloc wd (.cells #[.int .i64 ue, .int .i64 ud, .int .i64 uf, .int .i64 ut, .int .i64 (i : Int)] 78)) d0, ble (balloc wd (.cells #[.int .i64 ue, .int .i64 ud, .int .i64 uf, .int .i64 ut, .int .i64 (i : Int)] 78)) d1, ble (balloc wd (.cells #[.int .i64 ue, .int .i64 ud, .int .i64 uf, .int .i64 ut, .int .i64 (i : Int)] 78)) d2, ble (balloc wd (.cells #[.int .i64 ue, .int .i64 ud, .int .i64 uf, .int .i64 ut, .int .i64 (i : Int)] 78)) d3, ble (balloc wd (.cells #[.int .i64 ue, .int .i64 ud, .int .i64 uf, .int .i64 ut, .int .i64 (i : Int)] 78)) d4⟩) (fun hHeld => ?_)
        clear hK KK
        change wpAnyH _ _ _ _ _ _ _ { tmps := List.toArray (_ :: _ :: _ :: _ :: _ :: _ :: _ :: _ :: _ :: _ :: _ :: _ :: _ :: _ :: _ :: _ :: _ :: _ :: _ :: .slice (some ⟨g, 0, none⟩) N N :: .pointer (some ⟨ub, 4, none⟩) :: .int .i64 (i : Int) :: .slice (some ⟨g, 0, none⟩) N N :: .pointer (some ⟨ub, 4, none⟩) :: .int .i64 (i : Int) :: .pointer (some ⟨g, i, none⟩) :: _ :: .agg #[.int .i64 ue, .int .i64 ud, .int .i64 uf, .int .i64 ut, .int .i64 (i : Int)] :: .slice (some ⟨wd.heap.size, 0, none⟩) 1 1 :: _ :: _ :: _ :: _ :: []), defers := [] } _
        refine wpAnyH_ready (rs := [7]) (by kernel_rfl) (by simp) ?_
        refine (AllReadyH.cons rfl (fun KK hK => ?_) AllReadyH.nil)
        go_simp
        clear hHeld
        refine hK.out _ _ (⟨ble (balloc wd (.cells #[.int .i64 ue, .int .i64 ud, .int .i64 uf, .int .i64 ut, .int .i64 (i : Int)] 78)) d0, ble (balloc wd (.cells #[.int .i64 ue, .int .i64 ud, .int .i64 uf, .int .i64 ut, .int .i64 (i : Int)] 78)) d1, ble (balloc wd (.cells #[.int .i64 ue, .int .i64 ud, .int .i64 uf, .int .i64 ut, .int .i64 (i : Int)] 78)) d2, ble (balloc wd (.cells #[.int .i64 ue, .int .i64 ud, .int .i64 uf, .int .i64 ut, .int .i64 (i : Int)] 78)) d3, ble (balloc wd (.cells #[.int .i64 ue, .int .i64 ud, .int .i64 uf, .int .i64 ut, .int .i64 (i : Int)] 78)) d4⟩) (fun hHeld => ?_)
        clear hK KK
        change wpAnyH _ _ _ _ _ _ _ { tmps := List.toArray (_ :: _ :: _ :: _ :: _ :: _ :: _ :: _ :: _ :: _ :: _ :: _ :: _ :: _ :: _ :: _ :: _ :: _ :: _ :: .slice (some ⟨g, 0, none⟩) N N :: .pointer (some ⟨ub, 4, none⟩) :: .int .i64 (i : Int) :: .slice (some ⟨g, 0, none⟩) N N :: .pointer (some ⟨ub, 4, none⟩) :: .int .i64 (i : Int) :: .pointer (some ⟨g, i, none⟩) :: .slice ra rn rc :: .agg #[.int .i64 ue, .int .i64 ud, .int .i64 uf, .int .i64 ut, .int .i64 (i : Int)] :: .slice (some ⟨wd.heap.size, 0, none⟩) 1 1 :: _ :: _ :: _ :: _ :: []), defers := [] } _
        refine wpAnyH_ready (rs := [10]) (by kernel_rfl) (by simp) ?_
        refine (AllReadyH.cons rfl (fun KK hK => ?_) AllReadyH.nil)
        refine step_append_lies _ (by rfl) _ _ 76 (by rfl) B2 78 i1 (.agg #[.int .i64 0, .int .i64 0, .int .i64 0, .int .i64 0, .int .i64 0]) 5 40 Try.underlying76 hi1 hy0 hy1 hy2 rfl (by omega) (.slice ra rn rc) rn (flatRides (rowU us i)) (by rfl) (own_keep hod (balloc wd (.cells #[.int .i64 ue, .int .i64 ud, .int .i64 uf, .int .i64 ut, .int .i64 (i : Int)] 78))) ⟨wd.heap.size, 0, none⟩ 1 1 [.int .i64 ue, .int .i64 ud, .int .i64 uf, .int .i64 ut, .int .i64 (i : Int)] (by rfl) rfl (World.news_of_block (heap_alloc_new wd _)) (fun u hu => by simp only [List.mem_cons, List.not_mem_nil, or_false] at hu; rcases hu with hu | hu | hu | hu | hu <;> subst hu <;> rfl) (by omega) (by unfold maxLen; omega) (by omega) (by rw [sz1]; omega) (wd.heap.size + 1) (by rw [sz1]) ?_
        intro gg gc w3 hown hgrow hwh hgl
        have hst := hLd.step (u := ⟨ue, ud, uf, ut, (i : Int)⟩) hiv rfl (by rw [hrn.out]; exact hown) (by rw [hvi.out]; exact hgrow) (by rw [hvi.out]; exact hwh)
        rw [hrn.out, hvi.out] at hst
        obtain ⟨H9, yc, yf⟩ := hst
        have H9own : w3.ownsRow B 76 1 (.slice (some ⟨g, 0, none⟩) N N) N vs := own_far (own_keep hLd.own (balloc wd (.cells #[.int .i64 ue, .int .i64 ud, .int .i64 uf, .int .i64 ut, .int .i64 (i : Int)] 78))) hgrow (own_otherT hLd.own hod (by decide))
        have hbB := own_from hod (Nat.le_refl _)
        have B3 : Below B w w3 := ((HBd.trans ((balloc wd (.cells #[.int .i64 ue, .int .i64 ud, .int .i64 uf, .int .i64 ut, .int .i64 (i : Int)] 78)).mono hds)).grown hgrow (by rw [sz1]; omega) (fun x hx => Nat.le_trans hBB (hbB x hx)))
        have hu3 : w3.ownsRow B 78 5 (.slice (some ⟨vb, 0, none⟩) K vc) K (flatRides (usesL es ts)) := own_far (own_keep hud (balloc wd (.cells #[.int .i64 ue, .int .i64 ud, .int .i64 uf, .int .i64 ut, .int .i64 (i : Int)] 78))) hgrow (fun x hx e => by have h1 := hvB x hx; have h2 := hbB x e.symm; omega)
        have hs3 : B2 ≤ w3.heap.size := by have := hgrow.size; rw [sz1] at this; omega
        have hub3 : w3.heap[ub]? = some (.cells #[.int .i64 ue, .int .i64 ud, .int .i64 uf, .int .i64 ut, .int .i64 (i : Int)] 78 (0, 0)) := (hgrow.block ub (by rw [sz1]; have := lt_of_block hubd; omega) (fun e => hap ub e.symm rfl)).trans (blk_keep (balloc wd (.cells #[.int .i64 ue, .int .i64 ud, .int .i64 uf, .int .i64 ut, .int .i64 (i : Int)] 78)) hubd)
        have hgu : ub ≠ g := fun e => own_apartL H9own hub3 (by decide) g rfl e.symm
        obtain ⟨⟨y0, y1, y2, y3, y4⟩, -⟩ := blk5 hub3
        clear hHeld
        refine hK.out _ _ (⟨y0, y1, y2, y3, y4⟩) (fun hHeld => ?_)
        clear hK KK
        change wpAnyH _ _ _ _ _ _ _ { tmps := List.toArray (_ :: _ :: _ :: _ :: _ :: _ :: _ :: _ :: _ :: _ :: _ :: _ :: _ :: _ :: _ :: _ :: _ :: _ :: _ :: .slice (some ⟨g, 0, none⟩) N N :: .pointer (some ⟨ub, 4, none⟩) :: .int .i64 (i : Int) :: .slice (some ⟨g, 0, none⟩) N N :: .pointer (some ⟨ub, 4, none⟩) :: .int .i64 (i : Int) :: .pointer (some ⟨g, i, none⟩) :: .slice ra rn rc :: .agg #[.int .i64 ue, .int .i64 ud, .int .i64 uf, .int .i64 ut, .int .i64 (i : Int)] :: .slice (some ⟨wd.heap.size, 0, none⟩) 1 1 :: .slice (some ⟨gg, 0, none⟩) (rn + 1) gc :: _ :: _ :: _ :: []), defers := [] } _
        refine wpAnyH_take (i := 11) (v := .pointer (some ⟨g, i, none⟩)) rfl (by kernel_rfl) (by kernel_rfl) (by kernel_rfl) (fun _ _ _ h => h) (Or.inl ⟨by kernel_rfl, fun w hS => by go_simp⟩) hHeld ?_
        change wpAnyH _ _ _ _ _ _ _ { tmps := List.toArray (_ :: _ :: _ :: _ :: _ :: _ :: _ :: _ :: _ :: _ :: _ :: _ :: _ :: _ :: _ :: _ :: _ :: _ :: _ :: .slice (some ⟨g, 0, none⟩) N N :: .pointer (some ⟨ub, 4, none⟩) :: .int .i64 (i : Int) :: .slice (some ⟨g, 0, none⟩) N N :: .pointer (some ⟨ub, 4, none⟩) :: .int .i64 (i : Int) :: .pointer (some ⟨g, i, none⟩) :: .slice ra rn rc :: .agg #[.int .i64 ue, .int .i64 ud, .int .i64 uf, .int .i64 ut, .int .i64 (i : Int)] :: .slice (some ⟨wd.heap.size, 0, none⟩) 1 1 :: .slice (some ⟨gg, 0, none⟩) (rn + 1) gc :: .pointer (some ⟨g, i, none⟩) :: _ :: _ :: []), defers := [] } _
        refine wpAnyH_ready (rs := [12]) (by kernel_rfl) (by simp) ?_
        refine (AllReadyH.cons rfl (fun KK hK => ?_) AllReadyH.nil)
        go_simp
        obtain ⟨⟨q0, q1, q2, q3, q4⟩, -⟩ := blk5 (blk_other (i := i) (v := .slice (some ⟨gg, 0, none⟩) (rn + 1) gc) hub3 hgu)
        clear hHeld
        refine hK.out _ _ (⟨q0, q1, q2, q3, q4⟩) (fun hHeld => ?_)
        clear hK KK
        change wpAnyH _ _ _ _ _ _ _ { tmps := List.toArray (_ :: _ :: _ :: _ :: _ :: _ :: _ :: _ :: _ :: _ :: _ :: _ :: _ :: _ :: _ :: _ :: _ :: _ :: _ :: .slice (some ⟨g, 0, none⟩) N N :: .pointer (some ⟨ub, 4, none⟩) :: .int .i64 (i : Int) :: .slice (some ⟨g, 0, none⟩) N N :: .pointer (some ⟨ub, 4, none⟩) :: .int .i64 (i : Int) :: .pointer (some ⟨g, i, none⟩) :: .slice ra rn rc :: .agg #[.int .i64 ue, .int .i64 ud, .int .i64 uf, .int .i64 ut, .int .i64 (i : Int)] :: .slice (some ⟨wd.heap.size, 0, none⟩) 1 1 :: .slice (some ⟨gg, 0, none⟩) (rn + 1) gc :: .pointer (some ⟨g, i, none⟩) :: _ :: _ :: []), defers := [] } _
        refine wpAnyH_done (by kernel_rfl) ?_ _
        have hu9 := own_set (b := g) (i := i) (u := .slice (some ⟨gg, 0, none⟩) (rn + 1) gc) hu3 (fun x hx e => own_otherT hu3 H9own (by decide) x hx (by rw [e]; rfl))
        have hs9 : B2 ≤ (w3.setCell ⟨g, i, none⟩ (.slice (some ⟨gg, 0, none⟩) (rn + 1) gc)).heap.size := by simp; exact hs3
        have B9 := below_set (o := i) (v := .slice (some ⟨gg, 0, none⟩) (rn + 1) gc) hgB B3
        clear hown hgrow hwh hgl hLd hod B3 hu3 H9own hud hub3 yc yf y0 y1 y2 y3 y4 q0 q1 q2 q3 q4 d0 d1 d2 d3 d4 pd p1 HBd
        rw [← hus.out] at H9
        go_wp2
        go_roundw
        case rel => exact ⟨j + 1, _, by omega, by go_num, H9, hu9, B9, hs9⟩
        case measure => simp [intOf]; omega
    · have hjK : j = K := by omega
      subst j
      rw [show (usesL es ts).take K = usesL es ts by rw [← hK.out, List.take_length]] at hL
      have hf := fin wr vs hL hb
      clear hL hus0 hb
      go_wp2
      go_ret
      exact hf
end Go.Proofs.Ythfknkmabjgklaa
