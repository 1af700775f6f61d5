/- Planned of the program. -/
import Derived.Test.YthfknkmabjgklaaLN
import Derived.Shelf.SlSortCmp.NoneTotal
namespace Go.Proofs.Ythfknkmabjgklaa
open Go.RowKit
/-- The first runs of a trip's legs. -/
def legR (i : Nat) (us : List RideV) (k : Nat) : List RunV := (List.range k).map fun j : Nat => ⟨(i : Int), (j : Int), (us.getD j RideV.zero).f, (us.getD j RideV.zero).t⟩
theorem legR_len (i : Nat) (us : List RideV) (k : Nat) : (legR i us k).length = k := by simp [legR]
theorem legR_succ (i : Nat) (us : List RideV) (k : Nat) : legR i us (k + 1) = legR i us k ++ [⟨(i : Int), (k : Int), (us.getD k RideV.zero).f, (us.getD k RideV.zero).t⟩] := by simp [legR, List.range_succ]
/-- The runs of the first trips. -/
def runsTo (lg : Nat → List RideV) (k : Nat) : List RunV := (List.range k).flatMap fun i => legR i (lg i) (lg i).length
theorem runsTo_succ (lg : Nat → List RideV) (k : Nat) : runsTo lg (k + 1) = runsTo lg k ++ legR k (lg k) (lg k).length := by simp [runsTo, List.range_succ]
open Classical in
noncomputable def lgOf (n : Int) (es : List EdgeV) (ts : List TripV) (i : Nat) : List RideV := if Ridden n es ts then legsV es ts i else []
theorem lgOf_small (n : Int) (es : List EdgeV) (ts : List TripV) : ∀ k, k ≤ ts.length → (runsTo (lgOf n es ts) k).length ≤ 264 := by
  by_cases hR : Ridden n es ts
  · have hc : ∀ k, k ≤ ts.length → (runsTo (lgOf n es ts) k).length ≤ 11 * k := by
      intro k
      induction k with
      | zero => intro _; simp [runsTo]
      | succ k ih =>
        intro hk
        have h1 := ih (by omega)
        have h2 := (table_trip hR.2.1 (show k < ts.length by omega)).2
        have h3 : (lgOf n es ts k).length ≤ 11 := by unfold lgOf; rw [if_pos hR]; unfold legsV; rw [legsTo_len]; omega
        rw [runsTo_succ, List.length_append, legR_len]; omega
    intro k hk
    have h24 : ts.length ≤ 24 := hR.2.1.1
    have := hc k hk
    omega
  · intro k _
    have h0 : ∀ k, (runsTo (lgOf n es ts) k).length = 0 := by
      intro k
      induction k with
      | zero => simp [runsTo]
      | succ k ih =>
        rw [runsTo_succ, List.length_append, legR_len, ih]; simp [lgOf, hR]
    rw [h0]; omega
/-- legsOf, ridden or not. -/
theorem cLegsAny (a : Option Addr) (cap : Nat) (n : Int) (es : List EdgeV) (ta : Option Addr) (tc : Nat) (ts : List TripV) (w : World) (he : Edges w a es) (hl : es.length ≤ 1048576) (hz : Trips w ta ts) (hS : Small ts) :
    Calls Try.prog 39 #[.agg #[.int .i64 n, .slice a es.length cap], .slice ta ts.length tc] w fun e w' => ∃ g, e = .returned (.slice (some ⟨g, 0, none⟩) ts.length ts.length) ∧ LegV w' g ts.length (lgOf n es ts) ∧ Below w.heap.size w w' := by
  by_cases hR : Ridden n es ts
  · refine (cLegs a cap n es ta tc ts w he hl hz hS hR).mono ?_
    rintro e w' ⟨g, vs, rfl, hL, hb⟩
    refine ⟨g, rfl, ?_, hb⟩
    have h := legV_legs hL.view rfl
    intro i hi
    obtain ⟨x, c, h1, h2⟩ := h i hi
    exact ⟨x, c, by unfold lgOf; rw [if_pos hR]; exact h1, by unfold lgOf; rw [if_pos hR]; exact h2⟩
  · refine (cLegs0 a cap n es ta tc ts w he hl hz hS hR).mono ?_
    rintro e w' ⟨g, rfl, h, hb⟩
    refine ⟨g, rfl, ?_, hb⟩
    intro i hi
    obtain ⟨x, c, h1, h2⟩ := h i hi
    exact ⟨x, c, by unfold lgOf; rw [if_neg hR]; exact h1, by unfold lgOf; rw [if_neg hR]; exact h2⟩
theorem flat_one_run (x : RunV) : flatRuns [x] = x.vs := by simp [flatRuns]
/-- What the program's Planned tells: the runs of all legs, in order. -/
def SortR (rs : List RunV) : Prop := ∀ i j, i < j → j < rs.length → ¬ cmpR (rs.getD j RunV.zero) (rs.getD i RunV.zero) < 0
def AnsPlan (w : World) (all : List RunV) (e : Ending) (w' : World) : Prop := ∃ v rs, e = .returned v ∧ rs.Perm all ∧ SortR rs ∧ w'.ownsRow w.heap.size 72 4 v rs.length (flatRuns rs) ∧ Below w.heap.size w w'
set_option maxRecDepth 100000 in
set_option maxHeartbeats 3200000 in
theorem cPlanI (a : Option Addr) (cap : Nat) (n : Int) (es : List EdgeV) (ta : Option Addr) (tc : Nat) (ts : List TripV) (w : World) (he : Edges w a es) (hl : es.length ≤ 1048576) (hz : Trips w ta ts) (hS : Small ts) :
    Calls Try.prog 17 #[.agg #[.int .i64 n, .slice a es.length cap], .slice ta ts.length tc] w (AnsPlan w (runsTo (lgOf n es ts) ts.length)) := by
  obtain ⟨i0, hi, hz0, hz1, hz2⟩ := info_parts infoRuns
  have hW := balloc w (.cells #[.int .i64 n, .slice a es.length cap] 32)
  have X0 := one_block w (.cells #[.int .i64 n, .slice a es.length cap] 32)
  obtain ⟨⟨x0, x1⟩, -⟩ := blk2 X0
  have CL := cLegsAny a cap n es ta tc ts (w.alloc (.cells #[.int .i64 n, .slice a es.length cap] 32)) (he.below hW) hl (hz.below hW) hS
  have hsm := hide (lgOf_small n es ts)
  have hNl := hS.1
  obtain ⟨all, hall⟩ : ∃ all, runsTo (lgOf n es ts) ts.length = all := ⟨_, rfl⟩
  rw [hall]
  replace hall := hide hall
  go_enter Try.func17, Try.ntmps17
  go_wp2_with fail
  refine CL.mono ?_
  rintro e w2 ⟨g, rfl, hV, hb⟩
  have HB := btrans hW hb
  clear CL hW hb X0 x0 x1 he hz
  generalize lgOf n es ts = lg at *
  obtain ⟨N, hN⟩ : ∃ N, ts.length = N := ⟨_, rfl⟩
  rw [hN] at hV hsm hNl ⊢
  replace hN := hide hN
  have hsw : w.heap.size ≤ w2.heap.size := HB.size
  rw [hN.out] at hall
  have fin : ∀ v rs wr, rs.Perm (runsTo lg N) → SortR rs → wr.ownsRow w2.heap.size 72 4 v rs.length (flatRuns rs) → Below w2.heap.size w2 wr → AnsPlan w all (.returned v) wr := fun v rs wr h1 h2 h3 h4 => ⟨v, rs, rfl, by rw [← hall.out]; exact h1, h2, own_base h3 hsw, btrans HB h4⟩
  replace fin := hide fin
  clear HB
  go_wp2
  go_loopw [5, 6, 7, 8, 9, 14] (fun v _ _ _ _ ix wr => ∃ k : Nat, k ≤ N ∧ ix = .int .i64 k ∧ wr.ownsRow w2.heap.size 72 4 v (runsTo lg k).length (flatRuns (runsTo lg k)) ∧ Below w2.heap.size w2 wr) (fun _ _ _ _ _ ix _ => N - (intOf ix).toNat)
  case atStart => exact ⟨0, Nat.zero_le _, rfl, World.ownsRow_nil _ _ _ _, Below.refl _ _⟩
  case round =>
    obtain ⟨k, hk, rfl, ho, hb⟩ := hrel
    by_cases hlt : k < N
    · have hk0 : (0 : Int) ≤ (k : Int) := by omega
      have hk1 : (k : Int) < (N : Int) := by omega
      obtain ⟨la, lc, c0, hU⟩ := hV k hlt
      replace c0 := ble hb c0
      have hrs := hide (runsTo_succ lg k)
      have hlen := hsm.out (k + 1) (by omega)
      rw [hrs.out, List.length_append, legR_len] at hlen
      generalize hus : lg k = us at *
      replace hus := hide hus
      generalize runsTo lg k = rs0 at *
      obtain ⟨K, hK⟩ : ∃ K, us.length = K := ⟨_, rfl⟩
      rw [hK] at c0 hlen
      have hrs2 : Hid (runsTo lg (k + 1) = rs0 ++ legR k us K) := hide (by rw [hrs.out, hK])
      replace hK := hide hK
      clear hrs
      go_wp2
      obtain ⟨wo, rfl⟩ : ∃ wo, wo = wr := ⟨wr, rfl⟩
      go_loopw [5, 8, 9, 21] (fun v _ _ ix wr => ∃ q : Nat, q ≤ K ∧ ix = .int .i64 q ∧ wr.ownsRow w2.heap.size 72 4 v (rs0 ++ legR k us q).length (flatRuns (rs0 ++ legR k us q)) ∧ Below w2.heap.size w2 wr) (fun _ _ _ ix _ => K - (intOf ix).toNat)
      case atStart => exact ⟨0, Nat.zero_le _, rfl, by simpa [legR] using ho, hb⟩
      case round =>
        obtain ⟨q, hq, rfl, ho, hb⟩ := hrel
        by_cases hlq : q < K
        · have hq0 : (0 : Int) ≤ (q : Int) := by omega
          have hq1 : (q : Int) < (K : Int) := by omega
          rcases hU with h | ⟨b, off, rfl, hc⟩
          · have := hK.out; rw [h] at this; simp at this; omega
          obtain ⟨d0, d1, d2, d3, d4⟩ := hc q (by rw [hK.out]; exact hlq)
          replace d0 := ble hb d0
          replace d1 := ble hb d1
          replace d2 := ble hb d2
          replace d3 := ble hb d3
          replace d4 := ble hb d4
          have hst := hide (legR_succ k us q)
          have hll : (rs0 ++ legR k us q).length ≤ 264 := by rw [List.length_append, legR_len]; omega
          obtain ⟨xs, hxs⟩ : ∃ xs, rs0 ++ legR k us q = xs := ⟨_, rfl⟩
          rw [hxs] at ho hll
          replace hxs := hide hxs
          generalize us.getD q RideV.zero = u at *
          obtain ⟨ue, ud, uf, ut, up⟩ := u
          dsimp only at d0 d1 d2 d3 d4 hst
          obtain ⟨va, vc, rfl⟩ := own_form ho
          have hb1 := balloc wr (.cells #[.int .i64 ue, .int .i64 ud, .int .i64 uf, .int .i64 ut, .int .i64 up] 78)
          obtain ⟨⟨y0, y1, y2, y3, y4⟩, -⟩ := blk5 (one_block wr (.cells #[.int .i64 ue, .int .i64 ud, .int .i64 uf, .int .i64 ut, .int .i64 up] 78))
          have ho1 := own_keep ho hb1
          have hB1 := btrans hb hb1
          have hb2 := balloc (wr.alloc (.cells #[.int .i64 ue, .int .i64 ud, .int .i64 uf, .int .i64 ut, .int .i64 up] 78)) (.cells #[.int .i64 (k : Int), .int .i64 (q : Int), .int .i64 uf, .int .i64 ut] 72)
          have ho2 := own_keep ho1 hb2
          have hB2 := btrans hB1 hb2
          clear hc hb1 hb2 ho1
          go_wp2_with (at_builtin; refine wpList_append_own _ rfl _ _ 41 rfl w2.heap.size 72 i0 _ 4 32 Try.underlying41 hi hz0 hz1 hz2 rfl (by decide) _ _ _ rfl ho2 ⟨wr.heap.size + 1, 0, none⟩ 1 1 (RunV.vs ⟨(k : Int), (q : Int), uf, ut⟩) rfl rfl ?c1 ?c2 ?c3 ?c4 ?c5 ?_)
          case c1 =>
            have hY := (two_blocksL wr (.cells #[.int .i64 ue, .int .i64 ud, .int .i64 uf, .int .i64 ut, .int .i64 up] 78) (.cells #[.int .i64 (k : Int), .int .i64 (q : Int), .int .i64 uf, .int .i64 ut] 72)).2
            intro j u h
            rcases j with _ | _ | _ | _ | j
            · simp [RunV.vs] at h; subst h; exact Go.Joins.cell_of_block hY 0
            · simp [RunV.vs] at h; subst h; exact Go.Joins.cell_of_block hY 1
            · simp [RunV.vs] at h; subst h; exact Go.Joins.cell_of_block hY 2
            · simp [RunV.vs] at h; subst h; exact Go.Joins.cell_of_block hY 3
            · simp [RunV.vs] at h
          case c2 => simp [Value.oneCell', RunV.vs]
          case c3 => unfold maxLen; omega
          case c4 => omega
          case c5 => exact hB2.size
          intro v2 w5 hown hgrow _
          have hb5 := hB2.grown hgrow hB2.size (own_from ho (Nat.le_refl _))
          have hown2 : w5.ownsRow w2.heap.size 72 4 v2 (rs0 ++ legR k us (q + 1)).length (flatRuns (rs0 ++ legR k us (q + 1))) := by
            rw [hst.out, ← List.append_assoc, hxs.out, flatRuns_app, flat_one_run, List.length_append]
            exact hown
          clear hgrow hown ho2 hB1 hB2 d0 d1 d2 d3 d4 hst
          go_wp2
          go_roundw
          case rel => exact ⟨q + 1, by omega, by go_num, hown2, hb5⟩
          case measure => simp [intOf]; omega
        · obtain rfl : q = K := by omega
          rw [← hrs2.out] at ho
          clear hU c0
          go_wp2
          go_roundw
          case rel => exact ⟨k + 1, by omega, by go_num, ho, hb⟩
          case measure => simp [intOf]; omega
    · obtain rfl : k = N := by omega
      have hll := hsm.out k (by omega)
      generalize runsTo lg k = rs at *
      clear hV
      rcases ho.2 with ⟨rfl, h0⟩ | ⟨g2, cp, cur, rfl, -⟩
      · obtain rfl : rs = [] := List.length_eq_zero_iff.1 h0
        go_wp2_with fail
        refine (AnyF.slices_SortFunc_none Try.sortR none 0 _ _).mono ?_
        rintro e w5 ⟨rfl, hw⟩
        subst hw
        have hf := fin.out _ [] _ (List.Perm.refl _) (fun i j _ hj => by simp at hj) (World.ownsRow_nil _ _ _ _) hb
        go_wp2
        go_ret
        exact hf
      · go_wp2_with fail
        refine (cSortRuns w2.heap.size g2 cp rs _ ho (by omega)).mono ?_
        rintro e w5 ⟨rfl, rs2, hp, hs, ho2, hgr⟩
        have hb5 := hb.grown hgr hb.size (fun j hj => own_from ho (Nat.le_refl _) j hj)
        have hlr := hp.length_eq
        rw [← hlr] at ho2 hs
        have hf := fin.out _ rs2 _ hp hs ho2 hb5
        rw [hlr] at hf
        clear ho2 hgr hs hp ho
        go_wp2
        go_ret
        exact hf
end Go.Proofs.Ythfknkmabjgklaa
