/- Draws: right trains, moves. -/
import Derived.Test.YtcfapadcgboalaaDoorDK
import Derived.Test.YtcfapadcgboalaaDoorZE
namespace Go.Proofs.YtcfapadcgboalaaDoor
open Go.RowKit

theorem own_some {w : World} {base e sz n : Nat} {v : Value} {xs : List Value} (h : w.ownsRow base e sz v n xs) (hn : 0 < n) : ∃ g c, v = .slice (some ⟨g, 0, none⟩) n c := by
  rcases h.2 with ⟨_, h0⟩ | ⟨g, c, cur, rfl, _⟩
  · omega
  · exact ⟨g, c, rfl⟩
def goodT (n : Int) (ts : List SpanV) (I : Int) : Prop := (∀ j, j < ts.length → tOk n ts j = true) ∧ ts.length ≤ 4 ∧ freeAt ts ts.length ≤ I ∧ 0 ≤ I ∧ I ≤ 100
theorem good_nil (n I : Int) (h0 : 0 ≤ I) (h1 : I ≤ 100) : goodT n [] I := ⟨fun j hj => by simp at hj, by simp, by simpa [freeAt] using h0, h0, h1⟩
theorem getD_app (ts : List SpanV) (t : SpanV) (j : Nat) (hj : j ≤ ts.length) : (ts ++ [t]).getD j SpanV.zero = if j = ts.length then t else ts.getD j SpanV.zero := by
  by_cases e : j = ts.length
  · subst e; simp [List.getD]
  · rw [if_neg e]; simp [List.getD, List.getElem?_append, show j < ts.length by omega]
theorem good_app {n : Int} {ts : List SpanV} {I f J : Int} (h : goodT n ts I) (hl : ts.length < 4) (h1 : I ≤ f) (h2 : f < n) (h3 : f + 1 ≤ J) (h4 : J ≤ 100) : goodT n (ts ++ [⟨I, f⟩]) J := by
  obtain ⟨g1, g2, g3, g4, g5⟩ := h
  have hlen : (ts ++ [(⟨I, f⟩ : SpanV)]).length = ts.length + 1 := by simp
  have er : ∀ j, j ≤ ts.length → rAt (ts ++ [⟨I, f⟩]) j = if j = ts.length then I else rAt ts j := fun j hj => by
    unfold rAt; rw [getD_app _ _ _ hj]; split <;> rfl
  have ef : ∀ j, j ≤ ts.length → fAt (ts ++ [⟨I, f⟩]) j = if j = ts.length then f else fAt ts j := fun j hj => by
    unfold fAt; rw [getD_app _ _ _ hj]; split <;> rfl
  have e0 : ∀ j, j ≤ ts.length → freeAt (ts ++ [⟨I, f⟩]) j = freeAt ts j := fun j hj => by
    cases j with
    | zero => rfl
    | succ j => simp only [freeAt]; rw [ef j (by omega), if_neg (by omega)]
  refine ⟨fun j hj => ?_, by omega, ?_, by omega, h4⟩
  · rw [hlen] at hj
    simp only [tOk]
    rw [er j (by omega), ef j (by omega), e0 j (by omega)]
    by_cases e : j = ts.length
    · rw [if_pos e, if_pos e, e]; exact decide_eq_true (by omega)
    · rw [if_neg e, if_neg e]; exact g1 j (by omega)
  · rw [hlen]
    simp only [freeAt]
    rw [ef _ (Nat.le_refl _), if_pos rfl]; exact h3
theorem good_ok {n : Int} {ts : List SpanV} {I : Int} (h : goodT n ts I) (h1 : 1 ≤ n) (h2 : n ≤ 100) : trainsOk n ts = true := trains_y (inB_yes h1 h2) (by have := h.2.1; omega) h.1

set_option maxRecDepth 20000 in
set_option maxHeartbeats 6400000 in
theorem cDrawTrains (cb cap : Nat) (a : Option Addr) (zs : List Int) (n : Int) (w : World) (hc : Cur w cb a cap zs) (hl : zs.length ≤ 1048576) (hn : 2 ≤ n) (hn1 : n ≤ 15) :
    Calls Tryd.prog 19 #[.pointer (some ⟨cb, 0, none⟩), .int .i64 n] w fun e w' => ∃ (u : Value) (ts : List SpanV), e = .returned u ∧ trainsOk n ts = true ∧ w'.ownsRow w.heap.size 34 2 u ts.length (flatSpans ts) ∧ Cur w' cb a cap zs ∧ w.grownBy w' (some cb) := by
  obtain ⟨i0, hi, hz0, hz1, hz2⟩ := info_parts2 infoSpans
  have hB : ∀ k, OnCur cb a zs k → k < w.heap.size := fun k hk => hc.lt hk
  have hcb := hB cb (.inl rfl)
  have C0 := hc.below (balloc w (.cells #[] 34))
  have O0 : (w.alloc (.cells #[] 34)).ownsRow w.heap.size 34 2 (.slice (some ⟨w.heap.size, 0, none⟩) 0 0) 0 [] := World.ownsRow_made w #[] 0 (Nat.le_refl _) (by omega) (by simp)
  go_enter Tryd.func19, Tryd.ntmps19
  go_wp2_with fail
  refine (cbelow cb cap a zs 3 _ C0 hl (by omega) (by omega)).mono ?_
  rintro e w1 ⟨x, rfl, x0, x1, C1, G1⟩
  have GW1 : w.grownBy w1 (some cb) := gtrans (gof (balloc w _)) G1
  have O1 := own_far O0 G1 (fun k hk e => by have := own_from O0 (Nat.le_refl _) k hk; cases e; omega)
  clear C0 O0 G1 hc
  go_wp2
  go_loopw [5, 6, 7] (fun o ii _ wr => ∃ (ts : List SpanV) (I : Int), ii = .int .i64 I ∧ goodT n ts I ∧ wr.ownsRow w.heap.size 34 2 o ts.length (flatSpans ts) ∧ Cur wr cb a cap zs ∧ w.grownBy wr (some cb)) (fun _ ii _ _ => (n - intOf ii).toNat)
  case atStart => exact ⟨[], x, rfl, good_nil n x x0 (by omega), O1, C1, GW1⟩
  case round =>
    obtain ⟨ts, I, rfl, hgood, O, C, G⟩ := hrel
    clear O1 C1 GW1
    obtain ⟨vo, co, rfl⟩ := own_form O
    have hI0 : 0 ≤ I := hgood.2.2.2.1
    have hI1 : I ≤ 100 := hgood.2.2.2.2
    have hl4 : ts.length ≤ 4 := hgood.2.1
    by_cases h1 : I < n
    · by_cases h2 : ts.length < 4
      · have h2' : (ts.length : Int) < 4 := by omega
        go_wp2_with fail
        refine (cbelow cb cap a zs 3 _ C hl (by omega) (by omega)).mono ?_
        rintro e w2 ⟨y, rfl, y0, y1, C2, G2⟩
        have O2 := own_far O G2 (fun k hk e => by have := own_from O (Nat.le_refl _) k hk; cases e; omega)
        have GW2 := gtrans G G2
        clear O C G G2
        have hsz2 := GW2.size
        by_cases h3 : n ≤ I + y
        · have hf : I ≤ n - 1 := by omega
          go_wp2_with (at_builtin; refine wpList_append_own _ rfl _ _ 24 rfl w.heap.size 34 i0 (.agg #[.int .i64 0, .int .i64 0]) 2 16 Tryd.underlying24 hi hz0 hz1 hz2 rfl (by decide) _ _ _ rfl (O2.alloc _) ⟨w2.heap.size, 0, none⟩ 1 1 [.int .i64 I, .int .i64 (n - 1)] rfl rfl ?c1 ?c2 ?c3 ?c4 ?c5 ?_)
          case c1 =>
            intro j u hj
            match j, hj with
            | 0, hj => simp at hj; subst hj; simp [Addr.add]
            | 1, hj => simp at hj; subst hj; simp [Addr.add]
          case c2 => intro u hu; simp at hu; rcases hu with rfl | rfl <;> rfl
          case c3 => unfold maxLen; omega
          case c4 => omega
          case c5 => simp; omega
          intro v' w5 hown' hgrow _
          have hfrom := own_from O2 (Nat.le_refl _)
          have GW5 : w.grownBy w5 (some cb) := grown_far (gtrans GW2 (gof (balloc w2 _))) hgrow hfrom
          have C5 := Cur.grow (C2.below (balloc w2 _)) hB hgrow hfrom
          have O5 : w5.ownsRow w.heap.size 34 2 v' (ts ++ [(⟨I, n - 1⟩ : SpanV)]).length (flatSpans (ts ++ [⟨I, n - 1⟩])) := by
            rw [flatSpans_app, List.length_append]; exact hown'
          clear O2 C2 GW2 hown' hgrow hfrom
          go_wp2_with fail
          refine (cbelow cb cap a zs 4 _ C5 hl (by omega) (by omega)).mono ?_
          rintro e w6 ⟨z, rfl, z0, z1, C6, G6⟩
          have O6 := own_far O5 G6 (fun k hk e => by have := own_from O5 (Nat.le_refl _) k hk; cases e; omega)
          have GW6 := gtrans GW5 G6
          clear O5 C5 GW5 G6
          have hgood2 := good_app (J := n - 1 + 1 + z) hgood h2 hf (by omega) (by omega) (by omega)
          clear hgood
          go_wp2
          go_roundw
          case rel => exact ⟨_, _, by go_num, hgood2, O6, C6, GW6⟩
          case measure => simp [intOf]; omega
        · have hf : I ≤ I + y := by omega
          go_wp2_with (at_builtin; refine wpList_append_own _ rfl _ _ 24 rfl w.heap.size 34 i0 (.agg #[.int .i64 0, .int .i64 0]) 2 16 Tryd.underlying24 hi hz0 hz1 hz2 rfl (by decide) _ _ _ rfl (O2.alloc _) ⟨w2.heap.size, 0, none⟩ 1 1 [.int .i64 I, .int .i64 (I + y)] rfl rfl ?c1 ?c2 ?c3 ?c4 ?c5 ?_)
          case c1 =>
            intro j u hj
            match j, hj with
            | 0, hj => simp at hj; subst hj; simp [Addr.add]
            | 1, hj => simp at hj; subst hj; simp [Addr.add]
          case c2 => intro u hu; simp at hu; rcases hu with rfl | rfl <;> rfl
          case c3 => unfold maxLen; omega
          case c4 => omega
          case c5 => simp; omega
          intro v' w5 hown' hgrow _
          have hfrom := own_from O2 (Nat.le_refl _)
          have GW5 : w.grownBy w5 (some cb) := grown_far (gtrans GW2 (gof (balloc w2 _))) hgrow hfrom
          have C5 := Cur.grow (C2.below (balloc w2 _)) hB hgrow hfrom
          have O5 : w5.ownsRow w.heap.size 34 2 v' (ts ++ [(⟨I, I + y⟩ : SpanV)]).length (flatSpans (ts ++ [⟨I, I + y⟩])) := by
            rw [flatSpans_app, List.length_append]; exact hown'
          clear O2 C2 GW2 hown' hgrow hfrom
          go_wp2_with fail
          refine (cbelow cb cap a zs 4 _ C5 hl (by omega) (by omega)).mono ?_
          rintro e w6 ⟨z, rfl, z0, z1, C6, G6⟩
          have O6 := own_far O5 G6 (fun k hk e => by have := own_from O5 (Nat.le_refl _) k hk; cases e; omega)
          have GW6 := gtrans GW5 G6
          clear O5 C5 GW5 G6
          have hgood2 := good_app (J := I + y + 1 + z) hgood h2 hf (by omega) (by omega) (by omega)
          clear hgood
          go_wp2
          go_roundw
          case rel => exact ⟨_, _, by go_num, hgood2, O6, C6, GW6⟩
          case measure => simp [intOf]; omega
      · have h2' : ¬ ((ts.length : Int) < 4) := by omega
        have ht := good_ok hgood (by omega) (by omega)
        go_wp2
        go_ret
        exact ⟨_, rfl, ts, ht, O, C, G⟩
    · have h1' : decide (I < n) = false := decide_eq_false h1
      have ht := good_ok hgood (by omega) (by omega)
      go_wp2
      go_ret
      exact ⟨_, rfl, ts, ht, O, C, G⟩

set_option maxRecDepth 20000 in
set_option maxHeartbeats 6400000 in
theorem cDrawMoves (cb cap : Nat) (a : Option Addr) (zs : List Int) (w : World) (hc : Cur w cb a cap zs) (hl : zs.length ≤ 1048576) :
    Calls Tryd.prog 20 #[.pointer (some ⟨cb, 0, none⟩), .slice a zs.length cap] w fun e w' => ∃ (u : Value) (ms : List Int), e = .returned u ∧ ms.length ≤ 100 ∧ (∃ g c, u = .slice (some ⟨g, 0, none⟩) ms.length c) ∧ w'.ownsRow w.heap.size 3 1 u ms.length (ms.map (Value.int .i64)) ∧ Cur w' cb a cap zs ∧ w.grownBy w' (some cb) := by
  obtain ⟨i0, hi, hz0, hz1, hz2⟩ := info_parts2 infoInts
  have hB : ∀ k, OnCur cb a zs k → k < w.heap.size := fun k hk => hc.lt hk
  have hcb := hB cb (.inl rfl)
  have C0 := hc.below (balloc w (.cells #[] 3))
  have O0 : (w.alloc (.cells #[] 3)).ownsRow w.heap.size 3 1 (.slice (some ⟨w.heap.size, 0, none⟩) 0 0) 0 [] := World.ownsRow_made w #[] 0 (Nat.le_refl _) (by omega) (by simp)
  go_enter Tryd.func20, Tryd.ntmps20
  go_wp2_with fail
  refine (csize a zs.length cap 20 _ hl (by omega) (by omega)).mono ?_
  rintro e w1 ⟨s, rfl, s0, s1, hw⟩
  subst w1
  go_wp2_with fail
  refine (cbelow cb cap a zs (4 + 2 * s) _ C0 hl (by omega) (by omega)).mono ?_
  rintro e w1 ⟨x, rfl, x0, x1, C1, G1⟩
  have GW1 : w.grownBy w1 (some cb) := gtrans (gof (balloc w _)) G1
  have O1 := own_far O0 G1 (fun k hk e => by have := own_from O0 (Nat.le_refl _) k hk; cases e; omega)
  clear C0 O0 G1 hc
  go_wp2
  go_loopw [5, 6] (fun o ii wr => ∃ (ms : List Int) (I : Int), ii = .int .i64 I ∧ 0 ≤ I ∧ (ms.length : Int) + I = x ∧ (∃ g c, o = .slice (some ⟨g, 0, none⟩) ms.length c) ∧ wr.ownsRow w.heap.size 3 1 o ms.length (ms.map (Value.int .i64)) ∧ Cur wr cb a cap zs ∧ w.grownBy wr (some cb)) (fun _ ii _ => (intOf ii).toNat)
  case atStart => exact ⟨[], x, rfl, x0, by simp, ⟨_, _, rfl⟩, O1, C1, GW1⟩
  case round =>
    obtain ⟨ms, I, rfl, I0, hLI, ⟨go, co, rfl⟩, O, C, G⟩ := hrel
    clear O1 C1 GW1
    by_cases hI : 0 < I
    · go_wp2_with fail
      refine (cbelow cb cap a zs 9 _ C hl (by omega) (by omega)).mono ?_
      rintro e w2 ⟨y, rfl, y0, y1, C2, G2⟩
      have O2 := own_far O G2 (fun k hk e => by have := own_from O (Nat.le_refl _) k hk; cases e; omega)
      have GW2 := gtrans G G2
      clear O C G G2
      go_wp2_with fail
      refine (cbelow cb cap a zs 20 _ C2 hl (by omega) (by omega)).mono ?_
      rintro e w3 ⟨z, rfl, z0, z1, C3, G3⟩
      have O3 := own_far O2 G3 (fun k hk e => by have := own_from O2 (Nat.le_refl _) k hk; cases e; omega)
      have GW3 := gtrans GW2 G3
      clear O2 C2 GW2 G3
      have hsz := GW3.size
      obtain ⟨zn, rfl⟩ := Int.eq_ofNat_of_zero_le z0
      have hd : Int.tdiv (zn : Int) 19 = ((zn / 19 : Nat) : Int) := rfl
      have hd2 : (zn : Int) / 19 = ((zn / 19 : Nat) : Int) := by omega
      have hdb : zn / 19 ≤ 1 := by omega
      have hw1 : IntKind.i64.wrap ((zn / 19 : Nat) : Int) = ((zn / 19 : Nat) : Int) := wrap_in _ (by omega) (by omega)
      have hw2 : IntKind.i64.wrap (y - ((zn / 19 : Nat) : Int)) = y - ((zn / 19 : Nat) : Int) := wrap_in _ (by omega) (by omega)
      generalize ((zn / 19 : Nat) : Int) = qq at *
      go_wp2_with (at_builtin; refine wpList_append_own _ rfl _ _ 25 rfl w.heap.size 3 i0 (.int .i64 0) 1 8 Tryd.underlying25 hi hz0 hz1 hz2 rfl (by decide) _ _ _ rfl (O3.alloc _) ⟨w3.heap.size, 0, none⟩ 1 1 [.int .i64 (y - qq)] rfl rfl ?c1 ?c2 ?c3 ?c4 ?c5 ?_)
      case c1 =>
        intro j u hj
        match j, hj with
        | 0, hj => simp at hj; subst hj; simp [Addr.add]
      case c2 => intro u hu; simp at hu; subst hu; rfl
      case c3 => unfold maxLen; omega
      case c4 => omega
      case c5 => simp; omega
      intro v' w5 hown' hgrow _
      have hfrom := own_from O3 (Nat.le_refl _)
      have GW5 : w.grownBy w5 (some cb) := grown_far (gtrans GW3 (gof (balloc w3 _))) hgrow hfrom
      have C5 := Cur.grow (C3.below (balloc w3 _)) hB hgrow hfrom
      have O5 : w5.ownsRow w.heap.size 3 1 v' (ms ++ [y - qq]).length ((ms ++ [y - qq]).map (Value.int .i64)) := by
        rw [List.length_append, List.map_append]; exact hown'
      clear O3 C3 GW3 hown' hgrow hfrom
      go_wp2
      go_roundw
      case rel => exact ⟨ms ++ [y - qq], I - 1, by go_num, by omega, by simp; omega, own_some O5 (by simp), O5, C5, GW5⟩
      case measure => simp [intOf]; omega
    · obtain rfl : I = 0 := by omega
      go_wp2
      go_ret
      exact ⟨_, rfl, ms, by omega, ⟨_, _, rfl⟩, O, C, G⟩
end Go.Proofs.YtcfapadcgboalaaDoor
