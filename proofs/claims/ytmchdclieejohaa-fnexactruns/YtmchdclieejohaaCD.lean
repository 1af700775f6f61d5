/- Runs and NextRun: the model's texts; the walks of the two laws. -/
import Derived.Test.YtmchdclieejohaaCC
import Derived.Test.YtmchdclieejohaaJ
import Derived.Test.YtmchdclieejohaaG
import Derived.Deep.RegionWith
namespace Go.Proofs.Ytmchdclieejohaa
open Go.RowKit

set_option maxHeartbeats 1600000 in
theorem c28 (a1 a2 : Option Addr) (p1 p2 : Nat) (zs es : List Int) (W F T : Int) (w : World) (hz : Ints w a1 zs) (he : Ints w a2 es) (hl1 : zs.length ≤ 1048576) (hl2 : es.length ≤ 1048576) :
    Calls Try.prog 28 #[.agg #[.int .i64 W, .int .i64 F, .int .i64 T, .slice a1 zs.length p1, .slice a2 es.length p2]] w fun e w' => e = .returned (.int .i64 (runList W F T zs es).length) ∧ Below w.heap.size w w' := by
  go_enter Try.func28, Try.ntmps28
  go_wp2_with fail
  refine (c25 a1 a2 p1 p2 zs es W F T _ (hz.below (balloc _ _)) (he.below (balloc _ _)) hl1 hl2).mono ?_
  rintro e w1 ⟨rfl, hb⟩
  have HB := btrans (balloc _ _) hb
  have X1 := Bx.mk hb
  clear hb
  cases hp : patOk W F T zs es
  · have RL := hide (runList_no hp)
    go_wp2
    go_ret
    exact ⟨ret_int (by rw [RL.out]; rfl), HB⟩
  have RL := hide (runList_yes hp)
  obtain ⟨_, ⟨q2, q3, q4⟩, _, _⟩ := patOk_bd hp
  obtain ⟨b0, b1, b2, b3, b4⟩ := id X1
  go_wp2_with fail
  clear b0 b1 b2 b3 b4
  go_loopw [3, 4] (fun n day wr => ∃ j : Nat, (j : Int) ≤ T - F + 1 ∧ n = .int .i64 (pick (onB W F T zs es) F j).length ∧ day = .int .i64 (F + j) ∧ Below w1.heap.size w1 wr) (fun _ day _ => (T + 1 - intOf day).toNat)
  case atStart => exact ⟨0, by omega, rfl, by simp, Below.refl _ _⟩
  case round =>
    obtain ⟨j, hj, rfl, rfl, hbr⟩ := hrel
    have ln := pick_len (onB W F T zs es) F j
    obtain ⟨b0, b1, b2, b3, b4⟩ := X1.below hbr
    by_cases hlt : F + j ≤ T
    · cases hon : onB W F T zs es (F + j)
      · have PK := hide (pick_no _ _ _ hon)
        go_wp2_with fail
        refine (c39 a1 a2 p1 p2 zs es W F T _ _ (hz.below (btrans HB hbr)) (he.below (btrans HB hbr)) hl1 hl2).mono ?_
        rintro e w2 ⟨rfl, hb2⟩
        go_wp2
        go_roundw
        case rel => exact ⟨j + 1, by omega, by rw [PK.out], by rw [day_next'], btrans hbr hb2⟩
        case measure => simp [intOf]; omega
      · have PK := hide (show (pick (onB W F T zs es) F (j + 1)).length = (pick (onB W F T zs es) F j).length + 1 by rw [pick_yes _ _ _ hon]; simp)
        go_wp2_with fail
        refine (c39 a1 a2 p1 p2 zs es W F T _ _ (hz.below (btrans HB hbr)) (he.below (btrans HB hbr)) hl1 hl2).mono ?_
        rintro e w2 ⟨rfl, hb2⟩
        go_wp2
        go_roundw
        case rel => exact ⟨j + 1, by omega, by rw [PK.out]; rfl, by rw [day_next'], btrans hbr hb2⟩
        case measure => simp [intOf]; omega
    · have RJ := hide (show (runList W F T zs es).length = (pick (onB W F T zs es) F j).length by rw [RL.out]; congr 2; omega)
      go_wp2
      go_ret
      exact ⟨ret_int (by rw [RJ.out]), btrans HB hbr⟩

set_option maxHeartbeats 1600000 in
theorem c29 (a1 a2 : Option Addr) (p1 p2 : Nat) (zs es : List Int) (W F T d : Int) (w : World) (hz : Ints w a1 zs) (he : Ints w a2 es) (hl1 : zs.length ≤ 1048576) (hl2 : es.length ≤ 1048576) :
    Calls Try.prog 29 #[.agg #[.int .i64 W, .int .i64 F, .int .i64 T, .slice a1 zs.length p1, .slice a2 es.length p2], .int .i64 d] w fun e w' => e = .returned (.int .i64 (nextOf (runList W F T zs es) d)) ∧ Below w.heap.size w w' := by
  go_enter Try.func29, Try.ntmps29
  go_wp2_with fail
  refine (c25 a1 a2 p1 p2 zs es W F T _ (hz.below (balloc _ _)) (he.below (balloc _ _)) hl1 hl2).mono ?_
  rintro e w1 ⟨rfl, hb⟩
  have HB := btrans (balloc _ _) hb
  have X1 := Bx.mk hb
  clear hb
  cases hp : patOk W F T zs es
  · have RL := hide (show nextOf (runList W F T zs es) d = -1 by rw [runList_no hp]; rfl)
    go_wp2
    go_ret
    exact ⟨ret_int (by rw [RL.out]), HB⟩
  have RL := hide (runList_yes hp)
  obtain ⟨_, ⟨q2, q3, q4⟩, _, _⟩ := patOk_bd hp
  obtain ⟨b0, b1, b2, b3, b4⟩ := id X1
  go_wp2_with fail
  clear b0 b1 b2 b3 b4
  go_loopw [5] (fun day wr => ∃ j : Nat, (j : Int) ≤ T - F + 1 ∧ (∀ y ∈ pick (onB W F T zs es) F j, y < d) ∧ day = .int .i64 (F + j) ∧ Below w1.heap.size w1 wr) (fun day _ => (T + 1 - intOf day).toNat)
  case atStart => exact ⟨0, by omega, by simp [pick], by simp, Below.refl _ _⟩
  case round =>
    obtain ⟨j, hj, hall, rfl, hbr⟩ := hrel
    have hAll := hide hall
    clear hall
    obtain ⟨b0, b1, b2, b3, b4⟩ := X1.below hbr
    by_cases hlt : F + j ≤ T
    · by_cases hd : d ≤ F + j
      · cases hon : onB W F T zs es (F + j)
        · have PK := hide (pick_no _ _ _ hon)
          go_wp2_with fail
          refine (c39 a1 a2 p1 p2 zs es W F T _ _ (hz.below (btrans HB hbr)) (he.below (btrans HB hbr)) hl1 hl2).mono ?_
          rintro e w2 ⟨rfl, hb2⟩
          go_wp2
          go_roundw
          case rel => exact ⟨j + 1, by omega, by rw [PK.out]; exact hAll.out, by rw [day_next'], btrans hbr hb2⟩
          case measure => simp [intOf]; omega
        · have PK := hide (show nextOf (runList W F T zs es) d = F + j from next_some (pre := pick (onB W F T zs es) F j) (by rw [RL.out, ← pick_yes _ _ _ hon]; exact pick_pre _ _ _ _ (by omega)) hAll.out hd)
          go_wp2_with fail
          refine (c39 a1 a2 p1 p2 zs es W F T _ _ (hz.below (btrans HB hbr)) (he.below (btrans HB hbr)) hl1 hl2).mono ?_
          rintro e w2 ⟨rfl, hb2⟩
          go_wp2
          go_ret
          exact ⟨ret_int (by rw [PK.out]), btrans (btrans HB hbr) hb2⟩
      · have PK := hide (show ∀ y ∈ pick (onB W F T zs es) F (j + 1), y < d by
          cases hon : onB W F T zs es (F + j)
          · rw [pick_no _ _ _ hon]; exact hAll.out
          · rw [pick_yes _ _ _ hon]; intro y hy; rcases List.mem_append.1 hy with hy | hy
            · exact hAll.out y hy
            · simp at hy; omega)
        go_wp2
        go_roundw
        case rel => exact ⟨j + 1, by omega, PK.out, by rw [day_next'], hbr⟩
        case measure => simp [intOf]; omega
    · have RJ := hide (show nextOf (runList W F T zs es) d = -1 by
        rw [RL.out]
        have e : (T + 1 - F).toNat = j := by omega
        rw [e]
        exact next_none hAll.out)
      go_wp2
      go_ret
      exact ⟨ret_int (by rw [RJ.out]), btrans HB hbr⟩

set_option maxHeartbeats 1600000 in
theorem walk7 (a1 a2 : Option Addr) (p1 p2 : Nat) (zs es : List Int) (W F T : Int) (w : World) (h1 : Ints w a1 zs) (h2 : Ints w a2 es) (hn1 : zs.length ≤ maxLen) (hn2 : es.length ≤ maxLen) :
    Calls Try.prog 7 #[.agg #[.int .i64 W, .int .i64 F, .int .i64 T, .slice a1 zs.length p1, .slice a2 es.length p2]] w fun e w' => e = .returned (.bool true) ∧ Below w.heap.size w w' := by
  go_enter Try.func7, Try.ntmps7
  go_wp2_with fail
  refine (c24 a1 a2 zs.length es.length p1 p2 _ _ _ 1048576 _ (by omega) (by omega) hn1 hn2).mono ?_
  rintro e w1 ⟨r, rfl, hr, hb⟩
  have HB := btrans (balloc _ _) hb
  have X1 := Bx.mk hb
  clear hb
  rcases hr with rfl | ⟨hr, hr0⟩
  · go_wp2
    go_ret
    exact ⟨rfl, HB⟩
  · have hl1 : zs.length ≤ 1048576 := by omega
    have hl2 : es.length ≤ 1048576 := by omega
    clear hr
    obtain ⟨b0, b1, b2, b3, b4⟩ := id X1
    go_wp2_with fail
    clear b0 b1 b2 b3 b4
    refine (c26 a1 a2 p1 p2 zs es W F T _ (h1.below HB) (h2.below HB) hl1 hl2).mono ?_
    rintro e w2 ⟨g1, g2, rfl, hop, hb2⟩
    have HB2 := btrans HB hb2
    have X2 := X1.below hb2
    clear hb2 HB X1
    go_wp2_with fail
    refine (c28 _ _ _ _ zs es W F T _ (Ints.of_owns hop.own1) (Ints.of_owns hop.own2) hl1 hl2).mono ?_
    rintro e w3 ⟨rfl, hb3⟩
    have HB3 := btrans HB2 hb3
    have X3 := X2.below hb3
    clear hb3 HB2 hop X2
    obtain ⟨b0, b1, b2, b3, b4⟩ := id X3
    go_wp2_with fail
    clear b0 b1 b2 b3 b4
    refine (c26 a1 a2 p1 p2 zs es W F T _ (h1.below HB3) (h2.below HB3) hl1 hl2).mono ?_
    rintro e w4 ⟨g3, g4, rfl, hop, hb4⟩
    have HB4 := btrans HB3 hb4
    have X4 := X3.below hb4
    clear hb4 HB3 X3
    go_wp2_with fail
    refine (c16 _ _ _ _ zs es W F T _ ((Ints.of_owns hop.own1).below (balloc _ _)) ((Ints.of_owns hop.own2).below (balloc _ _)) hl1 hl2).mono ?_
    rintro e w5 ⟨rfl, hb5⟩
    have Y5 := Bx.mk hb5
    have hop5 := (hop.below (balloc _ _)).below hb5
    have X5 := (X4.below (balloc _ _)).below hb5
    have HB5 := btrans (btrans HB4 (balloc _ _)) hb5
    clear hb5 HB4 X4 hop
    obtain ⟨b0, b1, b2, b3, b4⟩ := id X5
    obtain ⟨d0, d1, d2, d3, d4⟩ := id Y5
    go_wp2_with fail
    go_region_with (first
      | (go_at_call 26; refine (c26 a1 a2 p1 p2 zs es W F T _ (h1.below HB5.drew) (h2.below HB5.drew) hl1 hl2).mono ?_; rintro e w6 ⟨g5, g6, rfl, hop6, hb6⟩; have HB6 := btrans HB5 (undrew hb6); have hop5' := hop5.below (undrew hb6); obtain ⟨y0, y1, y2, y3, y4⟩ := Y5.below (undrew hb6))
      | (go_at_call 27; refine (c27 _ _ _ _ _ _ _ _ zs es W F T _ (Ints.of_owns hop5'.own1) (Ints.of_owns hop5'.own2) (Ints.of_owns hop6.own1) (Ints.of_owns hop6.own2) hl1 hl2).mono ?_; rintro e w7 ⟨rfl, hb7⟩))
    all_goals go_wp2
    all_goals go_ret
    all_goals exact ⟨rfl, btrans HB6 hb7⟩

set_option maxHeartbeats 1600000 in
theorem walk8 (a1 a2 : Option Addr) (p1 p2 : Nat) (zs es : List Int) (W F T : Int) (d : Int) (w : World) (h1 : Ints w a1 zs) (h2 : Ints w a2 es) (hn1 : zs.length ≤ maxLen) (hn2 : es.length ≤ maxLen) :
    Calls Try.prog 8 #[.agg #[.int .i64 W, .int .i64 F, .int .i64 T, .slice a1 zs.length p1, .slice a2 es.length p2], .int .i64 d] w fun e w' => e = .returned (.bool true) ∧ Below w.heap.size w w' := by
  go_enter Try.func8, Try.ntmps8
  go_wp2_with fail
  refine (c24 a1 a2 zs.length es.length p1 p2 _ _ _ 1048576 _ (by omega) (by omega) hn1 hn2).mono ?_
  rintro e w1 ⟨r, rfl, hr, hb⟩
  have HB := btrans (balloc _ _) hb
  have X1 := Bx.mk hb
  clear hb
  rcases hr with rfl | ⟨hr, hr0⟩
  · go_wp2
    go_ret
    exact ⟨rfl, HB⟩
  · have hl1 : zs.length ≤ 1048576 := by omega
    have hl2 : es.length ≤ 1048576 := by omega
    clear hr
    obtain ⟨b0, b1, b2, b3, b4⟩ := id X1
    go_wp2_with fail
    clear b0 b1 b2 b3 b4
    refine (c26 a1 a2 p1 p2 zs es W F T _ (h1.below HB) (h2.below HB) hl1 hl2).mono ?_
    rintro e w2 ⟨g1, g2, rfl, hop, hb2⟩
    have HB2 := btrans HB hb2
    have X2 := X1.below hb2
    clear hb2 HB X1
    go_wp2_with fail
    refine (c29 _ _ _ _ zs es W F T d _ (Ints.of_owns hop.own1) (Ints.of_owns hop.own2) hl1 hl2).mono ?_
    rintro e w3 ⟨rfl, hb3⟩
    have HB3 := btrans HB2 hb3
    have X3 := X2.below hb3
    clear hb3 HB2 hop X2
    obtain ⟨b0, b1, b2, b3, b4⟩ := id X3
    go_wp2_with fail
    clear b0 b1 b2 b3 b4
    refine (c26 a1 a2 p1 p2 zs es W F T _ (h1.below HB3) (h2.below HB3) hl1 hl2).mono ?_
    rintro e w4 ⟨g3, g4, rfl, hop, hb4⟩
    have HB4 := btrans HB3 hb4
    have X4 := X3.below hb4
    clear hb4 HB3 X3
    go_wp2_with fail
    refine (c23 _ _ _ _ zs es W F T d _ ((Ints.of_owns hop.own1).below (balloc _ _)) ((Ints.of_owns hop.own2).below (balloc _ _)) hl1 hl2).mono ?_
    rintro e w5 ⟨rfl, hb5⟩
    have Y5 := Bx.mk hb5
    have hop5 := (hop.below (balloc _ _)).below hb5
    have X5 := (X4.below (balloc _ _)).below hb5
    have HB5 := btrans (btrans HB4 (balloc _ _)) hb5
    clear hb5 HB4 X4 hop
    obtain ⟨b0, b1, b2, b3, b4⟩ := id X5
    obtain ⟨d0, d1, d2, d3, d4⟩ := id Y5
    go_wp2_with fail
    go_region_with (first
      | (go_at_call 26; refine (c26 a1 a2 p1 p2 zs es W F T _ (h1.below HB5.drew) (h2.below HB5.drew) hl1 hl2).mono ?_; rintro e w6 ⟨g5, g6, rfl, hop6, hb6⟩; have HB6 := btrans HB5 (undrew hb6); have hop5' := hop5.below (undrew hb6); obtain ⟨y0, y1, y2, y3, y4⟩ := Y5.below (undrew hb6))
      | (go_at_call 27; refine (c27 _ _ _ _ _ _ _ _ zs es W F T _ (Ints.of_owns hop5'.own1) (Ints.of_owns hop5'.own2) (Ints.of_owns hop6.own1) (Ints.of_owns hop6.own2) hl1 hl2).mono ?_; rintro e w7 ⟨rfl, hb7⟩))
    all_goals go_wp2
    all_goals go_ret
    all_goals exact ⟨rfl, btrans HB6 hb7⟩

end Go.Proofs.Ytmchdclieejohaa
