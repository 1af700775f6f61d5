/- The program's PlantOk: the blocks of a route; the whole. -/
import Derived.Test.YtpgjllefhlanpaaIP
namespace Go.Proofs.Ytpgjllefhlanpaa
open Go.RowKit

def F24 : Array Value := #[Value.bool false, Value.bool false, Value.bool false, Value.bool false, Value.bool false, Value.bool false, Value.bool false, Value.bool false, Value.bool false, Value.bool false, Value.bool false, Value.bool false, Value.bool false, Value.bool false, Value.bool false, Value.bool false, Value.bool false, Value.bool false, Value.bool false, Value.bool false, Value.bool false, Value.bool false, Value.bool false, Value.bool false]
/-- The marks of what was seen. -/
def Seen (w : World) (g : Nat) (t : TypeId) (L : List Int) : Prop := ∃ cs : Array Value, w.heap[g]? = some (.cells cs t (0, 0)) ∧ cs.size = 24 ∧ ∀ j, j < 24 → cs[j]? = some (.bool (decide ((j : Int) ∈ L)))
theorem Seen.below {w w' : World} {g : Nat} {t : TypeId} {L : List Int} (h : Seen w g t L) (hb : Below w.heap.size w w') : Seen w' g t L := by
  obtain ⟨cs, h1, h2, h3⟩ := h
  exact ⟨cs, blk_keep hb h1, h2, h3⟩
theorem Seen.cell {w : World} {g : Nat} {t : TypeId} {L : List Int} (h : Seen w g t L) {j : Nat} (hj : j < 24) : w.cell? ⟨g, j, none⟩ = some (.bool (decide ((j : Int) ∈ L))) ∧ w.frozen? ⟨g, j, none⟩ = false := by
  obtain ⟨cs, h1, h2, h3⟩ := h
  exact ⟨(Go.Joins.cell_of_block h1 j).trans (h3 j hj), Go.Joins.unfrozen_of_block h1 j⟩
def wr_set (w : World) (g j : Nat) : World := w.setCell ⟨g, j, none⟩ (.bool true)
theorem Seen.put {w : World} {g : Nat} {t : TypeId} {L : List Int} (h : Seen w g t L) (j : Nat) : Seen (wr_set w g j) g t (L ++ [(j : Int)]) := by
  obtain ⟨cs, h1, h2, h3⟩ := h
  refine ⟨_, Go.Joins.block_setCell h1 _, by simp [h2], fun i hi => ?_⟩
  by_cases hij : j = i
  · subst hij; simp [h2, hi]
  · rw [Array.getElem?_setIfInBounds_ne hij, h3 i hi]
    congr 2
    have : (i : Int) ≠ (j : Int) := by omega
    simp [this]
theorem seen_start (w : World) (g : Nat) (t : TypeId) (h : w.heap[g]? = some (.cells F24 t (0, 0))) : Seen w g t [] := by
  refine ⟨_, h, rfl, fun j hj => ?_⟩
  have e : F24 = Array.replicate 24 (.bool false) := rfl
  rw [e]
  simp [hj]

set_option maxHeartbeats 1600000 in
theorem cPathOk (a b : Option Addr) (ca cb : Nat) (p : PlantV) (an : Option Addr) (cn : Nat) (bs : List Int) (w : World) (hN : Ints w an bs) (hl : bs.length ≤ 1048576) (h1 : 1 ≤ p.blocks) (h24 : p.blocks ≤ 24) :
    Calls Try.prog 46 #[plantVal a ca b cb p, .slice an bs.length cn] w fun e w' => e = .returned (.bool (pathOk p.blocks bs)) ∧ Below w.heap.size w w' := by
  have CH := fun x w => cHasBlock a b ca cb p x w h1 h24
  obtain ⟨U, B, R⟩ := p
  dsimp only at *
  unfold plantVal at *
  dsimp only at *
  have hb0 := btrans (balloc w (.cells #[.slice a U.length ca, .int .i64 B, .slice b R.length cb] 27)) (balloc _ (.cells F24 91))
  have g0 : ((w.alloc (.cells #[.slice a U.length ca, .int .i64 B, .slice b R.length cb] 27)).alloc (.cells F24 91)).heap[w.heap.size]? = some (.cells #[.slice a U.length ca, .int .i64 B, .slice b R.length cb] 27 (0, 0)) := two_blocks1 _ _ _
  have s0 := seen_start ((w.alloc (.cells #[.slice a U.length ca, .int .i64 B, .slice b R.length cb] 27)).alloc (.cells F24 91)) (w.heap.size + 1) 91 (two_blocks2 _ _ _)
  generalize hr : pathOk B bs = res
  have hr0 : Hid ((pathGo B (bs.take 0) (bs.drop 0) && decide (0 < bs.length)) = res) := by rw [← hr]; rfl
  clear hr
  unfold F24 at *
  go_enter Try.func46, Try.ntmps46
  go_wp2
  go_loopw [10] (fun i wr => ∃ (k : Nat), k ≤ bs.length ∧ i = .int .i64 k ∧ Hid ((pathGo B (bs.take k) (bs.drop k) && decide (0 < bs.length)) = res) ∧ Below w.heap.size w wr ∧ wr.heap[w.heap.size]? = some (.cells #[.slice a U.length ca, .int .i64 B, .slice b R.length cb] 27 (0, 0)) ∧ Seen wr (w.heap.size + 1) 91 (bs.take k)) (fun i _ => bs.length - (intOf i).toNat)
  case atStart => exact ⟨0, Nat.zero_le _, rfl, hr0, hb0, g0, s0⟩
  case round =>
    obtain ⟨k, hk, rfl, hres, hb, g, hs⟩ := hrel
    clear g0 hb0 hr0 s0
    by_cases hlt : k < bs.length
    · rcases hN with h | ⟨nb, off, rfl, hc⟩
      · simp [h] at hlt
      have q0 := ble hb (hc k hlt)
      have e0 : bs.getD k 0 = bs[k] := by simp [List.getD, hlt]
      rw [e0] at q0
      have hres2 := hide (show (inB bs[k] 0 (B - 1) && !decide (bs[k] ∈ bs.take k) && pathGo B (bs.take (k + 1)) (bs.drop (k + 1)) && decide (0 < bs.length)) = res by rw [← take_snoc hlt, ← pathGo_drop hlt]; exact hres.out)
      have hst := hide (take_snoc hlt)
      generalize bs[k] = x at *
      obtain ⟨⟨g1, g2, g3⟩, -⟩ := blk3 g
      clear hc e0 hres
      go_wp2_with fail
      refine (CH x _).mono ?_
      rintro e w1 ⟨rfl, hb1⟩
      replace hb := btrans hb hb1
      replace g := blk_keep hb1 g
      replace hs := hs.below hb1
      clear g1 g2 g3 hb1 q0
      cases h1 : inB x 0 (B - 1)
      · have hf : res = false := by rw [← hres2.out, h1]; rfl
        go_wp2
        go_ret
        exact ⟨ret_bool hf.symm, hb⟩
      · have hx := inB_true h1
        obtain ⟨j, rfl⟩ := Int.eq_ofNat_of_zero_le hx.1
        have hj : j < 24 := by omega
        obtain ⟨c0, f0⟩ := hs.cell hj
        have hj' : (j : Int) < 24 := by omega
        cases h2 : decide ((j : Int) ∈ bs.take k)
        · rw [h2] at c0
          have hf := hide (show (pathGo B (bs.take (k + 1)) (bs.drop (k + 1)) && decide (0 < bs.length)) = res by rw [← hres2.out, h1, h2]; rfl)
          have hs2 : Seen (wr_set w1 (w.heap.size + 1) j) (w.heap.size + 1) 91 (bs.take (k + 1)) := by rw [← hst.out]; exact hs.put j
          have hb2 : Below w.heap.size w (wr_set w1 (w.heap.size + 1) j) := below_set (by omega) hb
          have g2 : (wr_set w1 (w.heap.size + 1) j).heap[w.heap.size]? = some (.cells #[.slice a U.length ca, .int .i64 B, .slice b R.length cb] 27 (0, 0)) := blk_other g (by omega)
          unfold wr_set at hs2 hb2 g2
          clear hs hb g h1 h2 hres2 hst hx
          go_wp2
          go_roundw
          case rel => exact ⟨k + 1, by omega, by go_num, hf, hb2, g2, hs2⟩
          case measure => simp [intOf]; omega
        · rw [h2] at c0
          have hf : res = false := by rw [← hres2.out, h1, h2]; rfl
          clear h1 h2 hres2 hst hx
          go_wp2
          go_ret
          exact ⟨ret_bool hf.symm, hb⟩
    · obtain rfl : k = bs.length := by omega
      have hf := hide (show res = decide (0 < bs.length) by rw [← hres.out, List.drop_length]; rfl)
      clear hN
      by_cases h0 : 0 < bs.length
      · have h0' : (0 : Int) < bs.length := by omega
        go_wp2
        go_ret
        exact ⟨ret_bool (by rw [hf.out]; simp [h0]), hb⟩
      · have h0' : ¬ ((0 : Int) < bs.length) := by omega
        go_wp2
        go_ret
        exact ⟨ret_bool (by rw [hf.out]; simp [h0]), hb⟩

set_option maxHeartbeats 3200000 in
theorem cPlantOkI (a b : Option Addr) (ca cb : Nat) (p : PlantV) (w : World) (hP : PlantIn w a b p) (hS : Small p) :
    Calls Try.prog 22 #[plantVal a ca b cb p] w fun e w' => e = .returned (.bool (plantOk p)) ∧ Below w.heap.size w w' := by
  have CH := fun x w => cHasBlock a b ca cb p x w
  have CN := fun an cn es w hN hl hu => cNeedsOk a b ca cb p an cn es w hN hl hu
  have CP := fun an cn bs w hN hl h1 h24 => cPathOk a b ca cb p an cn bs w hN hl h1 h24
  have hP0 := hP
  have hS0 := hS
  obtain ⟨U, B, R⟩ := p
  obtain ⟨hU, hR⟩ := hP
  obtain ⟨s1, s2, s3⟩ := hS
  dsimp only at *
  unfold plantVal at *
  dsimp only at *
  have hb := balloc w (.cells #[.slice a U.length ca, .int .i64 B, .slice b R.length cb] 27)
  have hk : (w.alloc (.cells #[.slice a U.length ca, .int .i64 B, .slice b R.length cb] 27)).heap[w.heap.size]? = some (.cells #[.slice a U.length ca, .int .i64 B, .slice b R.length cb] 27 (0, 0)) := by
    show (w.heap.push _)[w.heap.size]? = _
    simp
  generalize hr : plantOk ⟨U, B, R⟩ = res
  replace hr := hide hr
  go_enter Try.func22, Try.ntmps22
  go_wp2_with fail
  refine (cWithin B 1 24 _).mono ?_
  rintro e w1 ⟨rfl, hw⟩
  subst w1
  cases h1 : inB B 1 24
  · have hf : res = false := by rw [← hr.out]; simp [plantOk, h1]
    go_wp2
    go_ret
    exact ⟨ret_bool hf.symm, hb⟩
  have hB := inB_true h1
  by_cases h2 : U.length ≤ 16
  rotate_left
  · have hf : res = false := by rw [← hr.out]; simp [plantOk, h2]
    have h2' : (16 : Int) < U.length := by omega
    go_wp2
    go_ret
    exact ⟨ret_bool hf.symm, hb⟩
  have h2' : ¬ ((16 : Int) < U.length) := by omega
  by_cases h3 : R.length ≤ 12
  rotate_left
  · have hf : res = false := by rw [← hr.out]; simp [plantOk, h3]
    have h3' : (12 : Int) < R.length := by omega
    go_wp2
    go_ret
    exact ⟨ret_bool hf.symm, hb⟩
  have h3' : ¬ ((12 : Int) < R.length) := by omega
  replace hr := hide (show (U.all (fun x => inB x 0 (B - 1)) && R.all (routeOk U.length B)) = res by rw [← hr.out]; simp [plantOk, h1, h2, h3])
  clear h1
  go_wp2
  go_loopw [26] (fun i wr => ∃ (k : Nat), k ≤ U.length ∧ i = .int .i64 k ∧ (U.take k).all (fun x => inB x 0 (B - 1)) = true ∧ Below w.heap.size w wr ∧ wr.heap[w.heap.size]? = some (.cells #[.slice a U.length ca, .int .i64 B, .slice b R.length cb] 27 (0, 0))) (fun i _ => U.length - (intOf i).toNat)
  case atStart => exact ⟨0, Nat.zero_le _, rfl, by simp, hb, hk⟩
  case round =>
    obtain ⟨k, hk', rfl, hall, hb1, hk1⟩ := hrel
    clear hb hk h2' h3'
    by_cases hlt : k < U.length
    · rcases hU with h | ⟨nb, off, rfl, hc⟩
      · simp [h] at hlt
      have q0 := ble hb1 (hc k hlt)
      have e0 : U.getD k 0 = U[k] := by simp [List.getD, hlt]
      rw [e0] at q0
      have ho := fun h => hide (all_step (P := fun x => inB x 0 (B - 1)) hlt hall h)
      have hno := fun h => hide (all_bad (P := fun x => inB x 0 (B - 1)) hlt h)
      generalize U[k] = x at *
      obtain ⟨⟨g1, g2, g3⟩, -⟩ := blk3 hk1
      clear hc e0 hall
      go_wp2_with fail
      refine (CH x _ hB.1 hB.2).mono ?_
      rintro e w1 ⟨rfl, hb2⟩
      replace hb1 := btrans hb1 hb2
      replace hk1 := blk_keep hb2 hk1
      clear g1 g2 g3 hb2 q0
      cases hx : inB x 0 (B - 1)
      · have hf : res = false := by rw [← hr.out, (hno hx).out]; rfl
        clear ho hno
        go_wp2
        go_ret
        exact ⟨ret_bool hf.symm, hb1⟩
      · have ho' := ho hx
        clear ho hno hx
        go_wp2
        go_roundw
        case rel => exact ⟨k + 1, by omega, by go_num, ho'.out, hb1, hk1⟩
        case measure => simp [intOf]; omega
    · obtain rfl : k = U.length := by omega
      rw [List.take_length] at hall
      replace hr := hide (show R.all (routeOk U.length B) = res by rw [← hr.out, hall]; rfl)
      obtain ⟨⟨g1, g2, g3⟩, -⟩ := blk3 hk1
      clear hU hall
      go_wp2
      clear g1 g2 g3
      obtain ⟨wo, hwo⟩ : ∃ wo, wo = wr := ⟨wr, rfl⟩
      rw [← hwo] at hb1 hk1
      rw [← hwo]
      clear hwo
      go_loopw [38] (fun i wr => ∃ (k : Nat), k ≤ R.length ∧ i = .int .i64 k ∧ (R.take k).all (routeOk U.length B) = true ∧ Below w.heap.size w wr ∧ wr.heap[w.heap.size]? = some (.cells #[.slice a U.length ca, .int .i64 B, .slice b R.length cb] 27 (0, 0))) (fun i _ => R.length - (intOf i).toNat)
      case atStart => exact ⟨0, Nat.zero_le _, rfl, by simp, hb1, hk1⟩
      case round =>
        obtain ⟨k, hk', rfl, hall, hb2, hk2⟩ := hrel
        clear hb1 hk1
        by_cases hlt : k < R.length
        · obtain ⟨rb, off, n, cn, m, cm, rfl, c1, c2, -, c3, c4⟩ := (hR.below hb2).at hlt
          have e0 : R.getD k RouteV.zero = R[k] := by simp [List.getD, hlt]
          have hek := s3 R[k] (List.getElem_mem hlt)
          rw [e0] at c1 c2 c3 c4
          have ho := fun h => hide (all_step (P := routeOk U.length B) hlt hall h)
          have hno := fun h => hide (all_bad (P := routeOk U.length B) hlt h)
          generalize R[k] = Q at *
          obtain ⟨es, bs⟩ := Q
          dsimp only at *
          have hba := balloc wr (.cells #[.slice n es.length cn, .slice m bs.length cm] 48)
          have kr : (wr.alloc (.cells #[.slice n es.length cn, .slice m bs.length cm] 48)).heap[wr.heap.size]? = some (.cells #[.slice n es.length cn, .slice m bs.length cm] 48 (0, 0)) := by
            show (wr.heap.push _)[wr.heap.size]? = _
            simp
          replace hb2 := btrans hb2 hba
          replace hk2 := blk_keep hba hk2
          obtain ⟨⟨g1, g2, g3⟩, -⟩ := blk3 hk2
          clear e0 hall
          go_wp2_with fail
          refine (CN n cn es _ (c3.below hba) hek.1 h2).mono ?_
          rintro e w1 ⟨rfl, hb3⟩
          replace hb2 := btrans hb2 hb3
          replace hk2 := blk_keep hb3 hk2
          replace kr := blk_keep hb3 kr
          have c5 := (c4.below hba).below hb3
          clear g1 g2 g3 c1 c2 c3 c4 hb3 hba
          cases hx : needsGo U.length 0 es
          · have hf : res = false := by rw [← hr.out, (hno (by simp [routeOk, hx])).out]
            clear ho hno kr hk2
            go_wp2
            go_ret
            exact ⟨ret_bool hf.symm, hb2⟩
          · obtain ⟨⟨g1, g2, g3⟩, -⟩ := blk3 hk2
            obtain ⟨⟨g4, g5⟩, -⟩ := blk2 kr
            go_wp2_with fail
            refine (CP m cm bs _ c5 hek.2 hB.1 hB.2).mono ?_
            rintro e w2 ⟨rfl, hb3⟩
            replace hb2 := btrans hb2 hb3
            replace hk2 := blk_keep hb3 hk2
            clear g1 g2 g3 g4 g5 c5 hb3 kr
            cases hy : pathOk B bs
            · have hf : res = false := by rw [← hr.out, (hno (by simp [routeOk, hy])).out]
              clear ho hno hk2
              go_wp2
              go_ret
              exact ⟨ret_bool hf.symm, hb2⟩
            · have ho' := ho (by simp [routeOk, hx, hy])
              clear ho hno hx hy
              go_wp2
              go_roundw
              case rel => exact ⟨k + 1, by omega, by go_num, ho'.out, hb2, hk2⟩
              case measure => simp [intOf]; omega
        · obtain rfl : k = R.length := by omega
          rw [List.take_length] at hall
          have hf : res = true := by rw [← hr.out, hall]
          clear hR hall hr
          go_wp2
          go_ret
          exact ⟨ret_bool hf.symm, hb2⟩
end Go.Proofs.Ytpgjllefhlanpaa
