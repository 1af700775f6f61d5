/- The times at the borders, as the program fills them in; the time of the whole run. -/
import Derived.Test.YtnhcmjfmfgoakaaJ
namespace Go.Proofs.Ytnhcmjfmfgoakaa
open Go.RowKit

/-- The program's list of times: the first k of them known. -/
def timesTo (sq : List Int) (k : Nat) : List Int := (List.range sq.length).map (fun i => if i < k then pas sq i else 0)
theorem timesTo_len (sq : List Int) (k : Nat) : (timesTo sq k).length = sq.length := by simp [timesTo]
theorem timesTo_get (sq : List Int) (k i : Nat) (h : i < sq.length) : ((timesTo sq k).map (Value.int .i64))[i]? = some (.int .i64 (if i < k then pas sq i else 0)) := by simp [timesTo, h]
theorem timesTo_one (sq : List Int) : List.replicate sq.length (Value.int .i64 0) = (timesTo sq 1).map (Value.int .i64) := by
  refine List.ext_getElem (by simp [timesTo]) fun i h1 h2 => ?_
  simp only [timesTo, List.getElem_map, List.getElem_range, List.getElem_replicate]
  by_cases e : i < 1
  · obtain rfl : i = 0 := by omega
    simp [pas]
  · rw [if_neg e]
theorem timesTo_step (sq : List Int) (k : Nat) : ((timesTo sq k).map (Value.int .i64)).set k (.int .i64 (pas sq k)) = (timesTo sq (k + 1)).map (Value.int .i64) := by
  rw [← List.map_set]
  congr 1
  refine List.ext_getElem (by simp [timesTo]) fun i h1 h2 => ?_
  rw [List.getElem_set]
  simp only [timesTo, List.getElem_map, List.getElem_range]
  split
  · rename_i e; subst e; rw [if_pos (by omega)]
  · by_cases e : i < k
    · rw [if_pos e, if_pos (by omega)]
    · rw [if_neg e, if_neg (by omega)]
theorem timesTo_all (sq : List Int) : timesTo sq sq.length = passL sq := by
  unfold timesTo passL
  refine List.map_congr_left fun i hi => ?_
  rw [if_pos (by simpa using hi)]

set_option maxRecDepth 20000 in
set_option maxHeartbeats 3200000 in
theorem c21 (a : Option Addr) (cap : Nat) (m : MotorV) (zs : List Int) (w : World) (hz : Ints w a zs) (hl : zs.length ≤ 1048576) :
    Calls Try.prog 21 #[m.val, .slice a zs.length cap] w fun e w' => ∃ v, e = .returned v ∧ w'.ownsRow w.heap.size 3 1 v (sqs m zs).length ((passL (sqs m zs)).map (Value.int .i64)) ∧ Below w.heap.size w w' := by
  obtain ⟨i0, hi, hz0, hz1, hz2⟩ := info_parts info3
  have C := c17 a cap m zs
  have hL := sqs_len m zs
  obtain ⟨u, d, t⟩ := m
  unfold MotorV.val at *
  generalize sqs ⟨u, d, t⟩ zs = sq at *
  have hR0 : Hid (sq.length = 0 → passL sq = []) := by show _ → _; intro h; simp [passL, h]
  have hst : ∀ k, Hid (pas sq (k + 1) = pas sq k + cellT (sq.getD k 0) (sq.getD (k + 1) 0)) := fun _ => rfl
  have hin := pas_in sq
  have hct := fun k => cellT_le (sq.getD k 0) (sq.getD (k + 1) 0)
  go_enter Try.func21, Try.ntmps21
  go_wp2_with fail
  refine (C _ (hz.below (balloc _ _)) hl).mono ?_
  rintro e w1 ⟨v, rfl, ho, hb⟩
  obtain ⟨ao, cp, rfl⟩ := own_form ho
  have HB := btrans (balloc _ _) hb
  have hI := ints_own ho rfl
  clear hb ho C
  by_cases hs : sq.length = 0
  · have hs' : (sq.length : Int) = 0 := by omega
    have R := hide (hR0.out hs)
    have hs := hide hs
    go_wp2
    go_ret
    exact ⟨_, rfl, by rw [hs.out, R.out]; exact World.ownsRow_nil _ _ _ _, HB⟩
  have hs' : 0 < (sq.length : Int) := by omega
  have hsz := HB.size
  go_wp2_with (at_make; refine wpList_make_full _ rfl _ _ 26 rfl w1.heap.size 3 i0 (.int .i64 0) 1 Try.underlying26 hi hz0 hz1 _ _ _ _ sq.length rfl rfl rfl rfl (by rw [hz2]; omega) (by unfold maxLen; omega) (Nat.le_refl _) ?_; intro w2 hown hgrow)
  have hown' : w2.ownsRow w1.heap.size 3 1 (.slice (some ⟨w1.heap.size, 0, none⟩) sq.length sq.length) sq.length ((timesTo sq 1).map (Value.int .i64)) := by
    rw [← timesTo_one]; simpa [toList_madeCells_one, Value.cells] using hown
  have hb2 : Below w1.heap.size w1 w2 := (Below.refl _ _).grown hgrow (Nat.le_refl _) (fun k hk => by cases hk)
  clear hown hgrow
  have hTS := fun k => hide (timesTo_step sq k)
  have hTA := hide (timesTo_all sq)
  have hTG := timesTo_get sq
  generalize timesTo sq = TT at *
  generalize pas sq = P at *
  generalize hW1 : w1.heap.size = g at *
  go_loopw [7] (fun i wr => ∃ k : Nat, k < sq.length ∧ i = .int .i64 ((k : Int) + 1) ∧ wr.ownsRow g 3 1 (.slice (some ⟨g, 0, none⟩) sq.length sq.length) sq.length ((TT (k + 1)).map (Value.int .i64)) ∧ Below g w1 wr) (fun i _ => sq.length + 1 - (intOf i).toNat)
  case atStart => exact ⟨0, by omega, rfl, hown', hb2⟩
  case round =>
    clear hown' hb2
    obtain ⟨k, hk, rfl, hown, hb⟩ := hrel
    by_cases hlt : k + 1 < sq.length
    · rcases hI with hI | ⟨b, o, rfl, hc⟩
      · simp [hI] at hlt
      have hbg : b < g := by rw [← hW1]; exact cell_lt (hc k hk)
      have k1 := (hb.cell (p := ⟨b, o + k, none⟩) hbg).trans (hc k hk)
      have k2 := (hb.cell (p := ⟨b, o + (k + 1), none⟩) hbg).trans (hc (k + 1) hlt)
      have t1 : wr.cell? ⟨g, k, none⟩ = some (.int .i64 (P k)) := by rw [hown.cellAt k (by omega), hTG (k + 1) k hk, if_pos (by omega)]
      have t2 : wr.cell? ⟨g, k + 1, none⟩ = some (.int .i64 0) := by rw [hown.cellAt (k + 1) (by omega), hTG (k + 1) (k + 1) hlt, if_neg (by omega)]
      have t3 := hown.frozenAt (k + 1)
      obtain ⟨o2, g2⟩ := hown.stored (k + 1) (.int .i64 (P (k + 1)))
      rw [(hTS (k + 1)).out] at o2
      have b2 : Below g w1 (wr.setCell ⟨g, k + 1, none⟩ (.int .i64 (P (k + 1)))) := hb.setCell (Nat.le_refl _) _
      have hp := hin k
      have hcc := hct k
      have hs2 := hst k
      have hlt' : (k : Int) + 1 < (sq.length : Int) := by omega
      have hwk : IntKind.i64.wrap (k : Int) = k := wrap_in _ (by omega) (by omega)
      have hk0 : (k : Int) < (sq.length : Int) := by omega
      have hk00 : (0 : Int) ≤ (k : Int) + 1 := by omega
      have hwk1 : IntKind.i64.wrap ((k : Int) + 1) = (k : Int) + 1 := wrap_in _ (by omega) (by omega)
      clear hc hin hct hst hTS hTA hTG hown g2
      generalize sq.getD k 0 = A at *
      generalize sq.getD (k + 1) 0 = B at *
      have ew : IntKind.i64.wrap (P k + cellT A B) = P (k + 1) := by rw [hs2.out]; exact wrap_in _ (by omega) (by omega)
      generalize P (k + 1) = PN at *
      generalize P k = PK at *
      clear hs2
      have hbg' : b ≠ g := by omega
      go_wp2_with fail
      go_region_with (go_at_call 35; refine (c35 _ _ _).mono ?_; rintro e w' ⟨rfl, hw⟩; obtain rfl := hw.symm)
      all_goals go_wp2
      all_goals go_roundw
      all_goals first
        | exact ⟨k + 1, hlt, by go_num, o2, b2.drew⟩
        | (simp [intOf]; omega)
    · obtain rfl : k = sq.length - 1 := by omega
      have e1 : ((sq.length - 1 : Nat) : Int) + 1 = sq.length := by omega
      have e2 : sq.length - 1 + 1 = sq.length := by omega
      rw [e2, hTA.out] at hown
      rw [e1]
      clear hct hst hTG
      go_wp2
      go_ret
      exact ⟨_, rfl, Go.Joins.ownsRow_le hown (by omega), HB.trans (hb.mono (by omega))⟩

set_option maxHeartbeats 800000 in
theorem c20 (a : Option Addr) (cap : Nat) (m : MotorV) (zs : List Int) (w : World) (hz : Ints w a zs) (hl : zs.length ≤ 1048576) :
    Calls Try.prog 20 #[m.val, .slice a zs.length cap] w fun e w' => e = .returned (.int .i64 (runT (sqs m zs))) ∧ Below w.heap.size w w' := by
  have C := c21 a cap m zs
  have hL := sqs_len m zs
  obtain ⟨u, d, t⟩ := m
  unfold MotorV.val at *
  generalize sqs ⟨u, d, t⟩ zs = sq at *
  have hR0 : Hid (sq.length = 0 → runT sq = -1) := by show _ → _; intro h; simp [runT, h]
  have hR1 : Hid (sq.length ≠ 0 → runT sq = pas sq (sq.length - 1)) := by show _ → _; intro h; simp [runT, h]
  go_enter Try.func20, Try.ntmps20
  go_wp2_with fail
  refine (C _ (hz.below (balloc _ _)) hl).mono ?_
  rintro e w1 ⟨v, rfl, ho, hb⟩
  obtain ⟨ao, cp, rfl⟩ := own_form ho
  have HB := btrans (balloc _ _) hb
  have hI := ints_own ho (passL_len sq)
  clear hb ho C
  by_cases hs : sq.length = 0
  · have hs' : (sq.length : Int) = 0 := by omega
    have R := hide (hR0.out hs)
    clear hs
    go_wp2
    go_ret
    exact ⟨ret_int R.out.symm, HB⟩
  · have R := hide (hR1.out hs)
    have hs' : 0 < (sq.length : Int) := by omega
    rcases hI with hI | ⟨b, o, rfl, hc⟩
    · have := passL_len sq; rw [hI] at this; simp at this; omega
    have k1 := hc (sq.length - 1) (by rw [passL_len]; omega)
    rw [passL_get sq (by omega)] at k1
    obtain ⟨q, hq⟩ : ∃ q, sq.length = q + 1 := ⟨sq.length - 1, by omega⟩
    rw [hq] at k1 R
    rw [Nat.add_sub_cancel] at k1 R
    clear hc hR0 hR1
    generalize pas sq q = P at *
    generalize hn : sq.length = n at *
    clear hn
    subst hq
    have hwk : IntKind.i64.wrap (q : Int) = q := wrap_in _ (by omega) (by omega)
    go_wp2
    go_ret
    exact ⟨ret_int R.out.symm, HB⟩
end Go.Proofs.Ytnhcmjfmfgoakaa
