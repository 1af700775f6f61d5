/- The times at the borders, as the model appends them. -/
import Derived.Test.YtnhcmjfmfgoakaaK
import Derived.Deep.RegionLaw
namespace Go.Proofs.Ytnhcmjfmfgoakaa
open Go.RowKit

/-- The first k times. -/
def passTo (sq : List Int) (k : Nat) : List Int := (List.range k).map (pas sq)
theorem passTo_len (sq : List Int) (k : Nat) : (passTo sq k).length = k := by simp [passTo]
theorem passTo_succ (sq : List Int) (k : Nat) : (passTo sq (k + 1)).map (Value.int .i64) = (passTo sq k).map (Value.int .i64) ++ [.int .i64 (pas sq k)] := by simp [passTo, List.range_succ]
theorem passTo_get (sq : List Int) (k i : Nat) (h : i < k) : ((passTo sq k).map (Value.int .i64))[i]? = some (.int .i64 (pas sq i)) := by simp [passTo, h]

set_option maxRecDepth 20000 in
set_option maxHeartbeats 3200000 in
theorem c37 (a : Option Addr) (cap : Nat) (m : MotorV) (zs : List Int) (w : World) (hz : Ints w a zs) (hl : zs.length ≤ 1048576) :
    Calls Try.prog 37 #[m.val, .slice a zs.length cap] w fun e w' => ∃ v, e = .returned v ∧ w'.ownsRow w.heap.size 3 1 v (sqs m zs).length ((passL (sqs m zs)).map (Value.int .i64)) ∧ Below w.heap.size w w' := by
  obtain ⟨i0, hi, hz0, hz1, hz2⟩ := info_parts info3
  have C := c19 a cap m zs
  have hL := sqs_len m zs
  obtain ⟨u, d, t⟩ := m
  unfold MotorV.val at *
  generalize sqs ⟨u, d, t⟩ zs = sq at *
  have hR0 : Hid (sq.length = 0 → passL sq = []) := by show _ → _; intro h; simp [passL, h]
  have hPA : Hid (passL sq = passTo sq sq.length) := rfl
  have hst : ∀ k, Hid (pas sq (k + 1) = pas sq k + cellT (sq.getD k 0) (sq.getD (k + 1) 0)) := fun _ => rfl
  have hin := pas_in sq
  have hct := fun k => cellT_le (sq.getD k 0) (sq.getD (k + 1) 0)
  have hTS := fun k => hide (passTo_succ sq k)
  have hTG := hide (passTo_get sq)
  have hT1 : Hid ((passTo sq 1).map (Value.int .i64) = [.int .i64 0]) := by show _ = _; simp [passTo, List.range_succ, pas]
  generalize passTo sq = TT at *
  generalize pas sq = P at *
  go_enter Try.func37, Try.ntmps37
  go_wp2_with fail
  refine (C _ (hz.below (balloc _ _)) hl).mono ?_
  rintro e w1 ⟨v, rfl, ho, hb⟩
  obtain ⟨ao, cp, rfl⟩ := own_form ho
  have HB := btrans (balloc _ _) hb
  have hI := ints_own ho rfl
  clear hb ho C
  by_cases hs : sq.length = 0
  · have hs' : (sq.length : Int) = 0 := by omega
    have R := hide (hR0.out hs)
    have hs := hide hs
    go_wp2
    go_ret
    exact ⟨_, rfl, by rw [hs.out, R.out]; exact World.ownsRow_nil _ _ _ _, HB⟩
  have hs' : 0 < (sq.length : Int) := by omega
  have hsz := HB.size
  go_wp2_with fail
  have hown' : (w1.alloc (.cells #[.int .i64 0] 3)).ownsRow w1.heap.size 3 1 (.slice (some ⟨w1.heap.size, 0, none⟩) 1 1) 1 ((TT 1).map (Value.int .i64)) := by
    rw [hT1.out]; exact World.ownsRow_lit (base := w1.heap.size) (e := 3) (size := 1) w1 #[.int .i64 0] 1 (Nat.le_refl _) (by unfold maxLen; omega) rfl
  have hb2 := balloc w1 (.cells #[.int .i64 0] 3)
  go_loopw [6, 7] (fun v i wr => ∃ k : Nat, k < sq.length ∧ i = .int .i64 ((k : Int) + 1) ∧ wr.ownsRow w1.heap.size 3 1 v (k + 1) ((TT (k + 1)).map (Value.int .i64)) ∧ Below w1.heap.size w1 wr) (fun _ i _ => sq.length + 1 - (intOf i).toNat)
  case atStart => exact ⟨0, by omega, rfl, hown', hb2⟩
  case round =>
    clear hown' hb2
    obtain ⟨k, hk, rfl, hown, hb⟩ := hrel
    by_cases hlt : k + 1 < sq.length
    · rcases hI with hI | ⟨b, o, rfl, hc⟩
      · simp [hI] at hlt
      have hbg : b < w1.heap.size := cell_lt (hc k hk)
      have k1 := (hb.cell (p := ⟨b, o + k, none⟩) hbg).trans (hc k hk)
      have k2 := (hb.cell (p := ⟨b, o + (k + 1), none⟩) hbg).trans (hc (k + 1) hlt)
      rcases hown.2 with ⟨_, h0⟩ | ⟨g, gc, cur, rfl, hgb, hgl, hgc, hgm, hgs, hgt⟩
      · omega
      clear hgc hgs hgt hgl cur
      have t1 : wr.cell? ⟨g, k, none⟩ = some (.int .i64 (P k)) := by rw [hown.cellAt k (by omega), hTG.out (k + 1) k (by omega)]
      have hp := hin k
      have hcc := hct k
      have hs2 := hst k
      have hTk := hTS (k + 1)
      have hlt' : (k : Int) + 1 < (sq.length : Int) := by omega
      have hwk : IntKind.i64.wrap (k : Int) = k := wrap_in _ (by omega) (by omega)
      have hk0 : (k : Int) < (sq.length : Int) := by omega
      have hk00 : (0 : Int) ≤ (k : Int) + 1 := by omega
      have hkk : (k : Int) < (k : Int) + 1 := by omega
      have hwk1 : IntKind.i64.wrap ((k : Int) + 1) = (k : Int) + 1 := wrap_in _ (by omega) (by omega)
      clear hc hin hct hst hTS hTG
      generalize sq.getD k 0 = A at *
      generalize sq.getD (k + 1) 0 = B at *
      have ew : IntKind.i64.wrap (P k + cellT A B) = P (k + 1) := by rw [hs2.out]; exact wrap_in _ (by omega) (by omega)
      generalize P (k + 1) = PN at *
      generalize P k = PK at *
      clear hs2
      have hbs := hb.size
      go_wp2_with fail
      go_region_law ((first
        | (refine step_append_lies _ (by rfl) _ _ _ (by rfl) w1.heap.size 3 i0 _ 1 8 Try.underlying26 hi hz0 hz1 hz2 rfl (by omega) (.slice (some ⟨g, 0, none⟩) (k + 1) gc) (k + 1) ((TT (k + 1)).map (Value.int .i64)) (by rfl) ((hown.drew).alloc _)
            ⟨wr.heap.size, 0, none⟩ 1 1 [.int .i64 PN] (by rfl) (by rfl) (World.news_of_block (cs := #[.int .i64 PN]) (t := 3) (fr := (0, 0)) (heap_alloc_new wr.drew _)) (by simp [Value.oneCell'])
            (by omega) (by unfold maxLen; omega) (by omega) (by simp; omega) (wr.heap.size + 1) (by simp) ?_; intro g2 cap2 w2 hown2 hgrow hat hlt2)
        | (go_simp; refine (c34 A B _).mono ?_; rintro e w3 ⟨rfl, hw⟩; obtain rfl := hw.symm)))
      all_goals have L2 : w2.ownsRow w1.heap.size 3 1 (.slice (some ⟨g2, 0, none⟩) (k + 1 + 1) cap2) (k + 1 + 1) ((TT (k + 1 + 1)).map (Value.int .i64)) := by rw [hTk.out]; exact hown2
      all_goals have hb3 : Below w1.heap.size w1 w2 := (hb.drew.alloc hbs _).grown hgrow (by simp; omega) (fun j e => by simp [Value.ownBlock] at e; omega)
      all_goals clear hown2 hgrow hat hown hb
      all_goals go_wp2
      all_goals exact ⟨⟨k + 1, hlt, by omega, L2⟩, by simp [intOf]; omega⟩
    · obtain rfl : k = sq.length - 1 := by omega
      have e1 : ((sq.length - 1 : Nat) : Int) + 1 = sq.length := by omega
      have e2 : sq.length - 1 + 1 = sq.length := by omega
      rw [e2, ← hPA.out] at hown
      rw [e1]
      clear hct hst hTG
      go_wp2
      go_ret
      exact ⟨_, rfl, Go.Joins.ownsRow_le hown (by omega), HB.trans (hb.mono (by omega))⟩
end Go.Proofs.Ytnhcmjfmfgoakaa
