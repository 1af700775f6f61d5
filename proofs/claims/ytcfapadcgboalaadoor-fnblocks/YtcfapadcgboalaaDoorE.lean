/- FreeFrom and Aspects of the program; Passed of both. -/
import Derived.Test.YtcfapadcgboalaaDoorG
namespace Go.Proofs.YtcfapadcgboalaaDoor
open Go.RowKit

set_option maxHeartbeats 800000 in
theorem cIndex (a : Option Addr) (n cap : Nat) (bs : List Bool) (w : World) (hz : Bools w a bs) (hn : bs.length = n) (hl : n ≤ 1048576) :
    Calls Tryd.prog 31 #[.slice a n cap, .bool true] w fun e w' => e = .returned (.int .i64 (if free bs 0 = n then -1 else free bs 0)) ∧ w' = w := by
  subst hn
  have F0 : ∀ n, n = bs.length → free bs n = 0 := fun n h => free_end (by omega)
  have F1 : ∀ n (h : n < bs.length), bs[n] = true → free bs n = 0 := fun n h hb => free_no h hb
  have F2 : ∀ n (h : n < bs.length), bs[n] = false → free bs n = free bs (n + 1) + 1 := fun n h hb => free_yes h hb
  generalize hf : free bs = f at *
  clear hf
  have R1 : Hid (∀ (h : f 0 = bs.length), (if f 0 = bs.length then (-1 : Int) else (f 0 : Int)) = -1) := fun h => if_pos h
  have R2 : Hid (∀ (h : ¬ f 0 = bs.length), (if f 0 = bs.length then (-1 : Int) else (f 0 : Int)) = f 0) := fun h => if_neg h
  generalize (if f 0 = bs.length then (-1 : Int) else (f 0 : Int)) = r at *
  go_enter Tryd.func31, Tryd.ntmps31
  go_wp2
  go_loop [5, 8] (fun _ x => ∃ n : Nat, n ≤ bs.length ∧ f 0 = n + f n ∧ x = .int .i64 n) (fun _ x => bs.length - (intOf x).toNat)
  case atStart => exact ⟨0, by omega, by simp, rfl⟩
  case round =>
    obtain ⟨n, hn1, hn2, rfl⟩ := hrel
    by_cases hlt : n < bs.length
    · rcases hz with hz | ⟨b, off, rfl, hc⟩
      · simp [hz] at hlt
      have hck := hc n hlt
      have e0 : bs.getD n false = bs[n] := by simp [List.getD, hlt]
      rw [e0] at hck
      have G1 := F1 n hlt
      have G2 := F2 n hlt
      clear hc e0 F0 F1 F2
      cases hb : bs[n]
      · rw [hb] at hck
        have G := G2 hb
        clear G1 G2 hb
        go_wp2
        go_round
        case rel => exact ⟨n + 1, by omega, by omega, by go_num⟩
        case measure => simp [intOf]; omega
      · rw [hb] at hck
        have G := G1 hb
        clear G1 G2 hb
        go_wp2
        go_ret
        exact ⟨ret_int (by rw [R2.out (by omega)]; omega), rfl⟩
    · have G := F0 n (by omega)
      clear F0 F1 F2
      go_wp2
      go_ret
      exact ⟨ret_int (by rw [R1.out (by omega)]), rfl⟩

set_option maxHeartbeats 800000 in
theorem cFreeI (a : Option Addr) (bs : List Bool) (i : Int) (w : World) (hz : Bools w a bs) (hl : bs.length ≤ 1048576) :
    Calls Tryd.prog 15 #[.slice a bs.length bs.length, .int .i64 i] w fun e w' => e = .returned (.int .i64 (freeFrom bs i)) ∧ w' = w := by
  by_cases hn : 100 < bs.length
  · have R := hide (freeFrom_no (freeOk_long (i := i) hn))
    generalize freeFrom bs i = r at *
    go_enter Tryd.func15, Tryd.ntmps15
    go_wp2
    go_ret
    exact ⟨ret_int R.out.symm, rfl⟩
  cases h1 : inB i 0 ((bs.length : Int) - 1)
  · have R := hide (freeFrom_no (freeOk_out h1))
    generalize freeFrom bs i = r at *
    go_enter Tryd.func15, Tryd.ntmps15
    go_wp2_with fail
    refine (cWithin _ _ _ _).mono ?_
    rintro e w1 ⟨rfl, hw⟩
    subst w1
    rw [h1]
    go_wp2
    go_ret
    exact ⟨ret_int R.out.symm, rfl⟩
  obtain ⟨h2, h3⟩ := inB_true h1
  obtain ⟨q, rfl⟩ := Int.eq_ofNat_of_zero_le h2
  have hq : q < bs.length := by omega
  have R := hide (freeFrom_yes (i := q) (by omega) hq)
  have RI := fun (a : Option Addr) (w : World) (h : Bools w a (bs.drop q)) => cIndex a (bs.length - q) (bs.length - q) (bs.drop q) w h (by simp) (by omega)
  rw [free_drop bs q 0, Nat.add_zero] at RI
  generalize freeFrom bs (q : Int) = r at *
  have hfr := free_le bs q (by omega)
  generalize free bs q = f at *
  rcases hz.part q with hz0 | ⟨b, off, rfl, hzq⟩
  · rw [List.drop_eq_nil_iff] at hz0; omega
  have hq' : (q : Int) ≤ (bs.length : Int) := by omega
  have hq2 : bs.length ≠ q := by omega
  have hq3 : (0 : Int) ≤ (q : Int) := by omega
  by_cases hf : f = bs.length - q
  · rw [if_pos hf] at RI
    go_enter Tryd.func15, Tryd.ntmps15
    go_wp2_with fail
    refine (cWithin _ _ _ _).mono ?_
    rintro e w1 ⟨rfl, hw⟩
    subst w1
    rw [h1]
    go_wp2_with fail
    refine (RI _ _ hzq).mono ?_
    rintro e w1 ⟨rfl, hw⟩
    subst w1
    go_wp2
    go_ret
    exact ⟨ret_int (by rw [R.out]; omega), rfl⟩
  · rw [if_neg hf] at RI
    go_enter Tryd.func15, Tryd.ntmps15
    go_wp2_with fail
    refine (cWithin _ _ _ _).mono ?_
    rintro e w1 ⟨rfl, hw⟩
    subst w1
    rw [h1]
    go_wp2_with fail
    refine (RI _ _ hzq).mono ?_
    rintro e w1 ⟨rfl, hw⟩
    subst w1
    go_wp2
    go_ret
    exact ⟨ret_int (by rw [R.out]), rfl⟩

theorem sig_read {f : Nat → Int} {n k : Nat} (hk : k < n) : (sigRow f n n)[k]? = some (Value.int .i64 (f k)) := by
  rw [sigRow_get _ _ _ _ (by omega), if_pos (by omega)]

set_option maxRecDepth 20000 in
set_option maxHeartbeats 1600000 in
theorem cAspI (a : Option Addr) (cap : Nat) (bs : List Bool) (y : Int) (w : World) (hz : Bools w a bs) (hl : bs.length ≤ 1048576) :
    Calls Tryd.prog 7 #[.slice a bs.length cap, .int .i64 y] w fun e w' => ∃ v, e = .returned v ∧
      w'.ownsRow w.heap.size 3 1 v (aspects bs y).length ((aspects bs y).map (Value.int .i64)) ∧ Below w.heap.size w w' := by
  by_cases hn : 100 < bs.length
  · have R := hide (aspects_no (aspOk_long (y := y) hn))
    generalize aspects bs y = r at *
    go_enter Tryd.func7, Tryd.ntmps7
    go_wp2
    go_ret
    exact ⟨_, rfl, by rw [R.out]; exact World.ownsRow_nil _ _ _ _, Below.refl _ _⟩
  cases h1 : inB y 0 3
  · have R := hide (aspects_no (bs := bs) (aspOk_out h1))
    generalize aspects bs y = r at *
    go_enter Tryd.func7, Tryd.ntmps7
    go_wp2_with fail
    refine (cAspectOk _ _).mono ?_
    rintro e w1 ⟨rfl, hw⟩
    subst w1
    rw [h1]
    go_wp2
    go_ret
    exact ⟨_, rfl, by rw [R.out]; exact World.ownsRow_nil _ _ _ _, Below.refl _ _⟩
  have R := hide (aspects_yes (bs := bs) (y := y) (by omega) h1)
  have hR := fun k => asps_succ bs y k
  have hRl := fun k => asps_len bs y k
  have hR0 : asps bs y 0 = [] := rfl
  obtain ⟨h2, h3⟩ := inB_true h1
  have C := cSigs a cap bs y w hz (by omega) h2 h3
  generalize aspects bs y = L at *
  generalize asps bs y = AS at *
  generalize asp bs y = f at *
  obtain ⟨i0, hi, hz0, hz1, hz2⟩ := info_parts infoInts
  go_enter Tryd.func7, Tryd.ntmps7
  go_wp2_with fail
  refine (cAspectOk _ _).mono ?_
  rintro e w1 ⟨rfl, hw⟩
  subst w1
  rw [h1]
  go_wp2_with fail
  refine C.mono ?_
  rintro e w2 ⟨rfl, hs, hb2⟩
  have hlt2 := owns_lt hs
  clear C hz
  go_wp2_with (at_make; refine wpList_make_full _ rfl _ _ 25 rfl w2.heap.size 3 i0 (.int .i64 0) 1 Tryd.underlying25 hi hz0 hz1 _ _ _ _ bs.length rfl rfl rfl rfl (by rw [hz2]; omega) (by unfold maxLen; omega) (Nat.le_refl _) ?_; intro w3 hown hgrow)
  have hown' : w3.ownsRow w2.heap.size 3 1 (.slice (some ⟨w2.heap.size, 0, none⟩) bs.length bs.length) bs.length (((AS 0).map (Value.int .i64)) ++ List.replicate (bs.length - 0) (Value.int .i64 0)) := by
    rw [hR0]; simpa [toList_madeCells_one, Value.cells] using hown
  have hbel : Below w2.heap.size w2 w3 := (Below.refl _ _).grown hgrow (Nat.le_refl _) (fun k hk => by cases hk)
  have hs3 := own_keep hs hbel
  have hb3 := btrans hb2 hbel
  have hge := hb2.size
  clear hown hgrow hbel hs hb2
  go_loopw [7, 24] (fun _ i wr => ∃ k : Nat, k ≤ bs.length ∧ i = .int .i64 k ∧ wr.ownsRow w2.heap.size 3 1 (.slice (some ⟨w2.heap.size, 0, none⟩) bs.length bs.length) bs.length (((AS k).map (Value.int .i64)) ++ List.replicate (bs.length - k) (Value.int .i64 0)) ∧
    wr.ownsRow w.heap.size 49 1 (.slice (some ⟨w.heap.size, 0, none⟩) (bs.length + 1) (bs.length + 1)) (bs.length + 1) (sigRow f bs.length bs.length) ∧ Below w.heap.size w wr) (fun _ i _ => bs.length - (intOf i).toNat)
  case atStart => exact ⟨0, Nat.zero_le _, rfl, hown', hs3, hb3⟩
  case round =>
    obtain ⟨k, hk, rfl, hown, hs, hb⟩ := hrel
    clear hown' hs3 hb3
    by_cases hlt : k < bs.length
    · have hRk := hide (hR k)
      have hRlk := hRl k
      clear hR hRl hR0
      have hfr := hown.frozenAt k
      have hcw : wr.cell? ⟨w2.heap.size, k, none⟩ = some (.int .i64 0) := by
        rw [hown.cellAt k (by omega), List.getElem?_append_right (by simp [hRlk])]
        simp [List.getElem?_replicate, hRlk]
        omega
      have hcr := (hs.cellAt k (by omega)).trans (sig_read hlt)
      obtain ⟨hown2, hg2⟩ := hown.stored k (.int .i64 (f k))
      rw [set_step _ _ _ _ (by simp [hRlk]) hlt] at hown2
      have hb2 : Below w.heap.size w (wr.setCell ⟨w2.heap.size, k, none⟩ (.int .i64 (f k))) := hb.setCell hge _
      have hs2 : (wr.setCell ⟨w2.heap.size, k, none⟩ (.int .i64 (f k))).ownsRow w.heap.size 49 1 _ _ (sigRow f bs.length bs.length) := own_set hs (fun j e => by simp [Value.ownBlock] at e; omega)
      have hown3 : (wr.setCell ⟨w2.heap.size, k, none⟩ (.int .i64 (f k))).ownsRow w2.heap.size 3 1 (.slice (some ⟨w2.heap.size, 0, none⟩) bs.length bs.length) bs.length (((AS (k + 1)).map (Value.int .i64)) ++ List.replicate (bs.length - (k + 1)) (Value.int .i64 0)) := by
        rw [hRk.out, List.map_append]; exact hown2
      have x5 : (k : Int) < (bs.length : Int) + 1 := by omega
      clear hown hown2 hs hb hg2 hRk
      generalize f k = r at *
      go_wp2
      go_roundw
      case rel => exact ⟨k + 1, by omega, by go_num, hown3, hs2, hb2⟩
      case measure => simp [intOf]; omega
    · obtain rfl : k = bs.length := by omega
      have hown2 : wr.ownsRow w2.heap.size 3 1 (.slice (some ⟨w2.heap.size, 0, none⟩) bs.length bs.length) bs.length ((AS bs.length).map (Value.int .i64)) := by simpa using hown
      go_wp2
      go_ret
      exact ⟨_, rfl, by rw [R.out, hRl]; exact Go.Joins.ownsRow_le hown2 hge, hb⟩
end Go.Proofs.YtcfapadcgboalaaDoor
