/- Free seats, holes, the snuggest and the farthest seat of a book. -/
import Derived.Test.YtgnlcehpajbnoaaCA
import Derived.Deep.RegionHeld3
import Derived.Deep.AppendLies
namespace Go.Proofs.Ytgnlcehpajbnoaa
open Go.RowKit Go.Lib
theorem Bk.row11 {w : World} {B b : Nat} {N : Nat} {P : Int} {gh ch : Nat} {hs : List BkV} {gs : Nat} {ds : List BkV} (h : Bk w B b N P gh ch hs gs ds) {s : Nat} (hs' : s < N) : w.cell? ⟨gs, s * 11, none⟩ = some (.bool (hF ds (s : Int) 0)) ∧ w.cell? ⟨gs, s * 11 + 1, none⟩ = some (.bool (hF ds (s : Int) 1)) ∧ w.cell? ⟨gs, s * 11 + 2, none⟩ = some (.bool (hF ds (s : Int) 2)) ∧ w.cell? ⟨gs, s * 11 + 3, none⟩ = some (.bool (hF ds (s : Int) 3)) ∧ w.cell? ⟨gs, s * 11 + 4, none⟩ = some (.bool (hF ds (s : Int) 4)) ∧ w.cell? ⟨gs, s * 11 + 5, none⟩ = some (.bool (hF ds (s : Int) 5)) ∧ w.cell? ⟨gs, s * 11 + 6, none⟩ = some (.bool (hF ds (s : Int) 6)) ∧ w.cell? ⟨gs, s * 11 + 7, none⟩ = some (.bool (hF ds (s : Int) 7)) ∧ w.cell? ⟨gs, s * 11 + 8, none⟩ = some (.bool (hF ds (s : Int) 8)) ∧ w.cell? ⟨gs, s * 11 + 9, none⟩ = some (.bool (hF ds (s : Int) 9)) ∧ w.cell? ⟨gs, s * 11 + 10, none⟩ = some (.bool (hF ds (s : Int) 10)) :=
  ⟨h.cell hs' (q := 0) (by omega), h.cell hs' (q := 1) (by omega), h.cell hs' (q := 2) (by omega), h.cell hs' (q := 3) (by omega), h.cell hs' (q := 4) (by omega), h.cell hs' (q := 5) (by omega), h.cell hs' (q := 6) (by omega), h.cell hs' (q := 7) (by omega), h.cell hs' (q := 8) (by omega), h.cell hs' (q := 9) (by omega), h.cell hs' (q := 10) (by omega)⟩
def fsL (N : Nat) (P : Int) (ds : List BkV) (on off : Int) : List Int := if askB P on off then freeK ds on off N else []

set_option maxRecDepth 20000 in
set_option maxHeartbeats 6400000 in
theorem cFs (B b : Nat) (N : Nat) (P : Int) (gh ch : Nat) (hs : List BkV) (gs : Nat) (ds : List BkV) (on off : Int) (w : World) (hB : Bk w B b N P gh ch hs gs ds) (h2 : N ≤ 60) (h3 : P ≤ 11) :
    Calls Try.prog 50 #[.pointer (some ⟨b, 0, none⟩), .int .i64 on, .int .i64 off] w fun e w' => ∃ v, e = .returned v ∧ w'.ownsRow w.heap.size 3 1 v (fsL N P ds on off).length ((fsL N P ds on off).map (Value.int .i64)) ∧ Below w.heap.size w w' := by
  have C2 := cRide B b N P gh ch hs gs ds on off w hB
  obtain ⟨i0, hi, hi0, hi1, hi2⟩ := info_parts infoInts
  cases hask : askB P on off
  · rw [hask] at C2
    have hF : Hid (fsL N P ds on off = []) := hide (by unfold fsL; rw [hask]; rfl)
    clear hB
    go_enter Try.func50, Try.ntmps50
    go_wp2_with fail
    refine C2.mono ?_
    rintro e w1 ⟨rfl, rfl⟩
    go_wp2
    go_ret
    exact ⟨_, rfl, by rw [hF.out]; exact World.ownsRow_nil _ _ _ _, Below.refl _ _⟩
  rw [hask] at C2
  have hL : Hid (fsL N P ds on off = freeK ds on off N) := hide (by unfold fsL; rw [hask]; rfl)
  obtain ⟨a0, a1, a2⟩ := askB_iff.1 hask
  obtain ⟨n, rfl⟩ : ∃ n : Nat, on = n := ⟨on.toNat, by omega⟩
  obtain ⟨f, rfl⟩ : ∃ n : Nat, off = n := ⟨off.toNat, by omega⟩
  obtain ⟨c0, c1, c2, c3⟩ := hB.cells
  clear c0 c1 c2
  go_enter Try.func50, Try.ntmps50
  go_wp2_with fail
  refine C2.mono ?_
  rintro e w1 ⟨rfl, rfl⟩
  clear C2
  go_wp2
  clear c3
  go_loopw [7, 20] (fun v x wr => ∃ k : Nat, x = .int .i64 k ∧ k ≤ N ∧ wr.ownsRow w1.heap.size 3 1 v (freeK ds n f k).length ((freeK ds n f k).map (Value.int .i64)) ∧ Below w1.heap.size w1 wr) (fun _ x _ => N - (intOf x).toNat)
  case atStart => exact ⟨0, rfl, Nat.zero_le _, by simpa [freeK_zero] using World.ownsRow_nil _ _ _ _, Below.refl _ _⟩
  case round =>
    obtain ⟨k, rfl, hk, ho, hb⟩ := hrel
    obtain ⟨va, vc, rfl⟩ := own_form ho
    by_cases hlt : k < N
    · obtain ⟨r0, r1, r2, r3, r4, r5, r6, r7, r8, r9, r10⟩ := (hB.below hb).row11 hlt
      have hgs : gs < wr.heap.size := cell_lt r0
      have C3 : ∀ V, Calls Try.prog 76 #[pcV (hF ds (k : Int)), .int .i64 n, .int .i64 f] V fun e w' => e = .returned (.bool (freeB ds k n f)) ∧ Below V.heap.size V w' := fun V => by
        rw [← frB_held (by omega)]; exact cFree (hF ds (k : Int)) n f (by omega) (by omega) V
      have hyes := fun h => hide (freeK_yes (hs := ds) (on := n) (off := f) (k := k) h)
      have hno := fun h => hide (freeK_no (hs := ds) (on := n) (off := f) (k := k) h)
      have hLl := freeK_len ds n f k
      have hbA := balloc wr (.cells (pcA (hF ds (k : Int))) 101)
      have ho1 := own_keep ho hbA
      have hb1 := btrans hb hbA
      generalize hF ds (k : Int) = g at *
      unfold pcV at C3
      unfold pcA at *
      clear ho
      go_wp2_with fail
      refine (C3 _).mono ?_
      rintro e w4 ⟨rfl, hb4⟩
      replace ho1 := own_keep ho1 hb4
      replace hb1 := btrans hb1 hb4
      clear hb4 C3 hbA r0 r1 r2 r3 r4 r5 r6 r7 r8 r9 r10
      cases hfr : freeB ds k n f
      · have ho2 := (hno hfr).out ▸ ho1
        have ho3 : w4.ownsRow w1.heap.size 3 1 (.slice va (freeK ds n f k).length vc) (freeK ds n f (k + 1)).length ((freeK ds n f (k + 1)).map (Value.int .i64)) := by rw [(hno hfr).out]; exact ho1
        clear ho2 ho1 hyes hno hfr
        go_wp2
        go_roundw
        case rel => exact ⟨k + 1, by go_num, by omega, ho3, hb1⟩
        case measure => simp [intOf]; omega
      · have hy := hyes hfr
        have ho2 := own_keep ho1 (balloc w4 (.cells #[.int .i64 k] 3))
        have hb2 := btrans hb1 (balloc w4 (.cells #[.int .i64 k] 3))
        generalize hLk : freeK ds n f k = Lk at *
        replace hLk := hide hLk
        clear hyes hno hfr
        go_wp2_with (at_builtin; refine wpList_append_own _ rfl _ _ 30 rfl w1.heap.size 3 i0 _ 1 8 Try.underlying30 hi hi0 hi1 hi2 rfl (by decide) _ _ _ rfl ho2 ⟨w4.heap.size, 0, none⟩ 1 1 [.int .i64 k] rfl rfl ?c1 ?c2 ?c3 ?c4 ?c5 ?_)
        case c1 => exact World.news_of_block (heap_alloc_new w4 _)
        case c2 => simp [Value.oneCell']
        case c3 => unfold maxLen; omega
        case c4 => omega
        case c5 => have := hb1.size; simp; omega
        intro v2 w5 hown hgrow _
        have hb5 := hb2.grown hgrow hb2.size (own_from ho2 (Nat.le_refl _))
        have hown2 : w5.ownsRow w1.heap.size 3 1 v2 (freeK ds n f (k + 1)).length ((freeK ds n f (k + 1)).map (Value.int .i64)) := by
          rw [hy.out]; simpa using hown
        clear hgrow hown ho2 hb2 ho1
        go_wp2
        go_roundw
        case rel => exact ⟨k + 1, by go_num, by omega, hown2, hb5⟩
        case measure => simp [intOf]; omega
    · obtain rfl : k = N := by omega
      go_wp2
      go_ret
      exact ⟨_, rfl, by rw [hL.out]; exact ho, hb⟩

set_option maxRecDepth 20000 in
set_option maxHeartbeats 6400000 in
theorem cHole (B b : Nat) (N : Nat) (P : Int) (gh ch : Nat) (hs : List BkV) (gs : Nat) (ds : List BkV) (s on off : Nat) (w : World) (hB : Bk w B b N P gh ch hs gs ds) (h3 : P ≤ 11) (hs' : s < N) (ho : on ≤ off) (hf : (off : Int) ≤ P) :
    Calls Try.prog 54 #[.pointer (some ⟨b, 0, none⟩), .int .i64 s, .int .i64 on, .int .i64 off] w fun e w' => e = .returned (.int .i64 (holeV ds P on off s)) ∧ Below w.heap.size w w' := by
  obtain ⟨p, rfl⟩ : ∃ p : Nat, P = p := ⟨P.toNat, by omega⟩
  obtain ⟨r0, r1, r2, r3, r4, r5, r6, r7, r8, r9, r10⟩ := hB.row11 hs'
  have hgs : gs < w.heap.size := cell_lt r0
  obtain ⟨c0, c1, c2, c3⟩ := hB.cells
  have hbb := cell_lt c0
  have C1 := fun V => cUntil ds (s : Int) off p (by omega) V
  have C2 := fun V => cSince ds (s : Int) on (by omega) V
  have E : Hid (holeV ds p on off s = (untilE ds (s : Int) off p : Int) - (sinceN ds (s : Int) on : Int)) := hide rfl
  have e1 := untilE_le (hs := ds) (s := (s : Int)) (a := off) (e := p) (by omega)
  have e2 := sinceN_le ds (s : Int) on
  have hW := balloc w (.cells (pcA (hF ds (s : Int))) 101)
  have k0 := cell11 w (hF ds (s : Int)) 0 (by omega)
  have k1 := cell11 w (hF ds (s : Int)) 1 (by omega)
  have k2 := cell11 w (hF ds (s : Int)) 2 (by omega)
  have k3 := cell11 w (hF ds (s : Int)) 3 (by omega)
  have k4 := cell11 w (hF ds (s : Int)) 4 (by omega)
  have k5 := cell11 w (hF ds (s : Int)) 5 (by omega)
  have k6 := cell11 w (hF ds (s : Int)) 6 (by omega)
  have k7 := cell11 w (hF ds (s : Int)) 7 (by omega)
  have k8 := cell11 w (hF ds (s : Int)) 8 (by omega)
  have k9 := cell11 w (hF ds (s : Int)) 9 (by omega)
  have k10 := cell11 w (hF ds (s : Int)) 10 (by omega)
  have c1' := ble hW c1
  have hsN : (s : Int) < (N : Int) := by omega
  have hs0 : (0 : Int) ≤ (s : Int) := by omega
  clear hB
  generalize untilE ds (s : Int) off p = U at *
  generalize sinceN ds (s : Int) on = Z at *
  have hwr : IntKind.i64.wrap ((U : Int) - (Z : Int)) = (U : Int) - (Z : Int) := wrap_in _ (by omega) (by omega)
  generalize hF ds (s : Int) = g at *
  unfold pcV at C1 C2
  unfold pcA at *
  go_enter Try.func54, Try.ntmps54
  go_wp2_with fail
  clear r0 r1 r2 r3 r4 r5 r6 r7 r8 r9 r10 c0 c1 c2 c3
  generalize w.alloc (.cells #[.bool (g 0), .bool (g 1), .bool (g 2), .bool (g 3), .bool (g 4), .bool (g 5), .bool (g 6), .bool (g 7), .bool (g 8), .bool (g 9), .bool (g 10)] 101) = W at *
  go_region_with (first
    | (go_at_call 84; with_reducible refine (C2 _).mono ?_; rintro e w2 ⟨rfl, hb2⟩; replace hb2 := btrans hb1 hb2)
    | (go_at_call 83; with_reducible refine (C1 _).mono ?_; rintro e w1 ⟨rfl, hb1⟩; replace hb1 := undrew hb1; have v0 := ble hb1 k0; have v1 := ble hb1 k1; have v2 := ble hb1 k2; have v3 := ble hb1 k3; have v4 := ble hb1 k4; have v5 := ble hb1 k5; have v6 := ble hb1 k6; have v7 := ble hb1 k7; have v8 := ble hb1 k8; have v9 := ble hb1 k9; have v10 := ble hb1 k10))
  all_goals go_wp2
  all_goals go_ret
  all_goals exact ⟨ret_int (by rw [E.out]), btrans hW hb2⟩

theorem fsL_mem {N : Nat} {P : Int} {ds : List BkV} {on off x : Int} (h : x ∈ fsL N P ds on off) : askB P on off = true ∧ 0 ≤ x ∧ x < N := by
  unfold fsL at h
  split at h
  · rename_i hc; have := freeK_mem.1 h; exact ⟨hc, this.1, this.2.1⟩
  · simp at h
theorem fsL_len (N : Nat) (P : Int) (ds : List BkV) (on off : Int) : (fsL N P ds on off).length ≤ N := by
  unfold fsL; split
  · exact freeK_len _ _ _ _
  · simp
theorem seatV_fs (N : Nat) (P : Int) (ds : List BkV) (on off : Int) : seatV N P ds on off = bestL (holeV ds P on off) (fsL N P ds on off) := by
  unfold seatV fsL; split
  · rw [Int.toNat_natCast]
  · rfl
/-- The best so far and its hole. -/
def BestAt (h : Int → Int) (l : List Int) (b m : Int) : Prop := b = bestL h l ∧ (b = -1 ∧ m = 12 ∨ 0 ≤ b ∧ m = h b)
theorem BestAt.step {h : Int → Int} {l : List Int} {b m s : Int} (g : BestAt h l b m) (hs : 0 ≤ s) (h1 : h s ≤ 11) : (h s < m → BestAt h (l ++ [s]) s (h s)) ∧ (¬ h s < m → BestAt h (l ++ [s]) b m) := by
  obtain ⟨g1, g2⟩ := g
  unfold BestAt
  rw [bestL_snoc, ← g1]
  unfold bestS
  constructor
  · intro hlt
    refine ⟨?_, .inr ⟨hs, rfl⟩⟩
    rcases g2 with ⟨rfl, _⟩ | ⟨_, rfl⟩
    · rw [if_pos (.inl (by omega))]
    · rw [if_pos (.inr hlt)]
  · intro hlt
    rcases g2 with ⟨_, rfl⟩ | ⟨h0, rfl⟩
    · omega
    · refine ⟨?_, .inr ⟨h0, rfl⟩⟩
      rw [if_neg (by omega)]

set_option maxRecDepth 20000 in
set_option maxHeartbeats 3200000 in
theorem cSnug (B b : Nat) (N : Nat) (P : Int) (gh ch : Nat) (hs : List BkV) (gs : Nat) (ds : List BkV) (on off : Int) (w : World) (hB : Bk w B b N P gh ch hs gs ds) (h2 : N ≤ 60) (h3 : P ≤ 11) :
    Calls Try.prog 78 #[.pointer (some ⟨b, 0, none⟩), .int .i64 on, .int .i64 off] w fun e w' => e = .returned (.int .i64 (seatV N P ds on off)) ∧ Below w.heap.size w w' := by
  rw [seatV_fs]
  have hM := fun x => hide (fsL_mem (N := N) (P := P) (ds := ds) (on := on) (off := off) (x := x))
  have hLl := fsL_len N P ds on off
  have C1 := cFs B b N P gh ch hs gs ds on off w hB h2 h3
  generalize fsL N P ds on off = L at *
  go_enter Try.func78, Try.ntmps78
  go_wp2_with fail
  refine C1.mono ?_
  rintro e w1 ⟨v, rfl, ho, hb1⟩
  clear C1
  obtain ⟨va, vc, rfl⟩ := own_form ho
  have hI := Ints.own ho rfl
  clear ho
  go_wp2
  go_loopw [7, 8, 17] (fun x y z wr => ∃ k : Nat, ∃ bb mm : Int, z = .int .i64 k ∧ x = .int .i64 bb ∧ y = .int .i64 mm ∧ k ≤ L.length ∧ Hid (BestAt (holeV ds P on off) (L.take k) bb mm) ∧ Below w.heap.size w wr ∧ Ints wr va L) (fun _ _ z _ => L.length - (intOf z).toNat)
  case atStart => exact ⟨0, -1, 12, rfl, rfl, rfl, Nat.zero_le _, hide ⟨rfl, .inl ⟨rfl, rfl⟩⟩, hb1, hI⟩
  case round =>
    obtain ⟨k, bb, mm, rfl, rfl, rfl, hk, hBe, hb, hIk⟩ := hrel
    clear hb1 hI
    by_cases hlt : k < L.length
    · have hmem : L.getD k 0 ∈ L := by simp only [List.getD, hlt, List.getElem?_eq_getElem, Option.getD_some]; exact List.getElem_mem hlt
      obtain ⟨hask, hx0, hx1⟩ := (hM _).out hmem
      obtain ⟨a0, a1, a2⟩ := askB_iff.1 hask
      have htk : Hid (L.take (k + 1) = L.take k ++ [L.getD k 0]) := hide (by rw [List.take_succ_eq_append_getElem hlt]; simp [List.getD, hlt])
      have hI2 := hIk
      rcases hIk with h | ⟨ib, io, rfl, hc⟩
      · simp [h] at hlt
      have hck := hc k hlt
      have hib := cell_lt hck
      clear hc hM
      generalize L.getD k 0 = sx at *
      obtain ⟨s, rfl⟩ : ∃ s : Nat, sx = s := ⟨sx.toNat, by omega⟩
      obtain ⟨n, rfl⟩ : ∃ n : Nat, on = n := ⟨on.toNat, by omega⟩
      obtain ⟨f, rfl⟩ : ∃ n : Nat, off = n := ⟨off.toNat, by omega⟩
      have hst := hide (hBe.out.step (s := (s : Int)) (by omega) (Int.le_trans (holeV_le (by omega) a2) h3))
      have C2 := fun V (hV : Below w.heap.size w V) => cHole B b N P gh ch hs gs ds s n f V (hB.below hV) h3 (by omega) (by omega) (by omega)
      clear hBe
      go_wp2_with fail
      refine (C2 _ hb).mono ?_
      rintro e w2 ⟨rfl, hb2⟩
      have hI3 := hI2.below hb2
      have hb3 := btrans hb hb2
      clear C2 hb2 hI2 hb hck
      generalize holeV ds P n f (s : Int) = hh at *
      by_cases hl : hh < mm
      · have hn := hide (htk.out ▸ hst.out.1 hl)
        clear hst
        go_wp2
        go_roundw
        case rel => exact ⟨k + 1, _, _, by go_num, rfl, rfl, by omega, hn, hb3, hI3⟩
        case measure => simp [intOf]; omega
      · have hn := hide (htk.out ▸ hst.out.2 (by omega))
        clear hst
        go_wp2
        go_roundw
        case rel => exact ⟨k + 1, _, _, by go_num, rfl, rfl, by omega, hn, hb3, hI3⟩
        case measure => simp [intOf]; omega
    · obtain rfl : k = L.length := by omega
      have hfin : Hid (bb = bestL (holeV ds P on off) L) := hide (by have := hBe.out.1; rwa [List.take_length] at this)
      clear hBe hB
      go_wp2
      go_ret
      exact ⟨ret_int hfin.out, hb⟩

set_option maxRecDepth 20000 in
set_option maxHeartbeats 6400000 in
theorem cFar (B b : Nat) (N : Nat) (P : Int) (gh ch : Nat) (hs : List BkV) (gs : Nat) (ds : List BkV) (p e : Nat) (w : World) (hB : Bk w B b N P gh ch hs gs ds) (h2 : N ≤ 60) (he : e ≤ 11) :
    Calls Try.prog 56 #[.pointer (some ⟨b, 0, none⟩), .int .i64 p, .int .i64 e] w fun r w' => r = .returned (.tuple #[.int .i64 (farF ds p e N).1, .int .i64 (farF ds p e N).2]) ∧ Below w.heap.size w w' := by
  obtain ⟨c0, c1, c2, c3⟩ := hB.cells
  clear c0 c1 c2
  go_enter Try.func56, Try.ntmps56
  go_wp2
  clear c3
  go_loopw [8, 9, 19] (fun x y z wr => ∃ k : Nat, z = .int .i64 k ∧ k ≤ N ∧ x = .int .i64 (farF ds p e k).1 ∧ y = .int .i64 (farF ds p e k).2 ∧ Below w.heap.size w wr) (fun _ _ z _ => N - (intOf z).toNat)
  case atStart => exact ⟨0, rfl, Nat.zero_le _, rfl, rfl, Below.refl _ _⟩
  case round =>
    obtain ⟨k, rfl, hk, rfl, rfl, hb⟩ := hrel
    by_cases hlt : k < N
    · obtain ⟨r0, r1, r2, r3, r4, r5, r6, r7, r8, r9, r10⟩ := (hB.below hb).row11 hlt
      have hgs : gs < wr.heap.size := cell_lt r0
      have C3 := fun V => cUntil ds (k : Int) p e he V
      have hyes := fun (h : (farF ds p e k).2 < untilE ds (k : Int) p e) => hide (show farF ds p e (k + 1) = ((k : Int), untilE ds (k : Int) p e) by rw [farF, if_pos h])
      have hno := fun (h : ¬ (farF ds p e k).2 < untilE ds (k : Int) p e) => hide (show farF ds p e (k + 1) = farF ds p e k by rw [farF, if_neg h])
      have hbA := balloc wr (.cells (pcA (hF ds (k : Int))) 101)
      have hb1 := btrans hb hbA
      generalize hF ds (k : Int) = g at *
      generalize untilE ds (k : Int) p e = U at *
      unfold pcV at C3
      unfold pcA at *
      generalize hfk : farF ds p e k = fk at *
      replace hfk := hide hfk
      obtain ⟨fb, fe⟩ := fk
      dsimp only at *
      go_wp2_with fail
      refine (C3 _).mono ?_
      rintro r w4 ⟨rfl, hb4⟩
      replace hb1 := btrans hb1 hb4
      clear hb4 C3 hbA r0 r1 r2 r3 r4 r5 r6 r7 r8 r9 r10
      by_cases hl : fe < U
      · have hy := hyes hl
        have hl' : (fe : Int) < (U : Int) := by omega
        clear hyes hno
        go_wp2
        go_roundw
        case rel => exact ⟨k + 1, by go_num, by omega, by rw [hy.out], by rw [hy.out], hb1⟩
        case measure => simp [intOf]; omega
      · have hy := hno hl
        have hl' : ¬ (fe : Int) < (U : Int) := by omega
        clear hyes hno
        go_wp2
        go_roundw
        case rel => exact ⟨k + 1, by go_num, by omega, by rw [hy.out], by rw [hy.out], hb1⟩
        case measure => simp [intOf]; omega
    · obtain rfl : k = N := by omega
      clear hB
      go_wp2
      go_ret2
      exact ⟨rfl, hb⟩
end Go.Proofs.Ytgnlcehpajbnoaa
