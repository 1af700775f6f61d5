/- Sidings in memory of their own: measured, copied, compared, marked, and their marks held. -/
import Derived.Test.YtjbecnflpfjicaaGreats18TR
import Derived.Test.YtjbecnflpfjicaaGreats18M
import Derived.Deep.RegionHeld3
import Derived.BigQuiet
namespace Go.Proofs.YtjbecnflpfjicaaGreat.s18
open Go.RowKit
/-- How many wagons are on the first rows. -/
def sm (rows : List (List Int)) (i : Nat) : Nat := (rows.take i).flatten.length
theorem sm_zero (rows : List (List Int)) : sm rows 0 = 0 := by simp [sm]
theorem sm_succ {rows : List (List Int)} {i : Nat} (h : i < rows.length) : sm rows (i + 1) = sm rows i + (rwA rows i).length := by
  unfold sm
  rw [List.take_succ_eq_append_getElem h, List.flatten_append, List.length_append]
  simp [rwA, List.getD, h]
theorem sm_mono {rows : List (List Int)} {i : Nat} : ∀ j, i ≤ j → j ≤ rows.length → sm rows i ≤ sm rows j
  | 0, h, _ => by
    obtain rfl : i = 0 := by omega
    exact Nat.le_refl _
  | j + 1, h, hj => by
    by_cases e : i = j + 1
    · subst e; exact Nat.le_refl _
    · have := sm_mono (rows := rows) (i := i) j (by omega) (by omega)
      rw [sm_succ (show j < rows.length by omega)]; omega
theorem sm_row {rows : List (List Int)} {i : Nat} (h : i < rows.length) : (rwA rows i).length ≤ sm rows rows.length := by
  have := sm_mono rows.length (show i + 1 ≤ rows.length by omega) (Nat.le_refl _)
  rw [sm_succ h] at this; omega
theorem infoIntS : (Tryz.prog.info? 29).map (fun i => (i.zero, i.size, i.bytes)) = some (some (.slice none 0 0), 1, 24) := by kernel_rfl
/-! Measured. -/
set_option maxHeartbeats 800000 in
theorem cSzI (a : Option Addr) (n cap : Nat) (left : Int) (w : World) (h0 : 0 ≤ left) (h1 : left ≤ 1048576) (hn : n ≤ maxLen) :
    Calls Tryz.prog 32 #[.slice a n cap, .int .i64 left] w fun e w' => ∃ r, e = .returned (.int .i64 r) ∧ (r = -1 ∨ (0 ≤ r ∧ r + n = left)) ∧ w' = w := by
  unfold maxLen at hn
  have hwr : IntKind.i64.wrap (left - (n : Int)) = left - (n : Int) := wrap_in _ (by omega) (by omega)
  by_cases h : left - (n : Int) < 0
  · go_enter Tryz.func32, Tryz.ntmps32
    go_wp2
    go_ret
    exact ⟨_, rfl, .inl rfl, rfl⟩
  · go_enter Tryz.func32, Tryz.ntmps32
    go_wp2
    go_ret
    exact ⟨_, rfl, .inr ⟨by omega, by omega⟩, rfl⟩
set_option maxRecDepth 20000 in
set_option maxHeartbeats 1600000 in
theorem cSzSS (a : Option Addr) (cap : Nat) (vs : List Value) (rows : List (List Int)) (left : Int) (w : World) (hR : RowsW w a vs rows) (h0 : 0 ≤ left) (h1 : left ≤ 1048576) (hn : rows.length ≤ maxLen) (hr : ∀ i, i < rows.length → (rwA rows i).length ≤ maxLen) :
    Calls Tryz.prog 33 #[.slice a rows.length cap, .int .i64 left] w fun e w' => ∃ r, e = .returned (.int .i64 r) ∧ (r = -1 ∨ (0 ≤ r ∧ r + rows.length + sm rows rows.length = left)) ∧ w' = w := by
  have hn2 : rows.length ≤ 9223372036854775807 := by unfold maxLen at hn; omega
  have hwr : IntKind.i64.wrap (left - (rows.length : Int)) = left - (rows.length : Int) := wrap_in _ (by omega) (by omega)
  by_cases h : left - (rows.length : Int) < 0
  · go_enter Tryz.func33, Tryz.ntmps33
    go_wp2
    go_ret
    exact ⟨_, rfl, .inl rfl, rfl⟩
  have hcell := hide hR.cell
  have heach := hide hR.each
  have hvl := hide hR.len
  obtain ⟨L0, hL0⟩ : ∃ L0, left - (rows.length : Int) = L0 := ⟨_, rfl⟩
  rw [hL0] at hwr h
  have hL1 : L0 ≤ 1048576 := by omega
  have hLH := hide hL0
  clear hR
  go_enter Tryz.func33, Tryz.ntmps33
  go_wp2
  clear hL0 hwr
  go_loop [1, 5] (fun l i => ∃ (k : Nat) (L : Int), k ≤ rows.length ∧ i = .int .i64 k ∧ l = .int .i64 L ∧ 0 ≤ L ∧ L ≤ 1048576 ∧ Hid (L + sm rows k = L0)) (fun _ i => rows.length - (intOf i).toNat)
  case atStart => exact ⟨0, L0, by omega, rfl, rfl, by omega, by omega, hide (by rw [sm_zero]; omega)⟩
  case round =>
    obtain ⟨k, L, hk, rfl, rfl, hl0, hl1, hS⟩ := hrel
    by_cases hlt : k < rows.length
    · obtain ⟨bb, off, rfl, hc⟩ : ∃ b off, a = some ⟨b, off, none⟩ ∧ ∀ i, (hi : i < vs.length) → w.cell? ⟨b, off + i, none⟩ = some vs[i] := by
        rcases hcell.out with h | h
        · simp [h] at hlt
        · exact h
      have hkv : k < vs.length := by have := hvl.out; omega
      obtain ⟨ai, ci, hv, -, -⟩ := heach.out k hkv
      have p2 := hc k hkv
      rw [hv] at p2
      have CZ := cSzI ai (rwA rows k).length ci L w hl0 hl1 (hr k hlt)
      have hst := hide (sm_succ hlt)
      clear hc hv
      generalize (rwA rows k).length = X at *
      go_wp2_with fail
      refine CZ.mono ?_
      rintro e w1 ⟨r, rfl, hrr, hw⟩
      subst w1
      clear CZ
      rcases hrr with rfl | ⟨r0, r1⟩
      · go_wp2
        go_ret
        exact ⟨_, rfl, .inl rfl, rfl⟩
      · have hr5 : ¬ r < 0 := by omega
        have hr6 : r ≤ 1048576 := by omega
        have hS2 : Hid (r + sm rows (k + 1) = L0) := hide (by rw [hst.out]; have := hS.out; omega)
        clear r1 hS hst
        go_wp2
        go_round
        case rel => exact ⟨k + 1, r, by omega, by go_num, rfl, r0, hr6, hS2⟩
        case measure => simp [intOf]; omega
    · obtain rfl : k = rows.length := by omega
      have R : Hid (0 ≤ L ∧ L + rows.length + sm rows rows.length = left) := hide ⟨hl0, by have := hS.out; have := hLH.out; omega⟩
      clear hS
      go_wp2
      go_ret
      exact ⟨_, rfl, .inr R.out, rfl⟩
set_option maxRecDepth 20000 in
set_option maxHeartbeats 1600000 in
theorem cSzSid (ra : Option Addr) (rc : Nat) (room : List Int) (a : Option Addr) (c : Nat) (vs : List Value) (rows : List (List Int)) (left : Int) (w : World) (hR : RowsW w a vs rows) (h0 : 0 ≤ left) (h1 : left ≤ 1048576) (hm : room.length ≤ maxLen) (hn : rows.length ≤ maxLen) (hr : ∀ i, i < rows.length → (rwA rows i).length ≤ maxLen) :
    Calls Tryz.prog 12 #[.agg #[.slice ra room.length rc, .slice a rows.length c], .int .i64 left] w fun e w' => ∃ r, e = .returned (.int .i64 r) ∧ (r = -1 ∨ (0 ≤ r ∧ r + room.length + rows.length + sm rows rows.length = left)) ∧ Below w.heap.size w w' := by
  have hW := balloc w (.cells #[.slice ra room.length rc, .slice a rows.length c] 32)
  have hR2 := hR.below hW
  go_enter Tryz.func12, Tryz.ntmps12
  go_wp2_with fail
  refine (cSzI ra room.length rc left _ h0 h1 hm).mono ?_
  rintro e w1 ⟨r, rfl, hrr, hw⟩
  subst w1
  rcases hrr with rfl | ⟨r0, r1⟩
  · go_wp2
    go_ret
    exact ⟨_, rfl, .inl rfl, hW⟩
  have hr5 : ¬ r < 0 := by omega
  have CZ := cSzSS a c vs rows r _ hR2 r0 (by omega) hn hr
  replace r1 := hide r1
  go_wp2_with fail
  refine CZ.mono ?_
  rintro e w1 ⟨s, rfl, hss, hw⟩
  subst w1
  clear CZ
  rcases hss with rfl | ⟨s0, s1⟩
  · go_wp2
    go_ret
    exact ⟨_, rfl, .inl rfl, hW⟩
  have hs5 : ¬ s < 0 := by omega
  have R : Hid (0 ≤ s ∧ s + room.length + rows.length + sm rows rows.length = left) := hide ⟨s0, by have := r1.out; omega⟩
  clear s1 r1
  go_wp2
  go_ret
  exact ⟨_, rfl, .inr R.out, hW⟩
/-! Copied. -/
theorem gofr {w w' : World} (r : Option Nat) (hb : Below w.heap.size w w') : w.grownBy w' r := ⟨hb.os, hb.tape, hb.output, hb.size, fun k hk _ => hb.block k hk⟩
theorem TabR.made {e B g b : Nat} {w : World} (h : w.ownsRow B e 1 (.slice (some ⟨g, 0, none⟩) b b) b (List.replicate b (.slice none 0 0))) : TabR e B w (.slice (some ⟨g, 0, none⟩) b b) (List.replicate b (.slice none 0 0)) (List.replicate b []) := by
  refine ⟨by simpa using h, fun j hj => ?_, fun i j hi hj _ k hk => ?_⟩
  · have : rwA (List.replicate b ([] : List Int)) j = [] := by simp only [rwA, List.getD, List.getElem?_replicate]; split <;> rfl
    rw [this, List.getElem_replicate]; exact RowI.nil _ _
  · rw [List.getElem_replicate] at hk; simp [Value.ownBlock] at hk
/-- The first k rows, and none behind. -/
def upR (rows : List (List Int)) (k : Nat) : List (List Int) := (List.range rows.length).map (fun i => if i < k then rwA rows i else [])
theorem upR_len (rows : List (List Int)) (k : Nat) : (upR rows k).length = rows.length := by simp [upR]
theorem upR_at {rows : List (List Int)} {k i : Nat} (h : i < rows.length) : rwA (upR rows k) i = if i < k then rwA rows i else [] := by simp [upR, rwA, List.getD, h]
theorem upR_zero (rows : List (List Int)) : upR rows 0 = List.replicate rows.length [] := by
  apply List.ext_getElem
  · simp [upR]
  · intro i h1 h2; simp [upR]
theorem upR_full (rows : List (List Int)) : upR rows rows.length = rows := rows_ext (upR_len _ _) (fun i hi => by rw [upR_len] at hi; rw [upR_at hi, if_pos hi])
theorem upR_step {rows : List (List Int)} {k : Nat} (h : k < rows.length) : setR (upR rows k) k (rwA rows k) = upR rows (k + 1) := by
  refine rows_ext (by rw [setR_len, upR_len, upR_len]) fun i hi => ?_
  rw [setR_len, upR_len] at hi
  rw [rwA_set (by rw [upR_len]; exact h), upR_at hi, upR_at hi]
  by_cases e : i = k
  · subst e; rw [if_pos rfl, if_pos (by omega)]
  · rw [if_neg e]
    by_cases g : i < k
    · rw [if_pos g, if_pos (by omega)]
    · rw [if_neg g, if_neg (by omega)]
theorem TabR.ownN {e B n c g : Nat} {w : World} {vs : List Value} {xss : List (List Int)} (h : TabR e B w (.slice (some ⟨g, 0, none⟩) n c) vs xss) (hn : xss.length = n) : w.ownsRow B e 1 (.slice (some ⟨g, 0, none⟩) n c) n vs := by
  have := h.own; rw [hn] at this; exact this
set_option maxRecDepth 20000 in
set_option maxHeartbeats 3200000 in
theorem cToSS (a : Option Addr) (cap : Nat) (us : List Value) (rows : List (List Int)) (w : World) (hR : RowsW w a us rows) (hn : rows.length ≤ 1048576) (hr : ∀ i, i < rows.length → (rwA rows i).length ≤ 1048576) :
    Calls Tryz.prog 41 #[.slice a rows.length cap] w fun e w' => ∃ T vs, e = .returned (.slice (some ⟨T, 0, none⟩) rows.length rows.length) ∧ TabR 29 w.heap.size w' (.slice (some ⟨T, 0, none⟩) rows.length rows.length) vs rows ∧ Below w.heap.size w w' := by
  obtain ⟨i0, hi, hz0, hz1, hz2⟩ := info_parts infoIntS
  have hcell := hide hR.cell
  have heach := hide hR.each
  have hvl := hide hR.len
  clear hR
  go_enter Tryz.func41, Tryz.ntmps41
  go_wp2_with (at_make; refine wpList_make_full _ rfl _ _ 30 rfl w.heap.size 29 i0 (.slice none 0 0) 1 Tryz.underlying30 hi hz0 hz1 _ _ _ _ rows.length rfl rfl rfl rfl (by rw [hz2]; omega) (by unfold maxLen; omega) (Nat.le_refl _) ?_; intro w1 hown hgrow)
  have hown' : w1.ownsRow w.heap.size 29 1 (.slice (some ⟨w.heap.size, 0, none⟩) rows.length rows.length) rows.length (List.replicate rows.length (.slice none 0 0)) := by
    simpa [toList_madeCells_one, Value.cells] using hown
  have hbel : Below w.heap.size w w1 := (Below.refl _ _).grown hgrow (Nat.le_refl _) (fun k hk => by cases hk)
  have T0 := TabR.made hown'
  rw [← upR_zero rows] at T0
  clear hown hgrow hown'
  generalize hTb : w.heap.size = T at *
  go_loopw [4] (fun i wr => ∃ (k : Nat) (vs : List Value), k ≤ rows.length ∧ i = .int .i64 k ∧ TabR 29 T wr (.slice (some ⟨T, 0, none⟩) rows.length rows.length) vs (upR rows k) ∧ Below T w wr) (fun i _ => rows.length - (intOf i).toNat)
  case atStart => exact ⟨0, _, Nat.zero_le _, rfl, T0, hbel⟩
  case round =>
    obtain ⟨k, vs, hk, rfl, hTab, hb⟩ := hrel
    clear T0 hbel
    by_cases hlt : k < rows.length
    · obtain ⟨bb, off, rfl, hc⟩ : ∃ b off, a = some ⟨b, off, none⟩ ∧ ∀ i, (hi : i < us.length) → w.cell? ⟨b, off + i, none⟩ = some us[i] := by
        rcases hcell.out with h | h
        · simp [h] at hlt
        · exact h
      have hku : k < us.length := by have := hvl.out; omega
      have hbw : Below w.heap.size w wr := by rw [hTb]; exact hb
      obtain ⟨ai, ci, hv, hI, -⟩ := heach.out k hku
      have p2 := ble hbw (hc k hku)
      rw [hv] at p2
      have CT := cToInts ai ci (rwA rows k) wr (hI.below hbw) (hr k hlt)
      have hkv : k < vs.length := by have := hTab.len; rw [upR_len] at this; omega
      have hst := hide (upR_step hlt)
      have hTabH := hide hTab
      have hTsz : T < wr.heap.size := owns_lt (hTab.ownN (upR_len _ _))
      clear hc hv hI hTab
      generalize hX : (rwA rows k).length = X at *
      replace hX := hide hX
      go_wp2_with fail
      refine CT.mono ?_
      rintro e w2 ⟨g, rfl, hO, hg, hb2⟩
      subst hg
      have hTab2 := hTabH.out.below hb2
      have hP := hTabH.out.put (w2 := w2) (j := k) (v2 := .slice (some ⟨wr.heap.size, 0, none⟩) X X) (ys := rwA rows k) (by decide) hkv (gofr _ hb2) (RowI.base (RowI.own hO) (by omega)) (.inr (fun j hj => by simp [Value.ownBlock] at hj; omega))
      rw [hst.out] at hP
      have hc2 : w2.cell? ⟨T, k, none⟩ = some vs[k] := hTab2.cell hkv
      have hf2 : w2.frozen? ⟨T, k, none⟩ = false := (hTab2.ownN (upR_len _ _)).frozenAt k
      have hB2 := below_put (g := T) (j := k) (v2 := .slice (some ⟨wr.heap.size, 0, none⟩) X X) hb (by omega) (gofr none hb2) (fun k hk => by cases hk) (Nat.le_refl _)
      clear hTabH hTab2 hO hst CT hb hbw hb2
      go_wp2
      go_roundw
      case rel => exact ⟨k + 1, _, by omega, by go_num, hP, hB2⟩
      case measure => simp [intOf]; omega
    · obtain rfl : k = rows.length := by omega
      rw [upR_full] at hTab
      have hpost : ∃ T2 vs, Ending.returned (.slice (some ⟨T, 0, none⟩) rows.length rows.length) = .returned (.slice (some ⟨T2, 0, none⟩) rows.length rows.length) ∧ TabR 29 T wr (.slice (some ⟨T2, 0, none⟩) rows.length rows.length) vs rows ∧ Below T w wr := ⟨T, vs, rfl, hTab, hb⟩
      clear hTab hb
      go_wp2
      go_ret
      rw [hTb]
      exact hpost
/-! Sidings whose rows, and whose room, lie in blocks of their own. -/
structure SidO (B : Nat) (w : World) (rv v : Value) (vs : List Value) (room : List Int) (rows : List (List Int)) : Prop where
  room : RowI w B rv room
  tab : TabR 29 B w v vs rows
  far : ∀ j, (hj : j < vs.length) → ∀ k, vs[j].ownBlock = some k → rv.ownBlock ≠ some k
/-- The blocks of sidings. -/
def SidB (rv v : Value) (vs : List Value) (k : Nat) : Prop := rv.ownBlock = some k ∨ v.ownBlock = some k ∨ ∃ j, ∃ hj : j < vs.length, vs[j].ownBlock = some k
theorem SidO.blk {B : Nat} {w : World} {rv v : Value} {vs : List Value} {room : List Int} {rows : List (List Int)} (h : SidO B w rv v vs room rows) : ∀ k, SidB rv v vs k → B ≤ k ∧ k < w.heap.size := by
  rintro k (hk | hk | ⟨j, hj, hk⟩)
  · have := h.room.blk k hk; exact ⟨this.1, this.2.1⟩
  · have := own_type h.tab.own k hk; exact ⟨this.1, this.2.1⟩
  · have := (h.tab.each j hj).blk k hk; exact ⟨this.1, this.2.1⟩
theorem own_same {w w' : World} {B e n : Nat} {v : Value} {xs : List Value} (h : w.ownsRow B e 1 v n xs) (hk : ∀ k, v.ownBlock = some k → w'.heap[k]? = w.heap[k]?) : w'.ownsRow B e 1 v n xs := by
  refine ⟨h.1, ?_⟩
  rcases h.2 with h2 | ⟨g, cap', cur, rfl, hg, hh, hr⟩
  · exact .inl h2
  · exact .inr ⟨g, cap', cur, rfl, hg, (hk g (by simp [Value.ownBlock])).trans hh, hr⟩
theorem SidO.keep {B : Nat} {w w' : World} {rv v : Value} {vs : List Value} {room : List Int} {rows : List (List Int)} (h : SidO B w rv v vs room rows) (hk : ∀ k, SidB rv v vs k → w'.heap[k]? = w.heap[k]?) : SidO B w' rv v vs room rows :=
  ⟨h.room.same (fun k e => hk k (.inl e)), ⟨own_same h.tab.own (fun k e => hk k (.inr (.inl e))), fun j hj => (h.tab.each j hj).same (fun k e => hk k (.inr (.inr ⟨j, hj, e⟩))), h.tab.pair⟩, h.far⟩
theorem SidO.below {B : Nat} {w w' : World} {rv v : Value} {vs : List Value} {room : List Int} {rows : List (List Int)} (h : SidO B w rv v vs room rows) (hb : Below w.heap.size w w') : SidO B w' rv v vs room rows :=
  h.keep (fun k hk => hb.block k (h.blk k hk).2)
theorem SidO.base {B B' : Nat} {w : World} {rv v : Value} {vs : List Value} {room : List Int} {rows : List (List Int)} (h : SidO B w rv v vs room rows) (hB : B' ≤ B) : SidO B' w rv v vs room rows := ⟨h.room.base hB, h.tab.base hB, h.far⟩
theorem TabR.rowsW {e B n c : Nat} {w : World} {a : Option Addr} {vs : List Value} {xss : List (List Int)} (h : TabR e B w (.slice a n c) vs xss) : RowsW w a vs xss := by
  refine ⟨h.len, ?_, fun i hi => ?_⟩
  · by_cases h0 : xss = []
    · exact .inl h0
    · right
      rcases h.own.2 with ⟨_, h1⟩ | ⟨g, c', cur, e1, _⟩
      · exact absurd (List.length_eq_zero_iff.1 h1) h0
      · simp only [Value.slice.injEq] at e1
        obtain ⟨rfl, rfl, rfl⟩ := e1
        exact ⟨g, 0, rfl, fun i hi => by rw [Nat.zero_add]; exact h.cell hi⟩
  · obtain ⟨ai, ci, h1, h2, h3, _⟩ := (h.each i hi).form
    exact ⟨ai, ci, h1, h2, h3⟩
/-- What sidings of their own are as an argument. -/
theorem SidO.arg {B : Nat} {w : World} {rv v : Value} {vs : List Value} {room : List Int} {rows : List (List Int)} (h : SidO B w rv v vs room rows) :
    ∃ ra rc a c, rv = .slice ra room.length rc ∧ v = .slice a rows.length c ∧ Ints w ra room ∧ RowsW w a vs rows ∧ room.length ≤ rc := by
  obtain ⟨ra, rc, rfl, h2, h3, _⟩ := h.room.form
  obtain ⟨a, c, hv⟩ := own_form h.tab.own
  have := h.tab
  rw [hv] at this
  exact ⟨ra, rc, a, c, rfl, hv, h2, this.rowsW, h3⟩
set_option maxRecDepth 20000 in
set_option maxHeartbeats 1600000 in
theorem cToSid (ra : Option Addr) (rc : Nat) (room : List Int) (a : Option Addr) (c : Nat) (us : List Value) (rows : List (List Int)) (w : World) (hM : Ints w ra room) (hR : RowsW w a us rows) (hm : room.length ≤ 1048576) (hn : rows.length ≤ 1048576) (hr : ∀ i, i < rows.length → (rwA rows i).length ≤ 1048576) :
    Calls Tryz.prog 20 #[.agg #[.slice ra room.length rc, .slice a rows.length c]] w fun e w' => ∃ g T vs, e = .returned (.agg #[.slice (some ⟨g, 0, none⟩) room.length room.length, .slice (some ⟨T, 0, none⟩) rows.length rows.length]) ∧ SidO w.heap.size w' (.slice (some ⟨g, 0, none⟩) room.length room.length) (.slice (some ⟨T, 0, none⟩) rows.length rows.length) vs room rows ∧ Below w.heap.size w w' := by
  have b1 := balloc w (.cells #[.slice ra room.length rc, .slice a rows.length c] 32)
  have k1 := heap_alloc_new w (.cells #[.slice ra room.length rc, .slice a rows.length c] 32)
  obtain ⟨W1, hW1⟩ : ∃ W, W = w.alloc (.cells #[.slice ra room.length rc, .slice a rows.length c] 32) := ⟨_, rfl⟩
  have z1 : W1.heap.size = w.heap.size + 1 := by rw [hW1]; exact sz1 _ _
  rw [← hW1] at b1 k1
  have b2 := balloc W1 (.cells #[.slice none 0 0, .slice none 0 0] 44)
  have k2 := heap_alloc_new W1 (.cells #[.slice none 0 0, .slice none 0 0] 44)
  obtain ⟨W2, hW2⟩ : ∃ W, W = W1.alloc (.cells #[.slice none 0 0, .slice none 0 0] 44) := ⟨_, rfl⟩
  have z2 : W2.heap.size = w.heap.size + 1 + 1 := by rw [hW2, sz1, z1]
  rw [← hW2] at b2 k2
  have b3 := balloc W2 (.cells #[.slice none 0 0, .slice none 0 0] 44)
  have k3 := heap_alloc_new W2 (.cells #[.slice none 0 0, .slice none 0 0] 44)
  have K0 := (b3.block w.heap.size (by omega)).trans ((b2.block w.heap.size (by omega)).trans k1)
  have K1 := (b3.block W1.heap.size (by omega)).trans k2
  have K2 := k3
  rw [z1] at K1
  rw [z2] at K2
  have HB := btrans (btrans b1 b2) b3
  have z3 := sz1 W2 (.cells #[.slice none 0 0, .slice none 0 0] 44)
  rw [z2] at z3
  rw [hW2, hW1] at K0 K1 K2 HB z3
  clear k1 k2 k3 b1 b2 b3 z1 z2 hW1 hW2 W1 W2
  go_enter Tryz.func20, Tryz.ntmps20
  go_wp2_with fail
  generalize (((w.alloc (Obj.cells #[Value.slice ra room.length rc, Value.slice a rows.length c] 32)).alloc (Obj.cells #[Value.slice none 0 0, Value.slice none 0 0] 44)).alloc (Obj.cells #[Value.slice none 0 0, Value.slice none 0 0] 44)) = W at *
  refine (cToInts ra rc room _ (hM.below HB) hm).mono ?_
  rintro e w4 ⟨g, rfl, hO, hg, hb4⟩
  replace K0 := (hb4.block w.heap.size (by omega)).trans K0
  replace K1 := (hb4.block (w.heap.size + 1) (by omega)).trans K1
  replace K2 := (hb4.block (w.heap.size + 1 + 1) (by omega)).trans K2
  have HB4 := btrans HB hb4
  have hsz4 := hb4.size
  have hg3 : w.heap.size + 1 + 1 < g := by omega
  have hgl : g < w4.heap.size := owns_lt hO
  have c2 : w4.cell? ⟨w.heap.size + 1 + 1, 0, none⟩ = some (.slice none 0 0) := by rw [cell_blk K2]; rfl
  have f2 := frozen_of_row w4 (w.heap.size + 1 + 1) 0 _ _ K2
  have K2' : (w4.setCell ⟨w.heap.size + 1 + 1, 0, none⟩ (.slice (some ⟨g, 0, none⟩) room.length room.length)).heap[w.heap.size + 1 + 1]? = some (.cells #[.slice (some ⟨g, 0, none⟩) room.length room.length, .slice none 0 0] 44 (0, 0)) := by
    rw [heap_setCell_same w4 _ 0 _ _ _ K2]; rfl
  have K0' : (w4.setCell ⟨w.heap.size + 1 + 1, 0, none⟩ (.slice (some ⟨g, 0, none⟩) room.length room.length)).heap[w.heap.size]? = _ := (heap_setCell (by omega)).trans K0
  have K1' : (w4.setCell ⟨w.heap.size + 1 + 1, 0, none⟩ (.slice (some ⟨g, 0, none⟩) room.length room.length)).heap[w.heap.size + 1]? = _ := (heap_setCell (by omega)).trans K1
  have hO' := own_set (i := 0) (b := w.heap.size + 1 + 1) (u := .slice (some ⟨g, 0, none⟩) room.length room.length) hO (fun k hk e => by simp [Value.ownBlock] at hk; omega)
  have HB5 : Below w.heap.size w (w4.setCell ⟨w.heap.size + 1 + 1, 0, none⟩ (.slice (some ⟨g, 0, none⟩) room.length room.length)) := below_set (by omega) HB4
  have z5 : (w4.setCell ⟨w.heap.size + 1 + 1, 0, none⟩ (.slice (some ⟨g, 0, none⟩) room.length room.length)).heap.size = w4.heap.size := by simp
  have x1 : (w4.setCell ⟨w.heap.size + 1 + 1, 0, none⟩ (.slice (some ⟨g, 0, none⟩) room.length room.length)).cell? ⟨w.heap.size, 1, none⟩ = some (.slice a rows.length c) := by rw [cell_blk K0']; rfl
  clear HB HB4 K0 K1 K2 hO hb4 hg
  go_wp2_with fail
  generalize w4.setCell ⟨w.heap.size + 1 + 1, 0, none⟩ (.slice (some ⟨g, 0, none⟩) room.length room.length) = w5 at *
  clear c2 f2 x1
  refine (cToSS a c us rows _ (hR.below HB5) hn hr).mono ?_
  rintro e w6 ⟨T, vs, rfl, hTab, hb6⟩
  have K2 := (hb6.block (w.heap.size + 1 + 1) (by omega)).trans K2'
  have K1 := (hb6.block (w.heap.size + 1) (by omega)).trans K1'
  have hO6 := own_keep hO' hb6
  have HB6 := btrans HB5 hb6
  have hsz6 := hb6.size
  have c3 : w6.cell? ⟨w.heap.size + 1 + 1, 1, none⟩ = some (.slice none 0 0) := by rw [cell_blk K2]; rfl
  have f3 := frozen_of_row w6 (w.heap.size + 1 + 1) 1 _ _ K2
  have r2 : w6.cell? ⟨w.heap.size + 1 + 1, 0, none⟩ = some (.slice (some ⟨g, 0, none⟩) room.length room.length) := by rw [cell_blk K2]; rfl
  have c4 : w6.cell? ⟨w.heap.size + 1, 0, none⟩ = some (.slice none 0 0) := by rw [cell_blk K1]; rfl
  have c5 : w6.cell? ⟨w.heap.size + 1, 1, none⟩ = some (.slice none 0 0) := by rw [cell_blk K1]; rfl
  have f4 := frozen_of_row w6 (w.heap.size + 1) 0 _ _ K1
  have f5 := frozen_of_row w6 (w.heap.size + 1) 1 _ _ K1
  have hS : SidO w5.heap.size w6 (.slice none 0 0) (.slice (some ⟨T, 0, none⟩) rows.length rows.length) vs [] rows := ⟨RowI.nil _ _, hTab, fun j hj k hk e => by simp [Value.ownBlock] at e⟩
  have hSid : SidO w.heap.size w6 (.slice (some ⟨g, 0, none⟩) room.length room.length) (.slice (some ⟨T, 0, none⟩) rows.length rows.length) vs room rows := ⟨RowI.base (.inl hO6) (by omega), hTab.base (by omega), fun j hj k hk e => by
    have h1 := hS.blk k (.inr (.inr ⟨j, hj, hk⟩))
    simp [Value.ownBlock] at e
    omega⟩
  have hTge : ∀ k, SidB (.slice (some ⟨g, 0, none⟩) room.length room.length) (.slice (some ⟨T, 0, none⟩) rows.length rows.length) vs k → w.heap.size + 1 + 1 < k := by
    rintro k (hk | hk | hk)
    · simp [Value.ownBlock] at hk; omega
    · have := (hS.blk k (.inr (.inl hk))).1; omega
    · have := (hS.blk k (.inr (.inr hk))).1; omega
  clear hS hTab K2' K1' K0' hO' hO6 hb6 HB5
  go_wp2
  obtain ⟨V, hV⟩ : ∃ V, V = ((w6.setCell ⟨w.heap.size + 1 + 1, 1, none⟩ (.slice (some ⟨T, 0, none⟩) rows.length rows.length)).setCell ⟨w.heap.size + 1, 0, none⟩ (.slice (some ⟨g, 0, none⟩) room.length room.length)).setCell ⟨w.heap.size + 1, 1, none⟩ (.slice (some ⟨T, 0, none⟩) rows.length rows.length) := ⟨_, rfl⟩
  have KV : V.heap[w.heap.size + 1]? = some (.cells #[.slice (some ⟨g, 0, none⟩) room.length room.length, .slice (some ⟨T, 0, none⟩) rows.length rows.length] 44 (0, 0)) := by
    have q1 : (w6.setCell ⟨w.heap.size + 1 + 1, 1, none⟩ (.slice (some ⟨T, 0, none⟩) rows.length rows.length)).heap[w.heap.size + 1]? = _ := (heap_setCell (by omega)).trans K1
    have q2 := heap_setCell_same _ _ 0 _ _ (.slice (some ⟨g, 0, none⟩) room.length room.length) q1
    have q3 := heap_setCell_same _ _ 1 _ _ (.slice (some ⟨T, 0, none⟩) rows.length rows.length) q2
    rw [hV, q3]; rfl
  have v0 : V.cell? ⟨w.heap.size + 1, 0, none⟩ = some (.slice (some ⟨g, 0, none⟩) room.length room.length) := by rw [cell_blk KV]; rfl
  have v1 : V.cell? ⟨w.heap.size + 1, 1, none⟩ = some (.slice (some ⟨T, 0, none⟩) rows.length rows.length) := by rw [cell_blk KV]; rfl
  have hSV : SidO w.heap.size V (.slice (some ⟨g, 0, none⟩) room.length room.length) (.slice (some ⟨T, 0, none⟩) rows.length rows.length) vs room rows := hSid.keep (fun k hk => by
    have := hTge k hk
    rw [hV, heap_setCell (by omega), heap_setCell (by omega), heap_setCell (by omega)])
  have HBV : Below w.heap.size w V := by rw [hV]; exact below_set (by omega) (below_set (by omega) (below_set (by omega) HB6))
  rw [← hV]
  clear hV KV hSid HB6
  refine bodyPost_ret (v := .agg #[.slice (some ⟨g, 0, none⟩) room.length room.length, .slice (some ⟨T, 0, none⟩) rows.length rows.length]) (by simp [results, Tryz.results20, v0, v1, go_sem]) rfl ?_
  exact ⟨g, T, vs, rfl, hSV, HBV⟩
end Go.Proofs.YtjbecnflpfjicaaGreat.s18
