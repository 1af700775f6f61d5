/- Lists of telegrams measured and copied. -/
import Derived.Test.YtgnohomplehacaaTT
namespace Go.Proofs.Ytgnohomplehacaa
open Go.RowKit
def zTC : TC := ⟨0, 0, .slice none 0 0⟩
theorem madeTel (n : Nat) : (madeCells (Value.agg #[.int .i64 0, .int .i64 0, .slice none 0 0]).cells (n * 3)).toList = flatC (List.replicate n zTC) := by
  apply List.ext_getElem?
  intro j
  by_cases hj : j < n * 3
  · have hd : j / 3 < (List.replicate n zTC).length := by simp; omega
    obtain ⟨g0, g1, g2⟩ := flatC_get (List.replicate n zTC) (j / 3) hd
    simp only [madeCells, Value.cells]
    have h3 : j % 3 = 0 ∨ j % 3 = 1 ∨ j % 3 = 2 := by omega
    rcases h3 with h | h | h
    · have e : j / 3 * 3 = j := by omega
      rw [e] at g0
      rw [g0]
      simp [hj, h, zTC]
    · have e : j / 3 * 3 + 1 = j := by omega
      rw [e] at g1
      rw [g1]
      simp [hj, h, zTC]
    · have e : j / 3 * 3 + 2 = j := by omega
      rw [e] at g2
      rw [g2]
      simp [hj, h, zTC]
  · rw [List.getElem?_eq_none (by simp [madeCells]; omega), List.getElem?_eq_none (by rw [flatC_len]; simp; omega)]
theorem flatC_set3 : ∀ (cs : List TC) (j : Nat) (_hj : j < cs.length) (x y : Int) (v : Value), (((flatC cs).set (j * 3) (.int .i64 x)).set (j * 3 + 1) (.int .i64 y)).set (j * 3 + 2) v = flatC (cs.set j ⟨x, y, v⟩) := by
  intro cs
  induction cs with
  | nil => intro j hj; simp at hj
  | cons c cs ih =>
    intro j hj x y v
    cases j with
    | zero => rfl
    | succ j =>
      have := ih j (by simpa using hj) x y v
      rw [flatC_cons, show (j + 1) * 3 = j * 3 + 1 + 1 + 1 by omega]
      simp only [List.set_cons_succ, flatC_cons]
      rw [this]
set_option maxHeartbeats 1600000 in
theorem cSzTels (a : Option Addr) (cap : Nat) (ts : List TelV) (w : World) (hR : Tels w a ts) (hB : Big ts) :
    Calls Try.prog 44 #[.slice a ts.length cap, .int .i64 1048576] w fun e w' => ∃ r, e = .returned (.int .i64 r) ∧ (r = -1 ∨ (0 ≤ r ∧ Small ts)) ∧ Below w.heap.size w w' := by
  obtain ⟨hl, he⟩ := hB
  have hl2 := hl
  unfold maxLen at hl2
  replace he := hide he
  by_cases h0 : (1048576 : Int) - ts.length < 0
  · go_enter Try.func44, Try.ntmps44
    go_wp2
    go_ret
    exact ⟨_, rfl, .inl rfl, Below.refl _ _⟩
  have hs : ts.length ≤ 1048576 := by omega
  go_enter Try.func44, Try.ntmps44
  go_wp2
  go_loopw [1, 5] (fun l i wr => ∃ (k : Nat) (r : Int), k ≤ ts.length ∧ i = .int .i64 k ∧ l = .int .i64 r ∧ 0 ≤ r ∧ r ≤ 1048576 ∧ Hid (∀ t ∈ ts.take k, t.b.length ≤ 1048576) ∧ Below w.heap.size w wr) (fun _ i _ => ts.length - (intOf i).toNat)
  case atStart => exact ⟨0, _, Nat.zero_le _, rfl, rfl, by omega, by omega, hide (fun t ht => by simp at ht), Below.refl _ _⟩
  case round =>
    obtain ⟨k, r, hk, rfl, rfl, hr0, hr1, hall, hb⟩ := hrel
    by_cases hlt : k < ts.length
    · obtain ⟨b, off, na, nc, rfl, c0, c1, c2, -, -⟩ := (hR.below hb).at hlt
      have hek : ts[k].b.length ≤ maxLen := he.out _ (List.getElem_mem hlt)
      have hst : Hid (ts[k].b.length ≤ 1048576 → ∀ t ∈ ts.take (k + 1), t.b.length ≤ 1048576) := hide (fun h t ht => by
        rw [List.take_succ_eq_append_getElem hlt] at ht
        rcases List.mem_append.1 ht with ht | ht
        · exact hall.out t ht
        · simp at ht; subst ht; exact h)
      generalize ts[k] = R at *
      clear hall
      have hk0 : (0 : Int) ≤ (k : Int) := by omega
      have hk1 : (k : Int) < (ts.length : Int) := by omega
      have CZ := cSzTel R.q R.k na R.b.length nc r wr hr0 hr1 hek
      clear hR hek
      go_wp2_with fail
      refine CZ.mono ?_
      rintro e w2 ⟨r2, rfl, hr2, hb2⟩
      have HB := btrans hb hb2
      clear CZ hb hb2 c0 c1 c2
      rcases hr2 with rfl | ⟨hr2, hr20⟩
      · go_wp2
        go_ret
        exact ⟨_, rfl, .inl rfl, HB⟩
      · have hr3 : r2 ≤ 1048576 := by omega
        have hfit := hide (hst.out (by omega))
        have hr4 : ¬ (r2 < 0) := by omega
        clear hr2 hst
        go_wp2
        go_roundw
        case rel => exact ⟨k + 1, r2, by omega, by go_num, rfl, hr20, hr3, hfit, HB⟩
        case measure => simp [intOf]; omega
    · obtain rfl : k = ts.length := by omega
      have hS : Hid (Small ts) := hide ⟨hs, by have := hall.out; rw [List.take_length] at this; exact this⟩
      clear hall hR
      go_wp2
      go_ret
      exact ⟨r, rfl, .inr ⟨hr0, hS.out⟩, hb⟩
/-- What the copying holds: the first k are done. -/
structure CpT (B : Nat) (ts : List TelV) (k : Nat) (cs : List TC) (w : World) : Prop where
  own : w.ownsRow B 25 3 (.slice (some ⟨B, 0, none⟩) ts.length ts.length) ts.length (flatC cs)
  len : cs.length = ts.length
  each : ∀ j, (hj : j < cs.length) → j < k → cs[j].q = (ts.getD j TelV.zero).q ∧ cs[j].k = (ts.getD j TelV.zero).k ∧ w.ownsRow B 5 1 cs[j].v (ts.getD j TelV.zero).b.length (enc8 (ts.getD j TelV.zero).b)
  pair : ∀ i j, (hi : i < cs.length) → (hj : j < cs.length) → i < k → j < k → i ≠ j → ∀ b, cs[i].v.ownBlock = some b → cs[j].v.ownBlock ≠ some b
theorem CpT.tab {B : Nat} {ts : List TelV} {cs : List TC} {w : World} (h : CpT B ts ts.length cs w) : TabT B w (.slice (some ⟨B, 0, none⟩) ts.length ts.length) cs ts :=
  ⟨h.own, h.len, fun j hj => h.each j hj (by rw [← h.len]; exact hj), fun i j hi hj => h.pair i j hi hj (by rw [← h.len]; exact hi) (by rw [← h.len]; exact hj)⟩
theorem CpT.step {B : Nat} {ts : List TelV} {k : Nat} {cs : List TC} {w w2 : World} {q kk : Int} {v : Value} (h : CpT B ts k cs w) (hk : k < ts.length) (hb : Below w.heap.size w w2) (hB : B ≤ w.heap.size)
    (e1 : q = (ts.getD k TelV.zero).q) (e2 : kk = (ts.getD k TelV.zero).k) (ho : w2.ownsRow w.heap.size 5 1 v (ts.getD k TelV.zero).b.length (enc8 (ts.getD k TelV.zero).b)) :
    CpT B ts (k + 1) (cs.set k ⟨q, kk, v⟩) (((w2.setCell ⟨B, k * 3, none⟩ (.int .i64 q)).setCell ⟨B, k * 3 + 1, none⟩ (.int .i64 kk)).setCell ⟨B, k * 3 + 2, none⟩ v) := by
  have hkc : k < cs.length := by rw [h.len]; exact hk
  have O1 := own_keep h.own hb
  have O2 := ((O1.stored (k * 3) (.int .i64 q)).1.stored (k * 3 + 1) (.int .i64 kk)).1.stored (k * 3 + 2) v
  have hset : ∀ {u : Value} {n : Nat} {xs : List Value}, w2.ownsRow B 5 1 u n xs → (((w2.setCell ⟨B, k * 3, none⟩ (.int .i64 q)).setCell ⟨B, k * 3 + 1, none⟩ (.int .i64 kk)).setCell ⟨B, k * 3 + 2, none⟩ v).ownsRow B 5 1 u n xs := fun {u n xs} hu => by
    have hne := own_other hu O1 (by decide)
    exact own_set (own_set (own_set hu (fun x hx e => hne x hx (by rw [e]; rfl))) (fun x hx e => hne x hx (by rw [e]; rfl))) (fun x hx e => hne x hx (by rw [e]; rfl))
  refine ⟨by have := O2.1; rw [flatC_set3 _ _ hkc] at this; exact this, by rw [List.length_set]; exact h.len, fun j hj hjk => ?_, fun i j hi hj hik hjk hne b hb1 hb2 => ?_⟩
  · rw [List.length_set] at hj
    rw [List.getElem_set]
    split
    · rename_i e; subst e; exact ⟨e1, e2, hset (own_base ho hB)⟩
    · obtain ⟨h1, h2, h3⟩ := h.each j hj (by omega)
      exact ⟨h1, h2, hset (own_keep h3 hb)⟩
  · rw [List.length_set] at hi hj
    rw [List.getElem_set] at hb1 hb2
    split at hb1
    · rename_i e1'
      split at hb2
      · omega
      · have h5 := own_blk_lt (h.each j hj (by omega)).2.2 b hb2
        have h6 := own_from ho (Nat.le_refl _) b hb1
        omega
    · split at hb2
      · have h5 := own_blk_lt (h.each i hi (by omega)).2.2 b hb1
        have h6 := own_from ho (Nat.le_refl _) b hb2
        omega
      · exact h.pair i j hi hj (by omega) (by omega) hne b hb1 hb2
set_option maxRecDepth 100000 in
set_option maxHeartbeats 1600000 in
theorem cToTels (a : Option Addr) (cap : Nat) (ts : List TelV) (w : World) (hR : Tels w a ts) (hS : Small ts) :
    Calls Try.prog 45 #[.slice a ts.length cap] w fun e w' => e = .returned (.slice (some ⟨w.heap.size, 0, none⟩) ts.length ts.length) ∧ (∃ cs, TabT w.heap.size w' (.slice (some ⟨w.heap.size, 0, none⟩) ts.length ts.length) cs ts) ∧ Below w.heap.size w w' := by
  obtain ⟨hl, he⟩ := hS
  obtain ⟨i0, hi, hz0, hz1, hz2⟩ := info_parts infoTel
  go_enter Try.func45, Try.ntmps45
  go_wp2_with (at_make; refine wpList_make_full _ rfl _ _ 33 rfl w.heap.size 25 i0 (.agg #[.int .i64 0, .int .i64 0, .slice none 0 0]) 3 Try.underlying33 hi hz0 hz1 _ _ _ _ ts.length rfl rfl rfl rfl (by rw [hz2]; omega) (by unfold maxLen; omega) (Nat.le_refl _) ?_; intro w1 hown hgrow)
  have C0 : CpT w.heap.size ts 0 (List.replicate ts.length zTC) w1 := by
    rw [madeTel] at hown
    exact ⟨hown, by simp, fun j hj h => by omega, fun i j hi hj h => by omega⟩
  have hbel : Below w.heap.size w w1 := (Below.refl _ _).grown hgrow (Nat.le_refl _) (fun k hk => by cases hk)
  clear hown hgrow
  replace he := hide he
  go_loopw [4] (fun i wr => ∃ (k : Nat) (cs : List TC), k ≤ ts.length ∧ i = .int .i64 k ∧ CpT w.heap.size ts k cs wr ∧ Below w.heap.size w wr) (fun i _ => ts.length - (intOf i).toNat)
  case atStart => exact ⟨0, _, Nat.zero_le _, rfl, C0, hbel⟩
  case round =>
    clear C0 hbel
    obtain ⟨k, cs, hk, rfl, hC, hb⟩ := hrel
    by_cases hlt : k < ts.length
    · obtain ⟨b, off, na, nc, rfl, c0, c1, c2, hnc, c3⟩ := (hR.below hb).at hlt
      have e0 : ts.getD k TelV.zero = ts[k] := by simp [List.getD, hlt]
      have hek := he.out ts[k] (List.getElem_mem hlt)
      have CT := cToTel ts[k].q ts[k].k na nc ts[k].b wr c3 hek
      have hkc : k < cs.length := by rw [hC.len]; exact hlt
      replace e0 := hide e0
      generalize ts[k] = R at *
      have hk0 : (0 : Int) ≤ (k : Int) := by omega
      have hk1 : (k : Int) < (ts.length : Int) := by omega
      clear c3 hek hR
      go_wp2_with fail
      refine CT.mono ?_
      rintro e w2 ⟨g2, rfl, hro, hb1⟩
      have HB1 := btrans hb hb1
      have C2 : Hid _ := hide (hC.step (q := R.q) (kk := R.k) (v := .slice (some ⟨g2, 0, none⟩) R.b.length R.b.length) hlt hb1 hb.size (by rw [e0.out]) (by rw [e0.out]) (by rw [e0.out]; exact hro))
      have O1 := own_keep hC.own hb1
      have hl3 := flatC_len cs
      have hle := hC.len
      obtain ⟨y0, y1, y2⟩ := flatC_get cs k hkc
      have z0 := (O1.cellAt (k * 3) (by omega)).trans y0
      have z1 := (O1.cellAt (k * 3 + 1) (by omega)).trans y1
      have z2 := (O1.cellAt (k * 3 + 2) (by omega)).trans y2
      have f0 := O1.frozenAt (k * 3)
      have f1 := O1.frozenAt (k * 3 + 1)
      have f2 := O1.frozenAt (k * 3 + 2)
      have HB2 := below_set (o := k * 3 + 2) (v := .slice (some ⟨g2, 0, none⟩) R.b.length R.b.length) (Nat.le_refl _) (below_set (o := k * 3 + 1) (v := .int .i64 R.k) (Nat.le_refl _) (below_set (o := k * 3) (v := .int .i64 R.q) (Nat.le_refl _) HB1))
      clear y0 y1 y2 O1 hl3 hle hC CT HB1 hb1 hro hb c0 c1 c2
      go_wp2
      go_roundw
      case rel => exact ⟨k + 1, _, by omega, by go_num, C2.out, HB2⟩
      case measure => simp [intOf]; omega
    · obtain rfl : k = ts.length := by omega
      have hT := hide hC.tab
      clear hC hR
      go_wp2
      go_ret
      exact ⟨rfl, ⟨cs, hT.out⟩, hb⟩
end Go.Proofs.Ytgnohomplehacaa
