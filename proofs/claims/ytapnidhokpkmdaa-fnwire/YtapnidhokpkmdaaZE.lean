/- The currents of the program. -/
import Derived.Test.YtapnidhokpkmdaaZM
namespace Go.Proofs.Ytapnidhokpkmdaa
open Go.RowKit Fl
attribute [local go_sem] run_store_float

theorem run_store_complex (P : Program) (w : World) (a : Addr) (m : Mode) (k : FloatKind) (x y : Nat) : (store a (.complex k x y) m).run P w = stored P w a (.complex k x y) m := run_store P w a _ m rfl
attribute [local go_sem] run_store_complex
theorem infoCx : (Try.prog.info? 69).map (fun i => (i.zero, i.size, i.bytes)) = some (some (.complex .f64 0 0), 1, 16) := by kernel_rfl
def cxL (ys : List ZV) : List Value := ys.map ZV.cx
theorem cxL_set (ys : List ZV) (i : Nat) (z : ZV) : (cxL ys).set i (.complex .f64 z.re z.im) = cxL (ys.set i z) := by simp [cxL, ZV.cx]
theorem cxL_get {ys : List ZV} {i : Nat} (h : i < ys.length) : (cxL ys)[i]? = some (.complex .f64 (ys.getD i ZV.zero).re (ys.getD i ZV.zero).im) := by simp [cxL, ZV.cx, List.getD, h]
theorem cxL_made (n : Nat) : List.replicate n (Value.complex .f64 0 0) = cxL (List.replicate n ZV.zero) := by simp [cxL, ZV.cx, ZV.zero]
/-- What the loop holds. -/
structure Cur (es : List ZV) (k : Nat) (ys : List ZV) : Prop where
  len : ys.length = es.length
  at' : ∀ j, es.length - k ≤ j → j < es.length → (ys.getD j ZV.zero).c = sAt (cs es) j
theorem Cur.zero (es : List ZV) : Cur es 0 (List.replicate es.length ZV.zero) := ⟨by simp, fun j h1 h2 => by omega⟩
theorem Cur.step {es ys : List ZV} {k i : Nat} {z : ZV} (h : Cur es k ys) (hi : i + k + 1 = es.length) (hz : z.c = sAt (cs es) i) : Cur es (k + 1) (ys.set i z) := by
  refine ⟨by simp [h.len], fun j h1 h2 => ?_⟩
  by_cases hj : j = i
  · subst hj
    have : j < ys.length := by rw [h.len]; exact h2
    simp [List.getD, this, hz]
  · have := h.at' j (by omega) h2
    have hij : i ≠ j := fun e => hj e.symm
    simpa [List.getD, List.getElem?_set, hij] using this
def AnsC (w : World) (es : List ZV) (e : Ending) (w' : World) : Prop :=
  ∃ g ys, e = .returned (.slice (some ⟨g, 0, none⟩) es.length es.length) ∧ w'.ownsRow w.heap.size 69 1 (.slice (some ⟨g, 0, none⟩) es.length es.length) es.length (cxL ys) ∧ Cur es es.length ys ∧ Below w.heap.size w w'

set_option maxRecDepth 20000 in
set_option maxHeartbeats 3200000 in
theorem cCurr (a : Option Addr) (cap : Nat) (es : List ZV) (w : World) (he : Zs w a es) (hl : es.length ≤ 40) :
    Calls Try.prog 58 #[.slice a es.length cap] w (AnsC w es) := by
  obtain ⟨i0, hi, hz0, hz1, hz2⟩ := info_parts infoCx
  have N := cadd_run
  obtain ⟨n, hn⟩ : ∃ n, es.length = n := ⟨_, rfl⟩
  have HN := hide hn
  unfold AnsC
  rw [hn] at hl ⊢
  go_enter Try.func58, Try.ntmps58
  go_wp2_with (at_make; refine wpList_make_full _ rfl _ _ 67 rfl w.heap.size 69 i0 (.complex .f64 0 0) 1 Try.underlying67 hi hz0 hz1 _ _ _ _ n rfl rfl rfl rfl (by rw [hz2]; omega) (by unfold maxLen; omega) (Nat.le_refl _) ?_; intro w1 hown hgrow)
  have hown' : w1.ownsRow w.heap.size 69 1 (.slice (some ⟨w.heap.size, 0, none⟩) n n) n (cxL (List.replicate n ZV.zero)) := by
    have e : (madeCells (Value.complex .f64 0 0).cells (n * 1)).toList = cxL (List.replicate n ZV.zero) := by
      rw [← cxL_made]
      apply List.ext_getElem?
      intro j
      by_cases hj : j < n
      · simp [madeCells, Value.cells, hj, Nat.mod_one]
      · simp [madeCells, Value.cells, hj]
    rw [e] at hown
    exact hown
  have hbel : Below w.heap.size w w1 := (Below.refl _ _).grown hgrow (Nat.le_refl _) (fun k hk => by cases hk)
  clear hown hgrow hn
  go_loopw [11] (fun i wr => ∃ (k : Nat) (ys : List ZV), k ≤ n ∧ i = .int .i64 k ∧ wr.ownsRow w.heap.size 69 1 (.slice (some ⟨w.heap.size, 0, none⟩) n n) n (cxL ys) ∧ Cur es k ys ∧ Below w.heap.size w wr) (fun i _ => n - (intOf i).toNat)
  case atStart => exact ⟨0, _, Nat.zero_le _, rfl, hown', by have := Cur.zero es; rwa [HN.out] at this, hbel⟩
  case round =>
    clear hown' hbel
    obtain ⟨k, ys, hk, rfl, hown, hC, hb⟩ := hrel
    by_cases hlt : k < n
    · obtain ⟨i, hi⟩ : ∃ i, i + k + 1 = n := ⟨n - 1 - k, by omega⟩
      have hin : i < es.length := by have := HN.out; omega
      have hiy : i < ys.length := by rw [hC.len]; exact hin
      rcases he with h | ⟨b1, o1, rfl, q1⟩
      · simp [h] at hin
      obtain ⟨p0, p1⟩ := q1 i hin
      have e1 : IntKind.i64.wrap ((n : Int) - 1) = (n : Int) - 1 := wrap_in _ (by omega) (by omega)
      have e2 : IntKind.i64.wrap ((n : Int) - 1 - (k : Int)) = (i : Int) := (wrap_in _ (by omega) (by omega)).trans (by omega)
      have hiN : i < n := by omega
      replace p0 := ble hb p0
      replace p1 := ble hb p1
      have hG := hide (gC_cs hin)
      clear q1
      generalize es.getD i ZV.zero = x at *
      obtain ⟨xr, xi⟩ := x
      dsimp only at p0 p1
      go_wp2_with fail
      refine (cNumber2 xr xi _).mono ?_
      rintro e w2 ⟨rfl, hb2⟩
      have HB2 := btrans hb hb2
      have O2 := own_keep hown hb2
      clear hown hb hb2 p0 p1
      have c2 := (O2.cellAt i (by omega)).trans (cxL_get hiy)
      have f2 := O2.frozenAt i
      generalize ys.getD i ZV.zero = yo at c2
      obtain ⟨O3, -⟩ := O2.stored i (.complex .f64 xr xi)
      rw [cxL_set ys i ⟨xr, xi⟩] at O3
      have HB3 := below_set (b := w.heap.size) (o := i) (v := .complex .f64 xr xi) (Nat.le_refl _) HB2
      by_cases hk0 : k = 0
      · subst hk0
        have hC3 : Cur es 1 (ys.set i ⟨xr, xi⟩) := hC.step (by have := HN.out; omega) (by rw [sAt_last (by rw [cs_len]; have := HN.out; omega)]; exact hG.out.symm)
        clear O2 HB2 hC hG
        go_wp2
        go_roundw
        case rel => exact ⟨1, _, by omega, by go_num, O3, hC3, HB3⟩
        case measure => simp [intOf]; omega
      · have hi1 : i + 1 < n := by omega
        have hi1y : i + 1 < (ys.set i ⟨xr, xi⟩).length := by simp [hC.len]; have := HN.out; omega
        have hk1 : (0 : Int) < (k : Int) := by omega
        have hZ : Hid (((ys.set i ⟨xr, xi⟩).getD (i + 1) ZV.zero).c = sAt (cs es) (i + 1)) := by
          show _ = _
          have := hC.at' (i + 1) (by have := HN.out; omega) (by have := HN.out; omega)
          simpa [List.getD, List.getElem?_set] using this
        have d0 := (O3.cellAt i (by omega)).trans (cxL_get (by simpa using hiy))
        have d1 := (O3.cellAt (i + 1) (by omega)).trans (cxL_get hi1y)
        have g0 := O3.frozenAt i
        have eg : (ys.set i ⟨xr, xi⟩).getD i ZV.zero = ⟨xr, xi⟩ := by simp [List.getD, hiy]
        rw [eg] at d0
        generalize (ys.set i ⟨xr, xi⟩).getD (i + 1) ZV.zero = y at *
        obtain ⟨yr, yi⟩ := y
        dsimp only at d0 d1
        have e3 : IntKind.i64.wrap ((i : Int) + 1) = (i : Int) + 1 := wrap_in _ (by omega) (by omega)
        have hOS := hide (fun (z : ZV) => (O3.stored i (.complex .f64 z.re z.im)).1)
        have hCS := hide (fun (z : ZV) (h : z.c = sAt (cs es) i) => hC.step (z := z) (by have := HN.out; omega) h)
        have hS := hide (sAt_step (l := cs es) (i := i) (by rw [cs_len]; have := HN.out; omega))
        clear O2 HB2 hC eg O3 hi1y hiy
        go_wp2_with fail
        go_region
        go_wp2_with fail
        generalize hp : fr .add xr yr _ = p
        generalize hq : fr .add xi yi _ = q
        have hz : ZV.c ⟨p, q⟩ = sAt (cs es) i := by rw [hS.out, hG.out, ← hZ.out, ← hp, ← hq]; simp only [ZV.c, zadd, cl_fr]
        have hO4 := hOS.out ⟨p, q⟩
        rw [cxL_set, List.set_set] at hO4
        have hC4 := hCS.out ⟨p, q⟩ hz
        clear hp hq hOS hCS
        exact ⟨⟨k + 1, _, by omega, by go_num, hO4, hC4, below_set (Nat.le_refl _) (bdraw HB3 _)⟩, by simp [intOf]; omega⟩
    · obtain rfl : k = n := by omega
      clear he
      have ho := hown
      go_wp2
      go_ret
      exact ⟨_, _, rfl, ho, hC, hb⟩

theorem infoZ2 : (Try.prog.info? 26).map (fun i => (i.zero, i.size, i.bytes)) = some (some (.agg #[.float .f64 0, .float .f64 0]), 2, 16) := infoZs
theorem flatZs_set (ys : List ZV) (i : Nat) (z : ZV) (h : i < ys.length) : ((flatZs ys).set (i * 2) (.float .f64 z.re)).set (i * 2 + 1) (.float .f64 z.im) = flatZs (ys.set i z) := by
  have e : ys = ys.take i ++ ys[i] :: ys.drop (i + 1) := by rw [← List.drop_eq_getElem_cons h, List.take_append_drop]
  have e2 : ys.set i z = ys.take i ++ z :: ys.drop (i + 1) := by
    rw [List.set_eq_take_append_cons_drop, if_pos h]
  rw [e2]
  conv => lhs; rw [e]
  rw [set_flatZs _ _ _ z.re z.im i (by simp; omega)]
theorem made2 (n : Nat) : (madeCells (Value.agg #[.float .f64 0, .float .f64 0]).cells (n * 2)).toList = flatZs (List.replicate n ZV.zero) := madeZs n
/-- The first k are done. -/
structure Done (n k : Nat) (f : Nat → C2) (zs : List ZV) : Prop where
  len : zs.length = n
  at' : ∀ j, j < k → (zs.getD j ZV.zero).c = f j
theorem Done.zero (n : Nat) (f : Nat → C2) : Done n 0 f (List.replicate n ZV.zero) := ⟨by simp, fun j h => by omega⟩
theorem Done.step {n k : Nat} {f : Nat → C2} {zs : List ZV} {z : ZV} (h : Done n k f zs) (hk : k < n) (hz : z.c = f k) : Done n (k + 1) f (zs.set k z) := by
  refine ⟨by simp [h.len], fun j hj => ?_⟩
  by_cases e : j = k
  · subst e
    have : j < zs.length := by rw [h.len]; exact hk
    simp [List.getD, this, hz]
  · have := h.at' j (by omega)
    have hkj : k ≠ j := fun x => e x.symm
    simpa [List.getD, List.getElem?_set, hkj] using this
theorem Done.cs {n : Nat} {f : Nat → C2} {zs : List ZV} (h : Done n n f zs) : cs zs = (List.range n).map f := cs_ext h.len h.at'

set_option maxRecDepth 20000 in
set_option maxHeartbeats 3200000 in
theorem cSumsI (a : Option Addr) (cap : Nat) (es : List ZV) (w : World) (he : Zs w a es) (hl : es.length ≤ maxLen) :
    Calls Try.prog 18 #[.slice a es.length cap] w (AnsZ w (sumsC (cs es))) := by
  obtain ⟨i0, hi, hz0, hz1, hz2⟩ := info_parts infoZs
  unfold maxLen at hl
  by_cases h40 : 40 < es.length
  · have E : sumsC (cs es) = [] := by unfold sumsC; rw [cs_len, if_pos h40]
    rw [E]
    have h41 : (40 : Int) < es.length := by omega
    clear E
    go_enter Try.func18, Try.ntmps18
    go_wp2
    go_ret
    exact AnsZ.no (Below.refl _ _)
  have E : sumsC (cs es) = (List.range es.length).map (sAt (cs es)) := by unfold sumsC; rw [cs_len, if_neg h40]
  rw [E]
  clear E
  have CC := fun w1 h => cCurr a cap es w1 h (by omega)
  obtain ⟨n, hn⟩ : ∃ n, es.length = n := ⟨_, rfl⟩
  have HN := hide hn
  unfold AnsC at CC
  rw [hn] at CC h40 ⊢
  have h41 : ¬ (40 : Int) < n := by omega
  have h42 : n ≤ 40 := by omega
  clear hl h40 hn
  go_enter Try.func18, Try.ntmps18
  go_wp2_with (at_make; refine wpList_make_full _ rfl _ _ 27 rfl w.heap.size 26 i0 (.agg #[.float .f64 0, .float .f64 0]) 2 Try.underlying27 hi hz0 hz1 _ _ _ _ n rfl rfl rfl rfl (by rw [hz2]; omega) (by unfold maxLen; omega) (Nat.le_refl _) ?_; intro w1 hown hgrow)
  rw [madeZs] at hown
  have hbel : Below w.heap.size w w1 := (Below.refl _ _).grown hgrow (Nat.le_refl _) (fun k hk => by cases hk)
  clear hgrow
  go_wp2_with fail
  refine (CC w1 (he.below hbel)).mono ?_
  rintro e w2 ⟨g2, cy, rfl, hcy, hC, hb2⟩
  have HB2 := btrans hbel hb2
  have O2 := own_keep hown hb2
  have hg2 : g2 ≠ w.heap.size := by
    have h1 := own_from hcy (Nat.le_refl _) g2 rfl
    have h2 := owns_lt hown
    omega
  clear hown hbel hb2 CC
  go_wp2_with fail
  go_loopw [15] (fun i wr => ∃ (k : Nat) (zs : List ZV), k ≤ n ∧ i = .int .i64 k ∧ wr.ownsRow w.heap.size 26 2 (.slice (some ⟨w.heap.size, 0, none⟩) n n) n (flatZs zs) ∧ wr.ownsRow w1.heap.size 69 1 (.slice (some ⟨g2, 0, none⟩) n n) n (cxL cy) ∧ Done n k (sAt (cs es)) zs ∧ Below w.heap.size w wr) (fun i _ => n - (intOf i).toNat)
  case atStart => exact ⟨0, _, Nat.zero_le _, rfl, O2, hcy, Done.zero _ _, HB2⟩
  case round =>
    clear O2 HB2 hcy
    obtain ⟨k, zs, hk, rfl, O, hcy, hD, hb⟩ := hrel
    by_cases hlt : k < n
    · have hky : k < cy.length := by rw [hC.len]; have := HN.out; omega
      have hkz : k < zs.length := by rw [hD.len]; exact hlt
      have d0 := (hcy.cellAt k (by omega)).trans (cxL_get hky)
      have hc := hide (hC.at' k (by have := HN.out; omega) (by have := HN.out; omega))
      generalize cy.getD k ZV.zero = y at *
      obtain ⟨yr, yi⟩ := y
      dsimp only at d0
      go_wp2_with fail
      refine (cZOf2 yr yi _).mono ?_
      rintro e w3 ⟨rfl, hb3⟩
      have HB3 := btrans hb hb3
      have O3 := own_keep O hb3
      have hcy3 := own_keep hcy hb3
      obtain ⟨y0, y1⟩ := flatZs_get zs k hkz
      have c0 := (O3.cellAt (k * 2) (by omega)).trans y0
      have c1 := (O3.cellAt (k * 2 + 1) (by omega)).trans y1
      have f0 := O3.frozenAt (k * 2)
      have f1 := O3.frozenAt (k * 2 + 1)
      have O4 := ((O3.stored (k * 2) (.float .f64 yr)).1.stored (k * 2 + 1) (.float .f64 yi)).1
      rw [flatZs_set zs k ⟨yr, yi⟩ hkz] at O4
      have D4 := hD.step (z := ⟨yr, yi⟩) hlt hc.out
      have hcy4 := own_set (b := w.heap.size) (i := k * 2 + 1) (u := .float .f64 yi) (own_set (b := w.heap.size) (i := k * 2) (u := .float .f64 yr) hcy3 (fun j hj => by simp [Value.ownBlock] at hj; omega)) (fun j hj => by simp [Value.ownBlock] at hj; omega)
      have HB4 := below_set (b := w.heap.size) (o := k * 2 + 1) (v := .float .f64 yi) (Nat.le_refl _) (below_set (b := w.heap.size) (o := k * 2) (v := .float .f64 yr) (Nat.le_refl _) HB3)
      clear O3 hcy3 HB3 hb3 hb y0 y1 hD O hcy d0 hky
      generalize zs.getD k ZV.zero = zo at c0 c1
      go_wp2
      go_roundw
      case rel => exact ⟨k + 1, _, by omega, by go_num, O4, hcy4, D4, HB4⟩
      case measure => simp [intOf]; omega
    · obtain rfl : k = n := by omega
      clear he hcy
      have hcs := hD.cs
      have hlz := hD.len
      have ho := O
      go_wp2
      go_ret
      exact ⟨_, zs, rfl, by rw [hlz]; exact ho, hcs, hb⟩
end Go.Proofs.Ytapnidhokpkmdaa
