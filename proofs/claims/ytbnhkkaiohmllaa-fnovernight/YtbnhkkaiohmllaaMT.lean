/- The unit that runs the next task. -/
import Derived.Test.YtbnhkkaiohmllaaGV
namespace Go.Proofs.Ytbnhkkaiohmllaa
open Go.RowKit Go.Lib

def lastP (ps : List PlV) : PlV := ps.getLastD PlV.zero
theorem lastP_get (ps : List PlV) : ps.getD (ps.length - 1) PlV.zero = lastP ps := by
  unfold lastP
  rw [List.getLastD_eq_getLast?, List.getLast?_eq_getElem?]
  simp [List.getD]
theorem lastP_run {ts : List TaskV} {h : Hist} {u : Nat} (hne : runU h u ≠ []) : (lastP ((runU h u).map (plOf ts))).u = tkA ts (lastU h u) := by
  unfold lastP lastU
  generalize runU h u = ps at *
  rw [List.getLastD_eq_getLast?, List.getLastD_eq_getLast?, List.getLast?_map]
  cases hg : ps.getLast? with
  | none => rw [List.getLast?_eq_none_iff] at hg; exact absurd hg hne
  | some x => rfl

set_option maxHeartbeats 800000 in
theorem cLast (a : Option Addr) (cap : Nat) (ps : List PlV) (w : World) (hz : Pls w a ps) (h0 : 0 < ps.length) (hl : ps.length ≤ 1000) :
    Calls Try.prog 84 #[.slice a ps.length cap] w fun e w' => e = .returned (lastP ps).u.val ∧ Below w.heap.size w w' := by
  have E := hide (lastP_get ps)
  obtain ⟨m, hm⟩ : ∃ m : Nat, ps.length = m + 1 := ⟨ps.length - 1, by omega⟩
  rcases hz with h | ⟨b, off, rfl, hc⟩
  · simp [h] at h0
  obtain ⟨q0, q1, q2, q3, q4, q5⟩ := hc m (by omega)
  have E2 : Hid (ps.getD m PlV.zero = lastP ps) := hide (by have := E.out; rw [show ps.length - 1 = m by omega] at this; exact this)
  rw [E2.out] at q0 q1 q2 q3 q4 q5
  clear E E2 hc
  generalize lastP ps = y at *
  obtain ⟨⟨e, d, f, t, p⟩, k⟩ := y
  unfold TaskV.val
  dsimp only at *
  have hb := cell_lt q0
  have e1 : IntKind.i64.wrap ((ps.length : Int) - 1) = (m : Int) := (wrap_in _ (by omega) (by omega)).trans (by omega)
  have e2 : (m : Int) < (ps.length : Int) := by omega
  have e3 : m < ps.length := by omega
  replace hm := hide hm
  have hBF := balloc w (.cells #[.int .i64 e, .int .i64 d, .int .i64 f, .int .i64 t, .int .i64 p] 32)
  go_enter Try.func84, Try.ntmps84
  go_wp2
  refine bodyPost_ret (v := .agg #[.int .i64 e, .int .i64 d, .int .i64 f, .int .i64 t, .int .i64 p]) (by simp [results, Try.results84, go_sem]) rfl ⟨rfl, ?_⟩
  exact hBF

theorem blk_at {w : World} {b : Nat} {cs : Array Value} {t : TypeId} {f : Nat × Nat} (h : w.heap[b]? = some (.cells cs t f)) (i : Nat) : w.cell? ⟨b, i, none⟩ = cs[i]? := by
  simp [World.cell?, h]
def MatchPost (w : World) (ts : List TaskV) (n : Int) (h : Hist) (t : Nat) (e : Ending) (w' : World) : Prop := ∃ u : Nat, e = .returned (.int .i64 u) ∧ IsMatch ts n h t u ∧ Below w.heap.size w w'
set_option maxRecDepth 20000 in
set_option maxHeartbeats 6400000 in
theorem cMatch (base r : Nat) (ts : List TaskV) (n : Int) (zs : List Int) (h : Hist) (vu vr : Value) (vs : List Value) (t : Nat) (w : World) (R : Ros w base r ts n zs h (nU h) vu vr vs) (hfull : ∀ u, u < nU h → runU h u ≠ []) (hlen : ∀ u, (runU h u).length ≤ 40) (hM : nU h ≤ 40) :
    Calls Try.prog 80 #[.pointer (some ⟨r, 0, none⟩), (plOf ts t).val] w (MatchPost w ts n h t) := by
  have hb1 := balloc w (.cells (plOf ts t).cs.toArray 68)
  have R1 := R.below hb1
  have hX1 := one_block w (.cells (plOf ts t).cs.toArray 68)
  have hfol : Hid (∀ (u : Nat) (x : TaskV), x = tkA ts (lastU h u) → (plOf ts t).u = tkA ts t) := hide (fun _ _ _ => rfl)
  have hmath := hide (fun k b s => MatchI.take (ts := ts) (n := n) (h := h) (t := t) (k := k) (b := b) (s := s))
  have hmkeep := hide (fun k b s => MatchI.keep (ts := ts) (n := n) (h := h) (t := t) (k := k) (b := b) (s := s))
  have hcand : Hid (∀ k, k < nU h → (Cand ts n h t k ↔ folB (tkA ts (lastU h k)) (plOf ts t).u n = true)) := hide (fun k hk => ⟨fun c => c.2, fun c => ⟨hk, c⟩⟩)
  have CF := fun x w => cFolI x (plOf ts t).u n w
  generalize plOf ts t = X at *
  clear R hfol
  obtain ⟨⟨xe, xd, xf, xt, xp⟩, xk⟩ := X
  unfold PlV.val PlV.cs at *
  dsimp only at *
  generalize hMM : nU h = M at *
  replace hMM := hide hMM
  obtain ⟨ra, rc, hra⟩ := own_form R1.hr
  subst hra
  obtain ⟨⟨c0, c1, c2⟩, -⟩ := blk3 R1.blk
  have hbx : w.heap.size < (w.alloc (.cells [.int .i64 xe, .int .i64 xd, .int .i64 xf, .int .i64 xt, .int .i64 xp, .int .i64 xk].toArray 68)).heap.size := lt_of_block hX1
  go_enter Try.func80, Try.ntmps80
  go_wp2
  generalize w.alloc (.cells [.int .i64 xe, .int .i64 xd, .int .i64 xf, .int .i64 xt, .int .i64 xp, .int .i64 xk].toArray 68) = v at *
  go_loopw [5, 6, 20] (fun p q i wr => ∃ (k : Nat) (b s : Int), k ≤ M ∧ p = .int .i64 b ∧ q = .int .i64 s ∧ i = .int .i64 k ∧ Hid (MatchI ts n h t k b s) ∧ Below v.heap.size v wr) (fun _ _ i _ => M - (intOf i).toNat)
  case atStart => exact ⟨0, M, 100001, Nat.zero_le _, rfl, rfl, rfl, hide (by rw [← hMM.out]; exact MatchI.start ts n h t), Below.refl _ _⟩
  case round =>
    obtain ⟨k, b, s, hk, rfl, rfl, rfl, hI, hb⟩ := hrel
    by_cases hlt : k < M
    · have hlt' : (k : Int) < (M : Int) := by omega
      have RR := R1.below hb
      have hlv := RR.len
      obtain ⟨va, hv⟩ : ∃ va, vs[k]? = some va := ⟨vs[k]'(by omega), List.getElem?_eq_getElem (by omega)⟩
      obtain ⟨gr, cap, hra, hgrb, hgrl⟩ := RR.hr.form (by omega)
      simp only [Value.slice.injEq, true_and] at hra
      obtain ⟨rfl, rfl⟩ := hra
      have q1 : wr.cell? ⟨gr, k, none⟩ = some va := by rw [RR.hr.cellAt k (by omega)]; exact hv
      have hev := RR.each k va hv
      obtain ⟨ea, ec, rfl⟩ := own_form hev
      have hP := Pls.own hev
      have hne := hfull k (by omega)
      have CL := cLast ea ec ((runU h k).map (plOf ts)) wr hP (by rw [List.length_map]; exact List.length_pos_iff.2 hne) (by rw [List.length_map]; have := hlen k; omega)
      rw [List.length_map, lastP_run hne] at CL
      have hC := hide (hcand.out k (by omega))
      have hT := hide (hmath.out k b s hI.out)
      have hK := hide (hmkeep.out k b s hI.out)
      have hAr : Hid (arrU ts h k = (tkA ts (lastU h k)).t) := rfl
      have CF1 := CF (tkA ts (lastU h k))
      have hfe := hide (show folB (tkA ts (lastU h k)) ⟨xe, xd, xf, xt, xp⟩ n = folB (tkA ts (lastU h k)) ⟨xe, xd, xf, xt, xp⟩ n from rfl)
      generalize tkA ts (lastU h k) = y at *
      obtain ⟨ye, yd, yf, yt, yp⟩ := y
      unfold TaskV.val at CL CF1
      dsimp only at *
      have hX := blk_keep hb hX1
      go_wp2_with fail
      refine CL.mono ?_
      rintro e w1 ⟨rfl, hbl⟩
      have hb2 := btrans hb hbl
      have hbA := balloc w1 (.cells #[.int .i64 ye, .int .i64 yd, .int .i64 yf, .int .i64 yt, .int .i64 yp] 32)
      have hY := one_block w1 (.cells #[.int .i64 ye, .int .i64 yd, .int .i64 yf, .int .i64 yt, .int .i64 yp] 32)
      have hXA := blk_keep hbA (blk_keep hbl hX)
      have hRA := (RR.below hbl).below hbA
      have hb3 := btrans hb2 hbA
      go_wp2_with fail
      clear hb2 hX hRA RR hbl hev hP q1 hv CL hlv hne hfe
      generalize w1.alloc (.cells #[.int .i64 ye, .int .i64 yd, .int .i64 yf, .int .i64 yt, .int .i64 yp] 32) = V at *
      have y0 : V.cell? ⟨w1.heap.size, 0, none⟩ = some (.int .i64 ye) := blk_at hY 0
      have y1 : V.cell? ⟨w1.heap.size, 1, none⟩ = some (.int .i64 yd) := blk_at hY 1
      have y2 : V.cell? ⟨w1.heap.size, 2, none⟩ = some (.int .i64 yf) := blk_at hY 2
      have y3 : V.cell? ⟨w1.heap.size, 3, none⟩ = some (.int .i64 yt) := blk_at hY 3
      have y4 : V.cell? ⟨w1.heap.size, 4, none⟩ = some (.int .i64 yp) := blk_at hY 4
      have x0 : V.cell? ⟨w.heap.size, 0, none⟩ = some (.int .i64 xe) := blk_at hXA 0
      have x1 : V.cell? ⟨w.heap.size, 1, none⟩ = some (.int .i64 xd) := blk_at hXA 1
      have x2 : V.cell? ⟨w.heap.size, 2, none⟩ = some (.int .i64 xf) := blk_at hXA 2
      have x3 : V.cell? ⟨w.heap.size, 3, none⟩ = some (.int .i64 xt) := blk_at hXA 3
      have x4 : V.cell? ⟨w.heap.size, 4, none⟩ = some (.int .i64 xp) := blk_at hXA 4
      have r0 : V.cell? ⟨r, 0, none⟩ = some (.int .i64 n) := ble hb3 c0
      clear hY hXA
      by_cases hs : yt < s
      · have hd : decide (yt < s) = true := decide_eq_true hs
        cases hf : folB ⟨ye, yd, yf, yt, yp⟩ ⟨xe, xd, xf, xt, xp⟩ n
        · rw [hf] at CF1
          have hI2 := hide (hK.out (fun hx => by have := hC.out.1 hx.2; rw [hf] at this; cases this))
          clear hC hT hK hf hI hAr hs
          go_region_held3 (fun w' => w'.cell? ⟨w1.heap.size, 0, none⟩ = some (.int .i64 ye) ∧ w'.cell? ⟨w1.heap.size, 1, none⟩ = some (.int .i64 yd) ∧ w'.cell? ⟨w1.heap.size, 2, none⟩ = some (.int .i64 yf) ∧ w'.cell? ⟨w1.heap.size, 3, none⟩ = some (.int .i64 yt) ∧ w'.cell? ⟨w1.heap.size, 4, none⟩ = some (.int .i64 yp) ∧ w'.cell? ⟨w.heap.size, 0, none⟩ = some (.int .i64 xe) ∧ w'.cell? ⟨w.heap.size, 1, none⟩ = some (.int .i64 xd) ∧ w'.cell? ⟨w.heap.size, 2, none⟩ = some (.int .i64 xf) ∧ w'.cell? ⟨w.heap.size, 3, none⟩ = some (.int .i64 xt) ∧ w'.cell? ⟨w.heap.size, 4, none⟩ = some (.int .i64 xp) ∧ w'.cell? ⟨r, 0, none⟩ = some (.int .i64 n)) (go_keep) ((go_at_call 28; with_reducible refine (CF1 _).mono ?_; rintro e w2 ⟨rfl, hbf⟩; replace hbf := undrew hbf; have zy0 := ble hbf y0; have zy1 := ble hbf y1; have zy2 := ble hbf y2; have zy3 := ble hbf y3; have zy4 := ble hbf y4; have zx0 := ble hbf x0; have zx1 := ble hbf x1; have zx2 := ble hbf x2; have zx3 := ble hbf x3; have zx4 := ble hbf x4; have zr := ble hbf r0))
          have hb4 := btrans hb3 hbf
          go_wp2
          go_roundw
          case rel => exact ⟨k + 1, b, s, by omega, rfl, rfl, by go_num, hI2, hb4⟩
          case measure => simp [intOf]; omega
        · rw [hf] at CF1
          have hI2 := hide (hT.out (hC.out.2 hf) (by rw [hAr.out]; exact hs))
          rw [hAr.out] at hI2
          clear hC hT hK hf hI hAr hs
          go_region_held3 (fun w' => w'.cell? ⟨w1.heap.size, 0, none⟩ = some (.int .i64 ye) ∧ w'.cell? ⟨w1.heap.size, 1, none⟩ = some (.int .i64 yd) ∧ w'.cell? ⟨w1.heap.size, 2, none⟩ = some (.int .i64 yf) ∧ w'.cell? ⟨w1.heap.size, 3, none⟩ = some (.int .i64 yt) ∧ w'.cell? ⟨w1.heap.size, 4, none⟩ = some (.int .i64 yp) ∧ w'.cell? ⟨w.heap.size, 0, none⟩ = some (.int .i64 xe) ∧ w'.cell? ⟨w.heap.size, 1, none⟩ = some (.int .i64 xd) ∧ w'.cell? ⟨w.heap.size, 2, none⟩ = some (.int .i64 xf) ∧ w'.cell? ⟨w.heap.size, 3, none⟩ = some (.int .i64 xt) ∧ w'.cell? ⟨w.heap.size, 4, none⟩ = some (.int .i64 xp) ∧ w'.cell? ⟨r, 0, none⟩ = some (.int .i64 n)) (go_keep) ((go_at_call 28; with_reducible refine (CF1 _).mono ?_; rintro e w2 ⟨rfl, hbf⟩; replace hbf := undrew hbf; have zy0 := ble hbf y0; have zy1 := ble hbf y1; have zy2 := ble hbf y2; have zy3 := ble hbf y3; have zy4 := ble hbf y4; have zx0 := ble hbf x0; have zx1 := ble hbf x1; have zx2 := ble hbf x2; have zx3 := ble hbf x3; have zx4 := ble hbf x4; have zr := ble hbf r0))
          have hb4 := btrans hb3 hbf
          go_wp2
          go_quiet (fail)
          go_wp2
          go_roundw
          case rel => exact ⟨k + 1, k, yt, by omega, rfl, rfl, by go_num, hI2, bdraw hb4 _⟩
          case measure => simp [intOf]; omega
      · have hd : decide (yt < s) = false := decide_eq_false hs
        have hI2 := hide (hK.out (fun hx => hs (by rw [← hAr.out]; exact hx.1)))
        clear hC hT hK hI hAr hs
        go_quiet (fail)
        go_wp2
        go_roundw
        case rel => exact ⟨k + 1, b, s, by omega, rfl, rfl, by go_num, hI2, bdraw hb3 _⟩
        case measure => simp [intOf]; omega
    · obtain rfl : k = M := by omega
      obtain ⟨u, rfl, hu⟩ : ∃ u : Nat, b = u ∧ IsMatch ts n h t u := by
        have h1 := hI.out
        rw [← hMM.out] at h1
        exact h1.done
      have hb9 := btrans hb1 hb
      clear hI
      go_wp2
      go_ret
      exact ⟨u, rfl, hu, hb9⟩
end Go.Proofs.Ytbnhkkaiohmllaa
