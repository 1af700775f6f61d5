/- Ranks of placed tasks: comparing through an interface, the search. -/
import Derived.Test.YtbnhkkaiohmllaaKM
namespace Go.Proofs.Ytbnhkkaiohmllaa
open Go.RowKit

set_option maxHeartbeats 800000 in
theorem cLess (p q : PlV) (w : World) : Calls Try.prog 86 #[p.val, q.val] w fun e w' => e = .returned (.int .i64 (cmpP p q)) ∧ Below w.heap.size w w' := by
  have CC := cCmpP p q
  have hb1 := btrans (balloc w (.cells p.cs.toArray 68)) (balloc _ (.cells q.cs.toArray 68))
  obtain ⟨⟨pe, pd, pf, pt, pp⟩, pk⟩ := p
  obtain ⟨⟨qe, qd, qf, qt, qp⟩, qk⟩ := q
  unfold PlV.val PlV.cs at *
  dsimp only at *
  have hm : ∀ w, (method 222 68 (.agg #[.int .i64 pe, .int .i64 pd, .int .i64 pf, .int .i64 pt, .int .i64 pp, .int .i64 pk]) "loop.example/g00075/impl.compare").run Try.prog w = .ok (107, .agg #[.int .i64 pe, .int .i64 pd, .int .i64 pf, .int .i64 pt, .int .i64 pp, .int .i64 pk]) w := fun _ => by kernel_rfl
  go_enter Try.func86, Try.ntmps86
  go_wp2_with fail
  refine (CC _).mono ?_
  rintro e w1 ⟨rfl, hb⟩
  replace hb1 := btrans hb1 hb
  go_wp2
  go_ret
  exact ⟨rfl, hb1⟩

theorem pair_get {es : List PlV} (hs : es.Pairwise Les) {i j : Nat} (hij : i < j) (hj : j < es.length) : Les (es.getD i PlV.zero) (es.getD j PlV.zero) := by
  have := List.pairwise_iff_getElem.1 hs i j (by omega) hj hij
  simpa [List.getD, hj, show i < es.length by omega] using this
/-- What the middle of the search tells. -/
def MidStep (es : List PlV) (t : PlV) (lo hi m : Nat) (y : PlV) : Prop :=
  (Les y t → ∀ i, i < m + 1 → Les (es.getD i PlV.zero) t) ∧ (¬ Les y t → ∀ i, m ≤ i → i < es.length → ¬ Les (es.getD i PlV.zero) t) ∧ (∀ i, i < lo → Les (es.getD i PlV.zero) t) ∧ (∀ i, hi ≤ i → i < es.length → ¬ Les (es.getD i PlV.zero) t)
theorem mid_step {es : List PlV} {t : PlV} {lo hi m : Nat} (hs : es.Pairwise Les) (hm : m < es.length) (hA : ∀ i, i < lo → Les (es.getD i PlV.zero) t) (hZ : ∀ i, hi ≤ i → i < es.length → ¬ Les (es.getD i PlV.zero) t) : MidStep es t lo hi m (es.getD m PlV.zero) := by
  refine ⟨fun h i hi => ?_, fun h i hi hl g => h ?_, hA, hZ⟩
  · by_cases e : i = m
    · subst e; exact h
    · exact (pair_get hs (by omega) hm).trans h
  · by_cases e : i = m
    · subst e; exact g
    · exact (pair_get hs (by omega) hl).trans g
theorem PlAt.parts {w : World} {b o : Nat} {x : PlV} (h : PlAt w b o x) : w.cell? ⟨b, o, none⟩ = some (.int .i64 x.u.e) ∧ w.cell? ⟨b, o + 1, none⟩ = some (.int .i64 x.u.d) ∧ w.cell? ⟨b, o + 2, none⟩ = some (.int .i64 x.u.f) ∧ w.cell? ⟨b, o + 3, none⟩ = some (.int .i64 x.u.t) ∧ w.cell? ⟨b, o + 4, none⟩ = some (.int .i64 x.u.p) ∧ w.cell? ⟨b, o + 5, none⟩ = some (.int .i64 x.k) := h

set_option maxRecDepth 20000 in
set_option maxHeartbeats 3200000 in
theorem cSearch (a : Option Addr) (cap : Nat) (es : List PlV) (t : PlV) (w : World) (hz : Pls w a es) (hs : es.Pairwise Les) (hl : es.length ≤ 1000) :
    Calls Try.prog 85 #[.slice a es.length cap, t.val, .func (.func 86) #[] #[]] w fun e w' => ∃ p : Nat, ∃ b : Bool, e = .returned (.tuple #[.int .i64 p, .bool b]) ∧ p ≤ es.length ∧ (∀ i, i < p → Les (es.getD i PlV.zero) t) ∧ (∀ i, p ≤ i → i < es.length → ¬ Les (es.getD i PlV.zero) t) ∧ Below w.heap.size w w' := by
  have CL := fun p => cLess p t
  have LT := fun p => hide (cmpP_neg (a := p) (b := t))
  have hW := balloc w (.cells t.cs.toArray 68)
  have hB := Bx6p.new w t 68
  replace hs := hide hs
  generalize hT : t = T0 at *
  obtain ⟨⟨te, td, tf, tt, tp⟩, tk⟩ := t
  unfold PlV.val PlV.cs at *
  subst hT
  dsimp only at *
  go_enter Try.func85, Try.ntmps85
  go_wp2
  go_loopw [9, 10] (fun x y wr => ∃ lo hi : Nat, x = .int .i64 lo ∧ y = .int .i64 hi ∧ lo ≤ hi ∧ hi ≤ es.length ∧ Hid (∀ i, i < lo → Les (es.getD i PlV.zero) ⟨⟨te, td, tf, tt, tp⟩, tk⟩) ∧ Hid (∀ i, hi ≤ i → i < es.length → ¬ Les (es.getD i PlV.zero) ⟨⟨te, td, tf, tt, tp⟩, tk⟩) ∧ Below w.heap.size w wr ∧ Bx6p wr w.heap.size ⟨⟨te, td, tf, tt, tp⟩, tk⟩) (fun x y _ => (intOf y).toNat - (intOf x).toNat)
  case atStart => exact ⟨0, es.length, rfl, rfl, Nat.zero_le _, Nat.le_refl _, hide (fun i h => by omega), hide (fun i h1 h2 => by omega), hW, hB⟩
  case round =>
    obtain ⟨lo, hi, rfl, rfl, hlh, hhi, hA, hZ, hb, hBx⟩ := hrel
    clear hW hB
    by_cases hlt : lo < hi
    · have hlt' : (lo : Int) < (hi : Int) := by omega
      obtain ⟨m, hm, hm1, hm2⟩ : ∃ m : Nat, ((lo : Int) + (hi : Int)) / 2 = (m : Int) ∧ lo ≤ m ∧ m < hi := ⟨(lo + hi) / 2, by omega, by omega, by omega⟩
      have hmn : m < es.length := by omega
      have hMid := hide (mid_step (t := ⟨⟨te, td, tf, tt, tp⟩, tk⟩) hs.out hmn hA.out hZ.out)
      rcases hz with h | ⟨b, off, rfl, hc⟩
      · simp [h] at hmn
      obtain ⟨q0, q1, q2, q3, q4, q5⟩ := (hc m hmn).parts
      replace q0 := ble hb q0
      replace q1 := ble hb q1
      replace q2 := ble hb q2
      replace q3 := ble hb q3
      replace q4 := ble hb q4
      replace q5 := ble hb q5
      obtain ⟨t0, t1, t2, t3, t4, t5⟩ := hBx.parts
      have CM := CL (es.getD m PlV.zero)
      have LM := LT (es.getD m PlV.zero)
      clear hc CL LT hA hZ
      generalize es.getD m PlV.zero = y at *
      obtain ⟨⟨ye, yd, yf, yt, yp⟩, yk⟩ := y
      dsimp only at *
      have hbs : b < wr.heap.size := cell_lt q0
      have hws : w.heap.size < wr.heap.size := cell_lt t0
      go_wp2
      clear hm
      go_region_held3 (fun w' => w'.cell? ⟨b, off + m * 6, none⟩ = some (.int .i64 ye) ∧ w'.cell? ⟨b, off + m * 6 + 1, none⟩ = some (.int .i64 yd) ∧ w'.cell? ⟨b, off + m * 6 + 2, none⟩ = some (.int .i64 yf) ∧ w'.cell? ⟨b, off + m * 6 + 3, none⟩ = some (.int .i64 yt) ∧ w'.cell? ⟨b, off + m * 6 + 4, none⟩ = some (.int .i64 yp) ∧ w'.cell? ⟨b, off + m * 6 + 5, none⟩ = some (.int .i64 yk) ∧ w'.cell? ⟨w.heap.size, 0, none⟩ = some (.int .i64 te) ∧ w'.cell? ⟨w.heap.size, 1, none⟩ = some (.int .i64 td) ∧ w'.cell? ⟨w.heap.size, 2, none⟩ = some (.int .i64 tf) ∧ w'.cell? ⟨w.heap.size, 3, none⟩ = some (.int .i64 tt) ∧ w'.cell? ⟨w.heap.size, 4, none⟩ = some (.int .i64 tp) ∧ w'.cell? ⟨w.heap.size, 5, none⟩ = some (.int .i64 tk)) (go_keep) (first
        | (go_at_call 86; with_reducible refine (CM _).mono ?_; rintro e w1 ⟨rfl, hb1⟩; replace hb1 := undrew hb1; have v0 := ble hb1 q0; have v1 := ble hb1 q1; have v2 := ble hb1 q2; have v3 := ble hb1 q3; have v4 := ble hb1 q4; have v5 := ble hb1 q5; have v6 := ble hb1 t0; have v7 := ble hb1 t1; have v8 := ble hb1 t2; have v9 := ble hb1 t3; have v10 := ble hb1 t4; have v11 := ble hb1 t5))
      have hb2 := btrans hb hb1
      have hB2 := hBx.below hb1
      by_cases hc : cmpP ⟨⟨ye, yd, yf, yt, yp⟩, yk⟩ ⟨⟨te, td, tf, tt, tp⟩, tk⟩ < 0
      · have hA2 := hide (hMid.out.1 (LM.out.1 hc))
        have hZ2 := hide hMid.out.2.2.2
        clear hMid LM hb hBx q0 t0 q1 t1 q2 t2 q3 t3 q4 t4 q5 t5 v0 v1 v2 v3 v4 v5 v6 v7 v8 v9 v10 v11 hb1
        go_wp2
        go_roundw
        case rel => exact ⟨m + 1, hi, by go_num, rfl, by omega, by omega, hA2, hZ2, hb2, hB2⟩
        case measure => simp [intOf]; omega
      · have hZ2 := hide (hMid.out.2.1 (fun h => hc (LM.out.2 h)))
        have hA2 := hide hMid.out.2.2.1
        clear hMid LM hb hBx q0 t0 q1 t1 q2 t2 q3 t3 q4 t4 q5 t5 v0 v1 v2 v3 v4 v5 v6 v7 v8 v9 v10 v11 hb1
        go_wp2
        go_roundw
        case rel => exact ⟨lo, m, rfl, by go_num, by omega, by omega, hA2, hZ2, hb2, hB2⟩
        case measure => simp [intOf]; omega
    · obtain rfl : lo = hi := by omega
      have hlt' : ¬ ((lo : Int) < (lo : Int)) := by omega
      by_cases hn : lo < es.length
      · have hn' : decide ((lo : Int) < (es.length : Int)) = true := by simp; omega
        rcases hz with h | ⟨b, off, rfl, hc⟩
        · simp [h] at hn
        obtain ⟨q0, q1, q2, q3, q4, q5⟩ := (hc lo hn).parts
        replace q0 := ble hb q0
        replace q1 := ble hb q1
        replace q2 := ble hb q2
        replace q3 := ble hb q3
        replace q4 := ble hb q4
        replace q5 := ble hb q5
        obtain ⟨t0, t1, t2, t3, t4, t5⟩ := hBx.parts
        have CM := CL (es.getD lo PlV.zero)
        clear hc CL LT
        generalize es.getD lo PlV.zero = y at CM q0 q1 q2 q3 q4 q5
        obtain ⟨⟨ye, yd, yf, yt, yp⟩, yk⟩ := y
        dsimp only at CM q0 q1 q2 q3 q4 q5
        have hbs : b < wr.heap.size := cell_lt q0
        have hws : w.heap.size < wr.heap.size := cell_lt t0
        go_wp2
        go_region_held3 (fun w' => w'.cell? ⟨b, off + lo * 6, none⟩ = some (.int .i64 ye) ∧ w'.cell? ⟨b, off + lo * 6 + 1, none⟩ = some (.int .i64 yd) ∧ w'.cell? ⟨b, off + lo * 6 + 2, none⟩ = some (.int .i64 yf) ∧ w'.cell? ⟨b, off + lo * 6 + 3, none⟩ = some (.int .i64 yt) ∧ w'.cell? ⟨b, off + lo * 6 + 4, none⟩ = some (.int .i64 yp) ∧ w'.cell? ⟨b, off + lo * 6 + 5, none⟩ = some (.int .i64 yk) ∧ w'.cell? ⟨w.heap.size, 0, none⟩ = some (.int .i64 te) ∧ w'.cell? ⟨w.heap.size, 1, none⟩ = some (.int .i64 td) ∧ w'.cell? ⟨w.heap.size, 2, none⟩ = some (.int .i64 tf) ∧ w'.cell? ⟨w.heap.size, 3, none⟩ = some (.int .i64 tt) ∧ w'.cell? ⟨w.heap.size, 4, none⟩ = some (.int .i64 tp) ∧ w'.cell? ⟨w.heap.size, 5, none⟩ = some (.int .i64 tk)) (go_keep) (first
        | (go_at_call 86; with_reducible refine (CM _).mono ?_; rintro e w1 ⟨rfl, hb1⟩; replace hb1 := undrew hb1; have v0 := ble hb1 q0; have v1 := ble hb1 q1; have v2 := ble hb1 q2; have v3 := ble hb1 q3; have v4 := ble hb1 q4; have v5 := ble hb1 q5; have v6 := ble hb1 t0; have v7 := ble hb1 t1; have v8 := ble hb1 t2; have v9 := ble hb1 t3; have v10 := ble hb1 t4; have v11 := ble hb1 t5))
        have hb2 := btrans hb hb1
        go_wp2
        go_ret2
        exact ⟨lo, _, rfl, hhi, hA.out, hZ.out, hb2⟩
      · have hn' : decide ((lo : Int) < (es.length : Int)) = false := by simp; omega
        clear hz CL LT
        go_wp2
        go_quiet (fail)
        go_wp2
        go_ret2
        exact ⟨lo, _, rfl, hhi, hA.out, hZ.out, bdraw hb _⟩
end Go.Proofs.Ytbnhkkaiohmllaa
