/- Ranks of passages: comparing through an interface, the search. -/
import Derived.Test.YteklmeekapegpaaCM
namespace Go.Proofs.Yteklmeekapegpaa
open Go.RowKit

set_option maxHeartbeats 800000 in
theorem cLess (p q : PassV) (w : World) : Calls Try.prog 68 #[p.val, q.val] w fun e w' => e = .returned (.int .i64 (cmpP p q)) ∧ Below w.heap.size w w' := by
  have CC := cCmpP p q
  obtain ⟨pm, pk, pp⟩ := p
  obtain ⟨qm, qk, qp⟩ := q
  unfold PassV.val at *
  dsimp only at *
  have hm : ∀ w, (method 215 60 (.agg #[.int .i64 pm, .int .i64 pk, .int .i64 pp]) "loop.example/g00075/impl.compare").run Try.prog w = .ok (89, .agg #[.int .i64 pm, .int .i64 pk, .int .i64 pp]) w := fun _ => by kernel_rfl
  have hb1 := btrans (balloc w (.cells #[.int .i64 pm, .int .i64 pk, .int .i64 pp] 60)) (balloc _ (.cells #[.int .i64 qm, .int .i64 qk, .int .i64 qp] 60))
  go_enter Try.func68, Try.ntmps68
  go_wp2_with fail
  refine (CC _).mono ?_
  rintro e w1 ⟨rfl, hb⟩
  replace hb1 := btrans hb1 hb
  go_wp2
  go_ret
  exact ⟨rfl, hb1⟩

theorem ltP_trans {a b c : PassV} (h : ltP a b) (g : ltP b c) : ltP a c := by unfold ltP at *; omega
theorem ltP_irrefl (a : PassV) : ¬ ltP a a := by unfold ltP; omega
theorem ltP_total (a b : PassV) : ltP a b ∨ a = b ∨ ltP b a := by
  obtain ⟨x, y, z⟩ := a
  obtain ⟨x', y', z'⟩ := b
  simp only [ltP, PassV.mk.injEq]; omega
theorem pair_get {es : List PassV} (hs : es.Pairwise ltP) {i j : Nat} (hij : i < j) (hj : j < es.length) : ltP (es.getD i PassV.zero) (es.getD j PassV.zero) := by
  have := List.pairwise_iff_getElem.1 hs i j (by omega) hj hij
  simpa [List.getD, hj, show i < es.length by omega] using this
/-- What the middle of the search tells. -/
def MidStep (es : List PassV) (t : PassV) (lo hi m : Nat) (y : PassV) : Prop :=
  (ltP y t → ∀ i, i < m + 1 → ltP (es.getD i PassV.zero) t) ∧ (¬ ltP y t → ∀ i, m ≤ i → i < es.length → ¬ ltP (es.getD i PassV.zero) t) ∧ (∀ i, i < lo → ltP (es.getD i PassV.zero) t) ∧ (∀ i, hi ≤ i → i < es.length → ¬ ltP (es.getD i PassV.zero) t)
theorem mid_step {es : List PassV} {t : PassV} {lo hi m : Nat} (hs : es.Pairwise ltP) (hm : m < es.length) (hA : ∀ i, i < lo → ltP (es.getD i PassV.zero) t) (hZ : ∀ i, hi ≤ i → i < es.length → ¬ ltP (es.getD i PassV.zero) t) : MidStep es t lo hi m (es.getD m PassV.zero) := by
  refine ⟨fun h i hi => ?_, fun h i hi hl g => h ?_, hA, hZ⟩
  · by_cases e : i = m
    · subst e; exact h
    · exact ltP_trans (pair_get hs (by omega) hm) h
  · by_cases e : i = m
    · subst e; exact g
    · exact ltP_trans (pair_get hs (by omega) hl) g

set_option maxHeartbeats 1600000 in
theorem cSearch (a : Option Addr) (cap : Nat) (es : List PassV) (t : PassV) (w : World) (hz : Passes w a es) (hs : es.Pairwise ltP) (hl : es.length ≤ 1000) :
    Calls Try.prog 67 #[.slice a es.length cap, t.val, .func (.func 68) #[] #[]] w fun e w' => ∃ p : Nat, ∃ b : Bool, e = .returned (.tuple #[.int .i64 p, .bool b]) ∧ p ≤ es.length ∧ (∀ i, i < p → ltP (es.getD i PassV.zero) t) ∧ (∀ i, p ≤ i → i < es.length → ¬ ltP (es.getD i PassV.zero) t) ∧ Below w.heap.size w w' := by
  have CL := fun p => cLess p t
  have LT := fun p => hide (cmpP_lt p t)
  have hW := balloc w (.cells t.vs.toArray 60)
  have hB := Bx3p.new w (.int .i64 t.m) (.int .i64 t.k) (.int .i64 t.p) 60
  replace hs := hide hs
  generalize hT : t = T at *
  obtain ⟨tm, tk, tp⟩ := t
  unfold PassV.val PassV.vs at *
  subst hT
  dsimp only at *
  go_enter Try.func67, Try.ntmps67
  go_wp2
  go_loopw [9, 10] (fun x y wr => ∃ lo hi : Nat, x = .int .i64 lo ∧ y = .int .i64 hi ∧ lo ≤ hi ∧ hi ≤ es.length ∧ Hid (∀ i, i < lo → ltP (es.getD i PassV.zero) ⟨tm, tk, tp⟩) ∧ Hid (∀ i, hi ≤ i → i < es.length → ¬ ltP (es.getD i PassV.zero) ⟨tm, tk, tp⟩) ∧ Below w.heap.size w wr ∧ Bx3p wr w.heap.size (.int .i64 tm) (.int .i64 tk) (.int .i64 tp)) (fun x y _ => (intOf y).toNat - (intOf x).toNat)
  case atStart => exact ⟨0, es.length, rfl, rfl, Nat.zero_le _, Nat.le_refl _, hide (fun i h => by omega), hide (fun i h1 h2 => by omega), hW, hB⟩
  case round =>
    obtain ⟨lo, hi, rfl, rfl, hlh, hhi, hA, hZ, hb, hBx⟩ := hrel
    clear hW hB
    by_cases hlt : lo < hi
    · have hlt' : (lo : Int) < (hi : Int) := by omega
      obtain ⟨m, hm, hm1, hm2⟩ : ∃ m : Nat, ((lo : Int) + (hi : Int)) / 2 = (m : Int) ∧ lo ≤ m ∧ m < hi := ⟨(lo + hi) / 2, by omega, by omega, by omega⟩
      have hmn : m < es.length := by omega
      have hMid := hide (mid_step (t := ⟨tm, tk, tp⟩) hs.out hmn hA.out hZ.out)
      rcases hz with h | ⟨b, off, rfl, hc⟩
      · simp [h] at hmn
      obtain ⟨q0, q1, q2⟩ := hc m hmn
      replace q0 := ble hb q0
      replace q1 := ble hb q1
      replace q2 := ble hb q2
      obtain ⟨t0, t1, t2⟩ := id hBx
      have CM := CL (es.getD m PassV.zero)
      have LM := LT (es.getD m PassV.zero)
      clear hc CL LT hA hZ
      generalize es.getD m PassV.zero = y at *
      obtain ⟨ym, yk, yp⟩ := y
      dsimp only at *
      have hbs : b < wr.heap.size := cell_lt q0
      have hws : w.heap.size < wr.heap.size := cell_lt t0
      go_wp2
      clear hm
      go_region_held3 (fun w' => w'.cell? ⟨b, off + m * 3, none⟩ = some (.int .i64 ym) ∧ w'.cell? ⟨b, off + m * 3 + 1, none⟩ = some (.int .i64 yk) ∧ w'.cell? ⟨b, off + m * 3 + 2, none⟩ = some (.int .i64 yp) ∧ w'.cell? ⟨w.heap.size, 0, none⟩ = some (.int .i64 tm) ∧ w'.cell? ⟨w.heap.size, 1, none⟩ = some (.int .i64 tk) ∧ w'.cell? ⟨w.heap.size, 2, none⟩ = some (.int .i64 tp)) (go_keep) (first
        | (go_at_call 68; with_reducible refine (CM _).mono ?_; rintro e w1 ⟨rfl, hb1⟩; replace hb1 := undrew hb1; have v0 := ble hb1 q0; have v1 := ble hb1 q1; have v2 := ble hb1 q2; have v3 := ble hb1 t0; have v4 := ble hb1 t1; have v5 := ble hb1 t2))
      have hb2 := btrans hb hb1
      have hB2 := hBx.below hb1
      by_cases hc : cmpP ⟨ym, yk, yp⟩ ⟨tm, tk, tp⟩ < 0
      · have hA2 := hide (hMid.out.1 (LM.out.1 hc))
        have hZ2 := hide hMid.out.2.2.2
        clear hMid LM hb hBx q0 q1 q2 t0 t1 t2 v0 v1 v2 v3 v4 v5 hb1
        go_wp2
        go_roundw
        case rel => exact ⟨m + 1, hi, by go_num, rfl, by omega, by omega, hA2, hZ2, hb2, hB2⟩
        case measure => simp [intOf]; omega
      · have hZ2 := hide (hMid.out.2.1 (fun h => hc (LM.out.2 h)))
        have hA2 := hide hMid.out.2.2.1
        clear hMid LM hb hBx q0 q1 q2 t0 t1 t2 v0 v1 v2 v3 v4 v5 hb1
        go_wp2
        go_roundw
        case rel => exact ⟨lo, m, rfl, by go_num, by omega, by omega, hA2, hZ2, hb2, hB2⟩
        case measure => simp [intOf]; omega
    · obtain rfl : lo = hi := by omega
      have hlt' : ¬ ((lo : Int) < (lo : Int)) := by omega
      by_cases hn : lo < es.length
      · have hn' : decide ((lo : Int) < (es.length : Int)) = true := by simp; omega
        rcases hz with h | ⟨b, off, rfl, hc⟩
        · simp [h] at hn
        obtain ⟨q0, q1, q2⟩ := hc lo hn
        replace q0 := ble hb q0
        replace q1 := ble hb q1
        replace q2 := ble hb q2
        obtain ⟨t0, t1, t2⟩ := id hBx
        have CM := CL (es.getD lo PassV.zero)
        clear hc CL LT
        generalize es.getD lo PassV.zero = y at CM q0 q1 q2
        obtain ⟨ym, yk, yp⟩ := y
        dsimp only at CM q0 q1 q2
        have hbs : b < wr.heap.size := cell_lt q0
        have hws : w.heap.size < wr.heap.size := cell_lt t0
        go_wp2
        go_region_held3 (fun w' => w'.cell? ⟨b, off + lo * 3, none⟩ = some (.int .i64 ym) ∧ w'.cell? ⟨b, off + lo * 3 + 1, none⟩ = some (.int .i64 yk) ∧ w'.cell? ⟨b, off + lo * 3 + 2, none⟩ = some (.int .i64 yp) ∧ w'.cell? ⟨w.heap.size, 0, none⟩ = some (.int .i64 tm) ∧ w'.cell? ⟨w.heap.size, 1, none⟩ = some (.int .i64 tk) ∧ w'.cell? ⟨w.heap.size, 2, none⟩ = some (.int .i64 tp)) (go_keep) (first
          | (go_at_call 68; with_reducible refine (CM _).mono ?_; rintro e w1 ⟨rfl, hb1⟩; replace hb1 := undrew hb1; have v0 := ble hb1 q0; have v1 := ble hb1 q1; have v2 := ble hb1 q2; have v3 := ble hb1 t0; have v4 := ble hb1 t1; have v5 := ble hb1 t2))
        have hb2 := btrans hb hb1
        go_wp2
        go_ret2
        exact ⟨lo, _, rfl, hhi, hA.out, hZ.out, hb2⟩
      · have hn' : decide ((lo : Int) < (es.length : Int)) = false := by simp; omega
        clear hz CL LT
        go_wp2
        go_quiet (fail)
        go_wp2
        go_ret2
        exact ⟨lo, _, rfl, hhi, hA.out, hZ.out, bdraw hb _⟩
end Go.Proofs.Yteklmeekapegpaa
