/- The program's ruled shifts: the four breaches. -/
import Derived.Test.YtdmdoknkkfhheaaCD
import Derived.Deep.RegionHeld3
namespace Go.Proofs.Ytdmdoknkkfhheaa
open Go.RowKit

/-- A shift under a rule, as a value. -/
def rsv (a : Option Addr) (n c : Nat) (r : RuleV) : Value := .agg #[.slice a n c, .int .i64 r.p, .int .i64 r.d, .int .i64 r.r, .int .i64 r.s]
def rsc (a : Option Addr) (n c : Nat) (r : RuleV) : Obj := .cells #[.slice a n c, .int .i64 r.p, .int .i64 r.d, .int .i64 r.r, .int .i64 r.s] 74
theorem blk_cell {w : World} {b : Nat} {cs : Array Value} {t : TypeId} {f : Nat × Nat} (h : w.heap[b]? = some (.cells cs t f)) (i : Nat) : w.cell? ⟨b, i, none⟩ = cs[i]? := by
  simp [World.cell?, h]
theorem ordB_bad {s : List TaskV} {k : Nat} (hk : k + 1 < s.length) (h : lnkB (tkA s k) (tkA s (k + 1)) = false) : ordB s = false := by
  cases hq : ordB s
  · rfl
  · have := ordB_iff.1 hq k hk; rw [h] at this; cases this

set_option maxRecDepth 20000 in
set_option maxHeartbeats 3200000 in
theorem cOut (a : Option Addr) (cap : Nat) (s : List TaskV) (r : RuleV) (w : World) (hz : Tasks w a s) (hs : s.all taskB = true) (hl : s.length ≤ 40) :
    Calls Try.prog 60 #[rsv a s.length cap r] w fun e w' => e = .returned (.bool (!ordB s)) ∧ Below w.heap.size w w' := by
  have hW := balloc w (rsc a s.length cap r)
  have hX := one_block w (rsc a s.length cap r)
  have hBad := hide (fun k hk h => ordB_bad (s := s) (k := k) hk h)
  have hYes := hide (fun h => ordB_iff (s := s).2 h)
  have hM := hide (fun k (hk : k < s.length) => tkA_ok hs hk)
  unfold rsc at hW hX
  unfold rsv
  clear hs
  obtain ⟨c0, c1, c2, c3, c4⟩ : (_ : World).cell? ⟨w.heap.size, 0, none⟩ = _ ∧ (_ : World).cell? ⟨w.heap.size, 1, none⟩ = _ ∧ (_ : World).cell? ⟨w.heap.size, 2, none⟩ = _ ∧ (_ : World).cell? ⟨w.heap.size, 3, none⟩ = _ ∧ (_ : World).cell? ⟨w.heap.size, 4, none⟩ = _ := ⟨blk_cell hX 0, blk_cell hX 1, blk_cell hX 2, blk_cell hX 3, blk_cell hX 4⟩
  clear c1 c2 c3 c4
  go_enter Try.func60, Try.ntmps60
  go_wp2
  generalize w.alloc _ = W at *
  go_loopw [3] (fun i wr => ∃ k j : Nat, k ≤ s.length ∧ i = .int .i64 (j : Int) ∧ Hid (j = k + 1) ∧ Hid (∀ q, q < k → q + 1 < s.length → lnkB (tkA s q) (tkA s (q + 1)) = true) ∧ Below W.heap.size W wr) (fun i _ => s.length + 1 - (intOf i).toNat)
  case atStart => exact ⟨0, 1, Nat.zero_le _, rfl, hide rfl, hide (fun q hq => by omega), Below.refl _ _⟩
  case round =>
    obtain ⟨k, j, hk, rfl, hj, hD, hb⟩ := hrel
    have d0 := ble hb c0
    simp at d0
    have hXs : w.heap.size < wr.heap.size := cell_lt d0
    by_cases hlt : j < s.length
    · have hlt' : (j : Int) < (s.length : Int) := by omega
      have hk2 : k < s.length := by have := hj.out; omega
      rcases hz with h | ⟨b, off, rfl, hc⟩
      · simp [h] at hlt
      obtain ⟨p0, p1, p2, p3, p4⟩ := hc k hk2
      obtain ⟨q0, q1, q2, q3, q4⟩ := hc j hlt
      have hbw := btrans hW hb
      replace p0 := ble hbw p0
      replace p1 := ble hbw p1
      replace p2 := ble hbw p2
      replace p3 := ble hbw p3
      replace p4 := ble hbw p4
      replace q0 := ble hbw q0
      replace q1 := ble hbw q1
      replace q2 := ble hbw q2
      replace q3 := ble hbw q3
      replace q4 := ble hbw q4
      rw [← tkA_get] at p0 p1 p2 p3 p4 q0 q1 q2 q3 q4
      have CF := fun w => cFolI (tkA s k) (tkA s j) 0 w
      have bad := hide (fun h => hBad.out k (by have := hj.out; omega) h)
      rw [← hj.out] at bad
      rw [fol_lnk (hM.out k hk2) (hM.out j hlt)] at CF
      have hD2 : Hid (lnkB (tkA s k) (tkA s j) = true → ∀ q, q < j → q + 1 < s.length → lnkB (tkA s q) (tkA s (q + 1)) = true) := hide (fun h q hq hq2 => by
        by_cases e : q = k
        · subst e; rw [hj.out] at h; exact h
        · exact hD.out q (by have := hj.out; omega) hq2)
      generalize tkA s k = x at *
      generalize tkA s j = y at *
      obtain ⟨xe, xd, xf, xt, xp⟩ := x
      obtain ⟨ye, yd, yf, yt, yp⟩ := y
      unfold TaskV.val at CF
      dsimp only at p0 p1 p2 p3 p4 q0 q1 q2 q3 q4 CF
      have e1 : IntKind.i64.wrap ((j : Int) - 1) = (k : Int) := (wrap_in _ (by omega) (by have := hj.out; omega)).trans (by have := hj.out; omega)
      have e2 : (k : Int) < (s.length : Int) := by omega
      have hbs : b < wr.heap.size := cell_lt p0
      clear hc hD hM
      cases hf : lnkB ⟨xe, xd, xf, xt, xp⟩ ⟨ye, yd, yf, yt, yp⟩
      · rw [hf] at CF
        have hF := hide (bad.out hf)
        clear bad hD2 hf hBad hYes
        go_wp2_with fail
        go_region_held3 (fun w' => w'.cell? ⟨w.heap.size, 0, none⟩ = some (.slice (some ⟨b, off, none⟩) s.length cap) ∧ w'.cell? ⟨b, off + k * 5, none⟩ = some (.int .i64 xe) ∧ w'.cell? ⟨b, off + k * 5 + 1, none⟩ = some (.int .i64 xd) ∧ w'.cell? ⟨b, off + k * 5 + 2, none⟩ = some (.int .i64 xf) ∧ w'.cell? ⟨b, off + k * 5 + 3, none⟩ = some (.int .i64 xt) ∧ w'.cell? ⟨b, off + k * 5 + 4, none⟩ = some (.int .i64 xp) ∧ w'.cell? ⟨b, off + j * 5, none⟩ = some (.int .i64 ye) ∧ w'.cell? ⟨b, off + j * 5 + 1, none⟩ = some (.int .i64 yd) ∧ w'.cell? ⟨b, off + j * 5 + 2, none⟩ = some (.int .i64 yf) ∧ w'.cell? ⟨b, off + j * 5 + 3, none⟩ = some (.int .i64 yt) ∧ w'.cell? ⟨b, off + j * 5 + 4, none⟩ = some (.int .i64 yp)) (go_keep) ((go_at_call 70; with_reducible refine (CF _).mono ?_; rintro e w2 ⟨rfl, hbf⟩; replace hbf := undrew hbf; have f0 := ble hbf d0; have v0 := ble hbf p0; have v1 := ble hbf p1; have v2 := ble hbf p2; have v3 := ble hbf p3; have v4 := ble hbf p4; have u0 := ble hbf q0; have u1 := ble hbf q1; have u2 := ble hbf q2; have u3 := ble hbf q3; have u4 := ble hbf q4))
        have hb2 := btrans hbw hbf
        go_wp2
        go_ret
        exact ⟨ret_bool (by rw [hF.out]; rfl), hb2⟩
      · rw [hf] at CF
        have hF := hide (hD2.out hf)
        clear bad hD2 hf
        go_wp2_with fail
        go_region_held3 (fun w' => w'.cell? ⟨w.heap.size, 0, none⟩ = some (.slice (some ⟨b, off, none⟩) s.length cap) ∧ w'.cell? ⟨b, off + k * 5, none⟩ = some (.int .i64 xe) ∧ w'.cell? ⟨b, off + k * 5 + 1, none⟩ = some (.int .i64 xd) ∧ w'.cell? ⟨b, off + k * 5 + 2, none⟩ = some (.int .i64 xf) ∧ w'.cell? ⟨b, off + k * 5 + 3, none⟩ = some (.int .i64 xt) ∧ w'.cell? ⟨b, off + k * 5 + 4, none⟩ = some (.int .i64 xp) ∧ w'.cell? ⟨b, off + j * 5, none⟩ = some (.int .i64 ye) ∧ w'.cell? ⟨b, off + j * 5 + 1, none⟩ = some (.int .i64 yd) ∧ w'.cell? ⟨b, off + j * 5 + 2, none⟩ = some (.int .i64 yf) ∧ w'.cell? ⟨b, off + j * 5 + 3, none⟩ = some (.int .i64 yt) ∧ w'.cell? ⟨b, off + j * 5 + 4, none⟩ = some (.int .i64 yp)) (go_keep) ((go_at_call 70; with_reducible refine (CF _).mono ?_; rintro e w2 ⟨rfl, hbf⟩; replace hbf := undrew hbf; have f0 := ble hbf d0; have v0 := ble hbf p0; have v1 := ble hbf p1; have v2 := ble hbf p2; have v3 := ble hbf p3; have v4 := ble hbf p4; have u0 := ble hbf q0; have u1 := ble hbf q1; have u2 := ble hbf q2; have u3 := ble hbf q3; have u4 := ble hbf q4))
        have hb2 := btrans hb hbf
        go_wp2
        go_roundw
        case rel => exact ⟨j, j + 1, by omega, by go_num, hide rfl, hF, hb2⟩
        case measure => simp [intOf]; omega
    · have hlt' : ¬ ((j : Int) < (s.length : Int)) := by omega
      have hF := hide (hYes.out (fun q hq => hD.out q (by have := hj.out; omega) hq))
      have hbw := btrans hW hb
      clear hz hD hBad hYes hM
      go_wp2
      go_ret
      exact ⟨ret_bool (by rw [hF.out]; rfl), hbw⟩

theorem cSpdB (a : Option Addr) (cap : Nat) (s : List TaskV) (w : World) (hz : Tasks w a s) (hs : s.all taskB = true) (h0 : 0 < s.length) (hl : s.length ≤ 40) :
    Calls Try.prog 50 #[.slice a s.length cap] w fun e w' => e = .returned (.int .i64 (spd s)) ∧ Below w.heap.size w w' :=
  (cSpd a cap s w hz hs h0 hl).mono (fun e w' h => ⟨h.1, by obtain ⟨n, hn⟩ := h.2; rw [hn]; exact bdraw (Below.refl _ _) n⟩)

set_option maxRecDepth 20000 in
set_option maxHeartbeats 1600000 in
theorem cTooS (a : Option Addr) (cap : Nat) (s : List TaskV) (r : RuleV) (w : World) (hz : Tasks w a s) (hs : s.all taskB = true) (h0 : 0 < s.length) (hl : s.length ≤ 40) :
    Calls Try.prog 61 #[rsv a s.length cap r] w fun e w' => e = .returned (.bool (decide (r.p < spd s))) ∧ Below w.heap.size w w' := by
  have hW := balloc w (rsc a s.length cap r)
  have hX := one_block w (rsc a s.length cap r)
  have C := fun w hz => cSpdB a cap s w hz hs h0 hl
  unfold rsc at hW hX
  unfold rsv
  obtain ⟨rp, rd, rr, rs⟩ := r
  dsimp only at *
  generalize spd s = V at *
  have c0 := blk_cell hX 0
  have c1 := blk_cell hX 1
  have c2 := blk_cell hX 2
  have c3 := blk_cell hX 3
  have c4 := blk_cell hX 4
  simp only [List.getElem?_toArray, List.getElem?_cons_zero, List.getElem?_cons_succ] at c0 c1 c2 c3 c4
  replace hz := hz.below hW
  go_enter Try.func61, Try.ntmps61
  go_wp2_with fail
  generalize w.alloc _ = W at *
  have hzd : Tasks W.drew a s := hz.below (bdraw (Below.refl _ _) 1)
  replace C := C W.drew hzd
  clear hzd
  clear hs hz
  go_region_held3 (fun w' => w'.cell? ⟨w.heap.size, 0, none⟩ = some (.slice a s.length cap) ∧ w'.cell? ⟨w.heap.size, 1, none⟩ = some (.int .i64 rp)) (go_keep) ((go_at_call 50; with_reducible refine C.mono ?_; rintro e w2 ⟨rfl, hbf⟩; replace hbf := undrew hbf; have f0 := ble hbf c0; have f1 := ble hbf c1))
  have hb2 := btrans hW hbf
  go_wp2
  go_ret
  exact ⟨rfl, hb2⟩

set_option maxRecDepth 20000 in
set_option maxHeartbeats 1600000 in
theorem cTooD (a : Option Addr) (cap : Nat) (s : List TaskV) (r : RuleV) (w : World) (hz : Tasks w a s) (hs : s.all taskB = true) (hl : s.length ≤ 40) :
    Calls Try.prog 62 #[rsv a s.length cap r] w fun e w' => e = .returned (.bool (decide (r.d < drv s))) ∧ Below w.heap.size w w' := by
  have hW := balloc w (rsc a s.length cap r)
  have hX := one_block w (rsc a s.length cap r)
  have C := fun w hz => cDrv a cap s w hz hs hl
  unfold rsc at hW hX
  unfold rsv
  obtain ⟨rp, rd, rr, rs⟩ := r
  dsimp only at *
  generalize drv s = V at *
  have c0 := blk_cell hX 0
  have c1 := blk_cell hX 1
  have c2 := blk_cell hX 2
  have c3 := blk_cell hX 3
  have c4 := blk_cell hX 4
  simp only [List.getElem?_toArray, List.getElem?_cons_zero, List.getElem?_cons_succ] at c0 c1 c2 c3 c4
  replace hz := hz.below hW
  go_enter Try.func62, Try.ntmps62
  go_wp2_with fail
  generalize w.alloc _ = W at *
  have hzd : Tasks W.drew a s := hz.below (bdraw (Below.refl _ _) 1)
  replace C := C W.drew hzd
  clear hzd
  clear hs hz
  go_region_held3 (fun w' => w'.cell? ⟨w.heap.size, 0, none⟩ = some (.slice a s.length cap) ∧ w'.cell? ⟨w.heap.size, 2, none⟩ = some (.int .i64 rd)) (go_keep) ((go_at_call 45; with_reducible refine C.mono ?_; rintro e w2 ⟨rfl, hbf⟩; replace hbf := undrew hbf; have f0 := ble hbf c0; have f2 := ble hbf c2))
  have hb2 := btrans hW hbf
  go_wp2
  go_ret
  exact ⟨rfl, hb2⟩

set_option maxRecDepth 20000 in
set_option maxHeartbeats 1600000 in
theorem cTooT (a : Option Addr) (cap : Nat) (s : List TaskV) (r : RuleV) (w : World) (hz : Tasks w a s) (hs : s.all taskB = true) (hl : s.length ≤ 40) :
    Calls Try.prog 63 #[rsv a s.length cap r] w fun e w' => e = .returned (.bool (decide (r.s < strV r.r s))) ∧ Below w.heap.size w w' := by
  have hW := balloc w (rsc a s.length cap r)
  have hX := one_block w (rsc a s.length cap r)
  have C := fun w hz => cStr a cap s r.r w hz hs hl
  unfold rsc at hW hX
  unfold rsv
  obtain ⟨rp, rd, rr, rs⟩ := r
  dsimp only at *
  generalize strV rr s = V at *
  have c0 := blk_cell hX 0
  have c1 := blk_cell hX 1
  have c2 := blk_cell hX 2
  have c3 := blk_cell hX 3
  have c4 := blk_cell hX 4
  simp only [List.getElem?_toArray, List.getElem?_cons_zero, List.getElem?_cons_succ] at c0 c1 c2 c3 c4
  replace hz := hz.below hW
  go_enter Try.func63, Try.ntmps63
  go_wp2_with fail
  generalize w.alloc _ = W at *
  have hzd : Tasks W.drew a s := hz.below (bdraw (Below.refl _ _) 1)
  replace C := C W.drew hzd
  clear hzd
  clear hs hz
  go_region_held3 (fun w' => w'.cell? ⟨w.heap.size, 0, none⟩ = some (.slice a s.length cap) ∧ w'.cell? ⟨w.heap.size, 4, none⟩ = some (.int .i64 rs) ∧ w'.cell? ⟨w.heap.size, 3, none⟩ = some (.int .i64 rr)) (go_keep) ((go_at_call 46; with_reducible refine C.mono ?_; rintro e w2 ⟨rfl, hbf⟩; replace hbf := undrew hbf; have f0 := ble hbf c0; have f4 := ble hbf c4; have f3 := ble hbf c3))
  have hb2 := btrans hW hbf
  go_wp2
  go_ret
  exact ⟨rfl, hb2⟩
end Go.Proofs.Ytdmdoknkkfhheaa
