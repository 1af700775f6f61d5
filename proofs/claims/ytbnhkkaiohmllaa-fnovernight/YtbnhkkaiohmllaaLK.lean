/- ChainOk of the program. -/
import Derived.Test.YtbnhkkaiohmllaaCH
import Derived.Deep.RegionHeld3
namespace Go.Proofs.Ytbnhkkaiohmllaa
open Go.RowKit Go.Lib

theorem linkB_drop {ts : List TaskV} {n : Int} {ps : List Nat} {k : Nat} (hk : k + 1 < ps.length) : linkB ts n (ps.drop k) = (folB (tkA ts (ps.getD k 0)) (tkA ts (ps.getD (k + 1) 0)) n && linkB ts n (ps.drop (k + 1))) := by
  rw [List.drop_eq_getElem_cons (by omega : k < ps.length), List.drop_eq_getElem_cons hk, linkB]
  simp [List.getD, hk, show k < ps.length by omega]
theorem linkB_end {ts : List TaskV} {n : Int} {ps : List Nat} {k : Nat} (hk : ps.length ≤ k + 1) : linkB ts n (ps.drop k) = true := by
  have h : (ps.drop k).length ≤ 1 := by rw [List.length_drop]; omega
  generalize ps.drop k = qs at *
  match qs, h with
  | [], _ => rfl
  | [_], _ => rfl
theorem pls_at (ts : List TaskV) (ps : List Nat) {k : Nat} (hk : k < ps.length) : (ps.map (plOf ts)).getD k PlV.zero = plOf ts (ps.getD k 0) := by simp [List.getD, hk]

set_option maxRecDepth 20000 in
set_option maxHeartbeats 3200000 in
theorem cLinked (a : Option Addr) (cap : Nat) (ts : List TaskV) (ps : List Nat) (n : Int) (w : World) (hz : Pls w a (ps.map (plOf ts))) (hl : ps.length ≤ 40) :
    Calls Try.prog 61 #[.slice a ps.length cap, .int .i64 n] w fun e w' => e = .returned (.bool (linkB ts n ps)) ∧ Below w.heap.size w w' := by
  generalize hr : linkB ts n ps = res
  have hr0 : Hid (linkB ts n (ps.drop 0) = res) := hide (by rw [List.drop_zero]; exact hr)
  clear hr
  go_enter Try.func61, Try.ntmps61
  go_wp2
  go_loopw [5] (fun i wr => ∃ k j : Nat, k ≤ ps.length ∧ i = .int .i64 (j : Int) ∧ Hid (j = k + 1) ∧ Hid (linkB ts n (ps.drop k) = res) ∧ Below w.heap.size w wr) (fun i _ => ps.length + 1 - (intOf i).toNat)
  case atStart => exact ⟨0, 1, Nat.zero_le _, rfl, hide rfl, hr0, Below.refl _ _⟩
  case round =>
    obtain ⟨k, j, hk, rfl, hj, hD, hb⟩ := hrel
    clear hr0
    by_cases hlt : j < ps.length
    · have hlt' : (j : Int) < (ps.length : Int) := by omega
      have hk2 : k < ps.length := by have := hj.out; omega
      rcases hz with h | ⟨b, off, rfl, hc⟩
      · have : ps.length = 0 := by simpa using congrArg List.length h
        omega
      obtain ⟨p0, p1, p2, p3, p4, -⟩ := (hc k (by rw [List.length_map]; omega)).below hb
      obtain ⟨q0, q1, q2, q3, q4, -⟩ := (hc j (by rw [List.length_map]; omega)).below hb
      rw [pls_at ts ps (by omega)] at p0 p1 p2 p3 p4
      rw [pls_at ts ps hlt] at q0 q1 q2 q3 q4
      have hT := hide ((linkB_drop (ts := ts) (n := n) (k := k) (by have := hj.out; omega)).symm.trans hD.out)
      rw [← hj.out] at hT
      have CF := fun w => cFolI (tkA ts (ps.getD k 0)) (tkA ts (ps.getD j 0)) n w
      unfold plOf at p0 p1 p2 p3 p4 q0 q1 q2 q3 q4
      dsimp only at p0 p1 p2 p3 p4 q0 q1 q2 q3 q4
      generalize tkA ts (ps.getD k 0) = x at *
      generalize tkA ts (ps.getD j 0) = y at *
      obtain ⟨xe, xd, xf, xt, xp⟩ := x
      obtain ⟨ye, yd, yf, yt, yp⟩ := y
      unfold TaskV.val at CF
      dsimp only at *
      have e1 : IntKind.i64.wrap ((j : Int) - 1) = (k : Int) := (wrap_in _ (by omega) (by have := hj.out; omega)).trans (by have := hj.out; omega)
      have e2 : (k : Int) < (ps.length : Int) := by omega
      have hbs : b < wr.heap.size := cell_lt p0
      clear hc
      cases hf : folB ⟨xe, xd, xf, xt, xp⟩ ⟨ye, yd, yf, yt, yp⟩ n
      · rw [hf] at CF
        have hF := hide (show res = false by rw [← hT.out, hf]; rfl)
        clear hT hD hf
        go_wp2_with fail
        go_region_held3 (fun w' => w'.cell? ⟨b, off + k * 6, none⟩ = some (.int .i64 xe) ∧ w'.cell? ⟨b, off + k * 6 + 1, none⟩ = some (.int .i64 xd) ∧ w'.cell? ⟨b, off + k * 6 + 2, none⟩ = some (.int .i64 xf) ∧ w'.cell? ⟨b, off + k * 6 + 3, none⟩ = some (.int .i64 xt) ∧ w'.cell? ⟨b, off + k * 6 + 4, none⟩ = some (.int .i64 xp) ∧ w'.cell? ⟨b, off + j * 6, none⟩ = some (.int .i64 ye) ∧ w'.cell? ⟨b, off + j * 6 + 1, none⟩ = some (.int .i64 yd) ∧ w'.cell? ⟨b, off + j * 6 + 2, none⟩ = some (.int .i64 yf) ∧ w'.cell? ⟨b, off + j * 6 + 3, none⟩ = some (.int .i64 yt) ∧ w'.cell? ⟨b, off + j * 6 + 4, none⟩ = some (.int .i64 yp)) (go_keep) ((go_at_call 28; with_reducible refine (CF _).mono ?_; rintro e w2 ⟨rfl, hbf⟩; replace hbf := undrew hbf; have v0 := ble hbf p0; have v1 := ble hbf p1; have v2 := ble hbf p2; have v3 := ble hbf p3; have v4 := ble hbf p4; have u0 := ble hbf q0; have u1 := ble hbf q1; have u2 := ble hbf q2; have u3 := ble hbf q3; have u4 := ble hbf q4))
        have hb2 := btrans hb hbf
        go_wp2
        go_ret
        exact ⟨ret_bool hF.out.symm, hb2⟩
      · rw [hf] at CF
        have hF := hide (show linkB ts n (ps.drop j) = res by rw [← hT.out, hf]; rfl)
        clear hT hD hf
        go_wp2_with fail
        go_region_held3 (fun w' => w'.cell? ⟨b, off + k * 6, none⟩ = some (.int .i64 xe) ∧ w'.cell? ⟨b, off + k * 6 + 1, none⟩ = some (.int .i64 xd) ∧ w'.cell? ⟨b, off + k * 6 + 2, none⟩ = some (.int .i64 xf) ∧ w'.cell? ⟨b, off + k * 6 + 3, none⟩ = some (.int .i64 xt) ∧ w'.cell? ⟨b, off + k * 6 + 4, none⟩ = some (.int .i64 xp) ∧ w'.cell? ⟨b, off + j * 6, none⟩ = some (.int .i64 ye) ∧ w'.cell? ⟨b, off + j * 6 + 1, none⟩ = some (.int .i64 yd) ∧ w'.cell? ⟨b, off + j * 6 + 2, none⟩ = some (.int .i64 yf) ∧ w'.cell? ⟨b, off + j * 6 + 3, none⟩ = some (.int .i64 yt) ∧ w'.cell? ⟨b, off + j * 6 + 4, none⟩ = some (.int .i64 yp)) (go_keep) ((go_at_call 28; with_reducible refine (CF _).mono ?_; rintro e w2 ⟨rfl, hbf⟩; replace hbf := undrew hbf; have v0 := ble hbf p0; have v1 := ble hbf p1; have v2 := ble hbf p2; have v3 := ble hbf p3; have v4 := ble hbf p4; have u0 := ble hbf q0; have u1 := ble hbf q1; have u2 := ble hbf q2; have u3 := ble hbf q3; have u4 := ble hbf q4))
        have hb2 := btrans hb hbf
        go_wp2
        go_roundw
        case rel => exact ⟨j, j + 1, by omega, by go_num, hide rfl, hF, hb2⟩
        case measure => simp [intOf]; omega
    · have hlt' : ¬ ((j : Int) < (ps.length : Int)) := by omega
      have hF := hide (show res = true by rw [← hD.out, linkB_end (by have := hj.out; omega)])
      clear hz hD
      go_wp2
      go_ret
      exact ⟨ret_bool hF.out.symm, hb⟩
end Go.Proofs.Ytbnhkkaiohmllaa
