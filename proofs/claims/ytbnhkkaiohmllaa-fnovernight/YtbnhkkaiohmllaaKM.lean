/- Comparing: cmp.Compare, cmp.Or, placed tasks. -/
import Derived.Test.YtbnhkkaiohmllaaKP
import Derived.Test.YtbnhkkaiohmllaaCA
import Derived.Deep.RegionHeld3
namespace Go.Proofs.Ytbnhkkaiohmllaa
open Go.RowKit
def orI : List Int → Int
  | [] => 0
  | z :: zs => if z = 0 then orI zs else z
theorem or2 (x y : Int) : orI [x, y] = if x = 0 then y else x := by
  unfold orI orI orI
  split
  · split
    · next h => exact h.symm
    · rfl
  · rfl
theorem cmpI_cases (x y : Int) : (x < y ∧ cmpI x y = -1) ∨ (x = y ∧ cmpI x y = 0) ∨ (y < x ∧ cmpI x y = 1) := by
  unfold cmpI; split
  · left; omega
  · split
    · right; right; omega
    · right; left; omega
set_option maxHeartbeats 400000 in
theorem cNaN (x : Int) (w : World) : Calls Try.prog 110 #[.int .i64 x] w fun e w' => e = .returned (.bool false) ∧ w' = w := by
  go_enter Try.func110, Try.ntmps110
  go_wp2
  go_ret
  exact ⟨by simp, rfl⟩

set_option maxHeartbeats 800000 in
theorem cCompare (x y : Int) (w : World) : Calls Try.prog 109 #[.int .i64 x, .int .i64 y] w fun e w' => e = .returned (.int .i64 (cmpI x y)) ∧ w' = w := by
  rcases cmpI_cases x y with ⟨h1, e1⟩ | ⟨h1, e1⟩ | ⟨h1, e1⟩ <;> rw [e1] <;> clear e1
  · go_enter Try.func109, Try.ntmps109
    go_wp2_with (go_at_call 110; refine (cNaN _ _).mono ?_; rintro e w' ⟨rfl, rfl⟩)
    go_ret
    exact ⟨rfl, rfl⟩
  · subst h1
    go_enter Try.func109, Try.ntmps109
    go_wp2_with (go_at_call 110; refine (cNaN _ _).mono ?_; rintro e w' ⟨rfl, rfl⟩)
    go_ret
    exact ⟨rfl, rfl⟩
  · have h2 : ¬ x < y := by omega
    go_enter Try.func109, Try.ntmps109
    go_wp2_with (go_at_call 110; refine (cNaN _ _).mono ?_; rintro e w' ⟨rfl, rfl⟩)
    go_ret
    exact ⟨rfl, rfl⟩

theorem orI_drop {zs : List Int} {k : Nat} (hk : k < zs.length) : orI (zs.drop k) = if zs[k] = 0 then orI (zs.drop (k + 1)) else zs[k] := by
  rw [List.drop_eq_getElem_cons hk]; rfl

set_option maxHeartbeats 800000 in
theorem cOr (a : Option Addr) (cap : Nat) (zs : List Int) (w : World) (hz : Ints w a zs) (hl : zs.length ≤ 1048576) :
    Calls Try.prog 108 #[.slice a zs.length cap] w fun e w' => e = .returned (.int .i64 (orI zs)) ∧ w' = w := by
  generalize hr : orI zs = res
  have hr0 : Hid (orI (zs.drop 0) = res) := hr
  clear hr
  go_enter Try.func108, Try.ntmps108
  go_wp2
  go_loop [8] (fun i => ∃ k : Nat, k ≤ zs.length ∧ i = .int .i64 k ∧ Hid (orI (zs.drop k) = res)) (fun i => zs.length - (intOf i).toNat)
  case atStart => exact ⟨0, Nat.zero_le _, rfl, hr0⟩
  case round =>
    obtain ⟨k, hk, rfl, hres⟩ := hrel
    clear hr0
    by_cases hlt : k < zs.length
    · rcases hz with h | ⟨b, off, rfl, hc⟩
      · simp [h] at hlt
      have q0 := hc k hlt
      have e0 : zs.getD k 0 = zs[k] := by simp [List.getD, hlt]
      rw [e0] at q0
      have hd := hide ((orI_drop hlt).symm.trans hres.out)
      generalize zs[k] = y at *
      clear hc e0 hres
      by_cases hy : y = 0
      · have hf := hide (show orI (zs.drop (k + 1)) = res by rw [← hd.out, if_pos hy])
        clear hd
        subst hy
        go_wp2
        go_round
        case rel => exact ⟨k + 1, by omega, by go_num, hf⟩
        case measure => simp [intOf]; omega
      · have hf := hide (show res = y by rw [← hd.out, if_neg hy])
        clear hd
        go_wp2
        go_ret
        exact ⟨ret_int hf.out.symm, rfl⟩
    · obtain rfl : k = zs.length := by omega
      have hf := hide (show res = 0 by rw [← hres.out, List.drop_length]; rfl)
      clear hz
      go_wp2
      go_ret
      exact ⟨ret_int hf.out.symm, rfl⟩


theorem ints2 (w : World) (x y : Int) (t : TypeId) : Ints (w.alloc (.cells #[.int .i64 x, .int .i64 y] t)) (some ⟨w.heap.size, 0, none⟩) [x, y] := by
  refine .inr ⟨w.heap.size, 0, rfl, fun i hi => ?_⟩
  match i, hi with
  | 0, _ => simp
  | 1, _ => simp
theorem cOr2 (v : World) (x y : Int) (t : TypeId) :
    Calls Try.prog 108 #[.slice (some ⟨v.heap.size, 0, none⟩) 2 2] (v.alloc (.cells #[.int .i64 x, .int .i64 y] t)).drew fun e w' => e = .returned (.int .i64 (orI [x, y])) ∧ w' = (v.alloc (.cells #[.int .i64 x, .int .i64 y] t)).drew :=
  cOr _ 2 [x, y] _ (show Ints _ _ _ from ints2 v x y t) (by simp)
def Bx6p (w : World) (b : Nat) (x : PlV) : Prop := PlAt w b 0 x
theorem Bx6p.below {w w1 : World} {b : Nat} {x : PlV} (h : Bx6p w b x) (hb : Below w.heap.size w w1) : Bx6p w1 b x := PlAt.below h hb
theorem Bx6p.new (w : World) (x : PlV) (t : TypeId) : Bx6p (w.alloc (.cells x.cs.toArray t)) w.heap.size x := ⟨by simp [PlV.cs], by simp [PlV.cs], by simp [PlV.cs], by simp [PlV.cs], by simp [PlV.cs], by simp [PlV.cs]⟩
theorem Bx6p.parts {w : World} {b : Nat} {x : PlV} (h : Bx6p w b x) : w.cell? ⟨b, 0, none⟩ = some (.int .i64 x.u.e) ∧ w.cell? ⟨b, 1, none⟩ = some (.int .i64 x.u.d) ∧ w.cell? ⟨b, 2, none⟩ = some (.int .i64 x.u.f) ∧ w.cell? ⟨b, 3, none⟩ = some (.int .i64 x.u.t) ∧ w.cell? ⟨b, 4, none⟩ = some (.int .i64 x.u.p) ∧ w.cell? ⟨b, 5, none⟩ = some (.int .i64 x.k) := by
  obtain ⟨h0, h1, h2, h3, h4, h5⟩ := h
  exact ⟨h0, by simpa using h1, by simpa using h2, by simpa using h3, by simpa using h4, by simpa using h5⟩
theorem Bx6p.new1 (w : World) (o : Obj) (x : PlV) (t : TypeId) : Bx6p ((w.alloc o).alloc (.cells x.cs.toArray t)) (w.heap.size + 1) x := by
  have h := Bx6p.new (w.alloc o) x t
  rwa [sz1] at h

set_option maxHeartbeats 1600000 in
theorem cCmpP (p q : PlV) (w : World) : Calls Try.prog 107 #[p.val, q.val] w fun e w' => e = .returned (.int .i64 (cmpP p q)) ∧ Below w.heap.size w w' := by
  have hP : Hid (cmpP p q = orI [cmpI p.u.f q.u.f, cmpI p.k q.k]) := hide ((or2 _ _).trans rfl).symm
  generalize cmpP p q = R at *
  have hb1 := btrans (balloc w (.cells p.cs.toArray 68)) (balloc _ (.cells q.cs.toArray 68))
  have B0 := ((Bx6p.new w p 68).below (balloc _ (.cells q.cs.toArray 68))).parts
  have B1 := (Bx6p.new1 w (.cells p.cs.toArray 68) q 68).parts
  obtain ⟨⟨pe, pd, pf, pt, pp⟩, pk⟩ := p
  obtain ⟨⟨qe, qd, qf, qt, qp⟩, qk⟩ := q
  unfold PlV.val PlV.cs at *
  dsimp only at *
  obtain ⟨-, -, p2, -, -, p5⟩ := B0
  obtain ⟨-, -, q2, -, -, q5⟩ := B1
  go_enter Try.func107, Try.ntmps107
  go_wp2
  generalize (w.alloc (.cells [.int .i64 pe, .int .i64 pd, .int .i64 pf, .int .i64 pt, .int .i64 pp, .int .i64 pk].toArray 68)).alloc (.cells [.int .i64 qe, .int .i64 qd, .int .i64 qf, .int .i64 qt, .int .i64 qp, .int .i64 qk].toArray 68) = v at *
  go_region_held3 (fun w' => w'.cell? ⟨w.heap.size, 2, none⟩ = some (.int .i64 pf) ∧ w'.cell? ⟨w.heap.size, 5, none⟩ = some (.int .i64 pk) ∧ w'.cell? ⟨w.heap.size + 1, 2, none⟩ = some (.int .i64 qf) ∧ w'.cell? ⟨w.heap.size + 1, 5, none⟩ = some (.int .i64 qk)) (go_keep) (first
    | (go_at_call 109; with_reducible refine (cCompare _ _ _).mono ?_; rintro e w' ⟨rfl, hw⟩; subst hw)
    | (go_at_call 108; with_reducible refine (cOr2 _ _ _ _).mono ?_; rintro e w' ⟨rfl, hw⟩; subst hw))
  go_wp2
  go_ret
  refine ⟨ret_int hP.out.symm, ?_⟩
  exact bdraw (btrans hb1 (balloc _ _)) 1

end Go.Proofs.Ytbnhkkaiohmllaa
