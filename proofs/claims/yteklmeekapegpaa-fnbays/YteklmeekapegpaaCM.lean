/- Comparing: cmp.Compare, cmp.Or, passages. -/
import Derived.Test.YteklmeekapegpaaB
import Derived.Test.YteklmeekapegpaaSP
import Derived.Deep.RegionHeld3
namespace Go.Proofs.Yteklmeekapegpaa
open Go.RowKit

def cmpI (x y : Int) : Int := if x < y then -1 else if y < x then 1 else 0
def orI : List Int → Int
  | [] => 0
  | z :: zs => if z = 0 then orI zs else z
def cmpP (a b : PassV) : Int := orI [cmpI a.m b.m, cmpI a.k b.k, cmpI a.p b.p]
def ltP (a b : PassV) : Prop := a.m < b.m ∨ (a.m = b.m ∧ (a.k < b.k ∨ (a.k = b.k ∧ a.p < b.p)))
instance (a b : PassV) : Decidable (ltP a b) := by unfold ltP; exact inferInstance
theorem cmpI_lt {x y : Int} (h : x < y) : cmpI x y = -1 := by simp [cmpI, h]
theorem cmpI_gt {x y : Int} (h : y < x) : cmpI x y = 1 := by simp [cmpI, h]; omega
theorem cmpI_eq (x : Int) : cmpI x x = 0 := by simp [cmpI]
theorem cmpI_cases (x y : Int) : (x < y ∧ cmpI x y = -1) ∨ (x = y ∧ cmpI x y = 0) ∨ (y < x ∧ cmpI x y = 1) := by
  unfold cmpI; split
  · left; omega
  · split
    · right; right; omega
    · right; left; omega
theorem cmpP_lt (a b : PassV) : cmpP a b < 0 ↔ ltP a b := by
  unfold cmpP ltP orI orI orI orI
  rcases cmpI_cases a.m b.m with ⟨h1, e1⟩ | ⟨h1, e1⟩ | ⟨h1, e1⟩ <;> rcases cmpI_cases a.k b.k with ⟨h2, e2⟩ | ⟨h2, e2⟩ | ⟨h2, e2⟩ <;> rcases cmpI_cases a.p b.p with ⟨h3, e3⟩ | ⟨h3, e3⟩ | ⟨h3, e3⟩ <;> simp [e1, e2, e3] <;> omega

set_option maxHeartbeats 400000 in
theorem cNaN (x : Int) (w : World) : Calls Try.prog 92 #[.int .i64 x] w fun e w' => e = .returned (.bool false) ∧ w' = w := by
  go_enter Try.func92, Try.ntmps92
  go_wp2
  go_ret
  exact ⟨by simp, rfl⟩

set_option maxHeartbeats 800000 in
theorem cCompare (x y : Int) (w : World) : Calls Try.prog 91 #[.int .i64 x, .int .i64 y] w fun e w' => e = .returned (.int .i64 (cmpI x y)) ∧ w' = w := by
  rcases cmpI_cases x y with ⟨h1, e1⟩ | ⟨h1, e1⟩ | ⟨h1, e1⟩ <;> rw [e1] <;> clear e1
  · go_enter Try.func91, Try.ntmps91
    go_wp2_with (go_at_call 92; refine (cNaN _ _).mono ?_; rintro e w' ⟨rfl, rfl⟩)
    go_ret
    exact ⟨rfl, rfl⟩
  · subst h1
    go_enter Try.func91, Try.ntmps91
    go_wp2_with (go_at_call 92; refine (cNaN _ _).mono ?_; rintro e w' ⟨rfl, rfl⟩)
    go_ret
    exact ⟨rfl, rfl⟩
  · have h2 : ¬ x < y := by omega
    go_enter Try.func91, Try.ntmps91
    go_wp2_with (go_at_call 92; refine (cNaN _ _).mono ?_; rintro e w' ⟨rfl, rfl⟩)
    go_ret
    exact ⟨rfl, rfl⟩

theorem orI_drop {zs : List Int} {k : Nat} (hk : k < zs.length) : orI (zs.drop k) = if zs[k] = 0 then orI (zs.drop (k + 1)) else zs[k] := by
  rw [List.drop_eq_getElem_cons hk]; rfl

set_option maxHeartbeats 800000 in
theorem cOr (a : Option Addr) (cap : Nat) (zs : List Int) (w : World) (hz : Ints w a zs) (hl : zs.length ≤ 1048576) :
    Calls Try.prog 90 #[.slice a zs.length cap] w fun e w' => e = .returned (.int .i64 (orI zs)) ∧ w' = w := by
  generalize hr : orI zs = res
  have hr0 : Hid (orI (zs.drop 0) = res) := hr
  clear hr
  go_enter Try.func90, Try.ntmps90
  go_wp2
  go_loop [8] (fun i => ∃ k : Nat, k ≤ zs.length ∧ i = .int .i64 k ∧ Hid (orI (zs.drop k) = res)) (fun i => zs.length - (intOf i).toNat)
  case atStart => exact ⟨0, Nat.zero_le _, rfl, hr0⟩
  case round =>
    obtain ⟨k, hk, rfl, hres⟩ := hrel
    clear hr0
    by_cases hlt : k < zs.length
    · rcases hz with h | ⟨b, off, rfl, hc⟩
      · simp [h] at hlt
      have q0 := hc k hlt
      have e0 : zs.getD k 0 = zs[k] := by simp [List.getD, hlt]
      rw [e0] at q0
      have hd := hide ((orI_drop hlt).symm.trans hres.out)
      generalize zs[k] = y at *
      clear hc e0 hres
      by_cases hy : y = 0
      · have hf := hide (show orI (zs.drop (k + 1)) = res by rw [← hd.out, if_pos hy])
        clear hd
        subst hy
        go_wp2
        go_round
        case rel => exact ⟨k + 1, by omega, by go_num, hf⟩
        case measure => simp [intOf]; omega
      · have hf := hide (show res = y by rw [← hd.out, if_neg hy])
        clear hd
        go_wp2
        go_ret
        exact ⟨ret_int hf.out.symm, rfl⟩
    · obtain rfl : k = zs.length := by omega
      have hf := hide (show res = 0 by rw [← hres.out, List.drop_length]; rfl)
      clear hz
      go_wp2
      go_ret
      exact ⟨ret_int hf.out.symm, rfl⟩

/-- Three cells of a box. -/
def Bx3p (w : World) (b : Nat) (c0 c1 c2 : Value) : Prop := w.cell? ⟨b, 0, none⟩ = some c0 ∧ w.cell? ⟨b, 1, none⟩ = some c1 ∧ w.cell? ⟨b, 2, none⟩ = some c2
theorem Bx3p.below {w w1 : World} {b : Nat} {c0 c1 c2 : Value} (h : Bx3p w b c0 c1 c2) (hb : Below w.heap.size w w1) : Bx3p w1 b c0 c1 c2 := ⟨ble hb h.1, ble hb h.2.1, ble hb h.2.2⟩
theorem Bx3p.new (w : World) (c0 c1 c2 : Value) (t : TypeId) : Bx3p (w.alloc (.cells #[c0, c1, c2] t)) w.heap.size c0 c1 c2 := ⟨by simp, by simp, by simp⟩
theorem Bx3p.new1 (w : World) (o : Obj) (c0 c1 c2 : Value) (t : TypeId) : Bx3p ((w.alloc o).alloc (.cells #[c0, c1, c2] t)) (w.heap.size + 1) c0 c1 c2 := by
  have h := Bx3p.new (w.alloc o) c0 c1 c2 t
  rwa [sz1] at h
theorem ints3 (w : World) (x y z : Int) (t : TypeId) : Ints (w.alloc (.cells #[.int .i64 x, .int .i64 y, .int .i64 z] t)) (some ⟨w.heap.size, 0, none⟩) [x, y, z] := by
  refine .inr ⟨w.heap.size, 0, rfl, fun i hi => ?_⟩
  match i, hi with
  | 0, _ => simp
  | 1, _ => simp
  | 2, _ => simp

theorem cOr3 (v : World) (x y z : Int) (t : TypeId) :
    Calls Try.prog 90 #[.slice (some ⟨v.heap.size, 0, none⟩) 3 3] (v.alloc (.cells #[.int .i64 x, .int .i64 y, .int .i64 z] t)).drew fun e w' => e = .returned (.int .i64 (orI [x, y, z])) ∧ w' = (v.alloc (.cells #[.int .i64 x, .int .i64 y, .int .i64 z] t)).drew :=
  cOr _ 3 [x, y, z] _ (show Ints _ _ _ from ints3 v x y z t) (by simp)

set_option maxHeartbeats 1600000 in
theorem cCmpP (p q : PassV) (w : World) : Calls Try.prog 89 #[p.val, q.val] w fun e w' => e = .returned (.int .i64 (cmpP p q)) ∧ Below w.heap.size w w' := by
  obtain ⟨pm, pk, pp⟩ := p
  obtain ⟨qm, qk, qp⟩ := q
  unfold PassV.val
  dsimp only
  have hP : Hid (cmpP ⟨pm, pk, pp⟩ ⟨qm, qk, qp⟩ = orI [cmpI pm qm, cmpI pk qk, cmpI pp qp]) := rfl
  generalize cmpP ⟨pm, pk, pp⟩ ⟨qm, qk, qp⟩ = R at *
  have hb1 := btrans (balloc w (.cells #[.int .i64 pm, .int .i64 pk, .int .i64 pp] 60)) (balloc _ (.cells #[.int .i64 qm, .int .i64 qk, .int .i64 qp] 60))
  go_enter Try.func89, Try.ntmps89
  have B0 := (Bx3p.new w (.int .i64 pm) (.int .i64 pk) (.int .i64 pp) 60).below (balloc _ (.cells #[.int .i64 qm, .int .i64 qk, .int .i64 qp] 60))
  have B1 := Bx3p.new1 w (.cells #[.int .i64 pm, .int .i64 pk, .int .i64 pp] 60) (.int .i64 qm) (.int .i64 qk) (.int .i64 qp) 60
  go_wp2
  generalize (w.alloc (.cells #[.int .i64 pm, .int .i64 pk, .int .i64 pp] 60)).alloc (.cells #[.int .i64 qm, .int .i64 qk, .int .i64 qp] 60) = v at *
  obtain ⟨p0, p1, p2⟩ := B0
  obtain ⟨q0, q1, q2⟩ := B1
  go_region_held3 (fun w' => w'.cell? ⟨w.heap.size, 0, none⟩ = some (.int .i64 pm) ∧ w'.cell? ⟨w.heap.size, 1, none⟩ = some (.int .i64 pk) ∧ w'.cell? ⟨w.heap.size, 2, none⟩ = some (.int .i64 pp) ∧ w'.cell? ⟨w.heap.size + 1, 0, none⟩ = some (.int .i64 qm) ∧ w'.cell? ⟨w.heap.size + 1, 1, none⟩ = some (.int .i64 qk) ∧ w'.cell? ⟨w.heap.size + 1, 2, none⟩ = some (.int .i64 qp)) (go_keep) (first
    | (go_at_call 91; with_reducible refine (cCompare _ _ _).mono ?_; rintro e w' ⟨rfl, hw⟩; subst hw)
    | (go_at_call 90; with_reducible refine (cOr3 _ _ _ _ _).mono ?_; rintro e w' ⟨rfl, hw⟩; subst hw))
  go_wp2
  go_ret
  refine ⟨ret_int hP.out.symm, ?_⟩
  exact bdraw (btrans hb1 (balloc _ _)) 1
end Go.Proofs.Yteklmeekapegpaa
