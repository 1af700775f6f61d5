/- Comparing trials. -/
import Derived.Test.YtdjambejppanoaaBM
import Derived.Deep.RegionHeld3
namespace Go.Proofs.Ytdjambejppanoaa
open Go.RowKit
def cmpI (x y : Int) : Int := if x < y then -1 else if y < x then 1 else 0
def orI : List Int → Int
  | [] => 0
  | z :: zs => if z = 0 then orI zs else z
theorem cmpI_lt {x y : Int} (h : x < y) : cmpI x y = -1 := by simp [cmpI, h]
theorem cmpI_gt {x y : Int} (h : y < x) : cmpI x y = 1 := by simp [cmpI, h]; omega
theorem cmpI_eq (x : Int) : cmpI x x = 0 := by simp [cmpI]
theorem cmpI_cases (x y : Int) : (x < y ∧ cmpI x y = -1) ∨ (x = y ∧ cmpI x y = 0) ∨ (y < x ∧ cmpI x y = 1) := by
  unfold cmpI; split
  · left; omega
  · split
    · right; right; omega
    · right; left; omega
set_option maxHeartbeats 400000 in
theorem cNaN (x : Int) (w : World) : Calls Try.prog 87 #[.int .i64 x] w fun e w' => e = .returned (.bool false) ∧ w' = w := by
  go_enter Try.func87, Try.ntmps87
  go_wp2
  go_ret
  exact ⟨by simp, rfl⟩

set_option maxHeartbeats 800000 in
theorem cCompare (x y : Int) (w : World) : Calls Try.prog 111 #[.int .i64 x, .int .i64 y] w fun e w' => e = .returned (.int .i64 (cmpI x y)) ∧ w' = w := by
  rcases cmpI_cases x y with ⟨h1, e1⟩ | ⟨h1, e1⟩ | ⟨h1, e1⟩ <;> rw [e1] <;> clear e1
  · go_enter Try.func111, Try.ntmps111
    go_wp2_with (go_at_call 87; refine (cNaN _ _).mono ?_; rintro e w' ⟨rfl, rfl⟩)
    go_ret
    exact ⟨rfl, rfl⟩
  · subst h1
    go_enter Try.func111, Try.ntmps111
    go_wp2_with (go_at_call 87; refine (cNaN _ _).mono ?_; rintro e w' ⟨rfl, rfl⟩)
    go_ret
    exact ⟨rfl, rfl⟩
  · have h2 : ¬ x < y := by omega
    go_enter Try.func111, Try.ntmps111
    go_wp2_with (go_at_call 87; refine (cNaN _ _).mono ?_; rintro e w' ⟨rfl, rfl⟩)
    go_ret
    exact ⟨rfl, rfl⟩

theorem orI_drop {zs : List Int} {k : Nat} (hk : k < zs.length) : orI (zs.drop k) = if zs[k] = 0 then orI (zs.drop (k + 1)) else zs[k] := by
  rw [List.drop_eq_getElem_cons hk]; rfl

set_option maxHeartbeats 800000 in
theorem cOr (a : Option Addr) (cap : Nat) (zs : List Int) (w : World) (hz : Ints w a zs) (hl : zs.length ≤ 1048576) :
    Calls Try.prog 110 #[.slice a zs.length cap] w fun e w' => e = .returned (.int .i64 (orI zs)) ∧ w' = w := by
  generalize hr : orI zs = res
  have hr0 : Hid (orI (zs.drop 0) = res) := hr
  clear hr
  go_enter Try.func110, Try.ntmps110
  go_wp2
  go_loop [8] (fun i => ∃ k : Nat, k ≤ zs.length ∧ i = .int .i64 k ∧ Hid (orI (zs.drop k) = res)) (fun i => zs.length - (intOf i).toNat)
  case atStart => exact ⟨0, Nat.zero_le _, rfl, hr0⟩
  case round =>
    obtain ⟨k, hk, rfl, hres⟩ := hrel
    clear hr0
    by_cases hlt : k < zs.length
    · rcases hz with h | ⟨b, off, rfl, hc⟩
      · simp [h] at hlt
      have q0 := hc k hlt
      have e0 : zs.getD k 0 = zs[k] := by simp [List.getD, hlt]
      rw [e0] at q0
      have hd := hide ((orI_drop hlt).symm.trans hres.out)
      generalize zs[k] = y at *
      clear hc e0 hres
      by_cases hy : y = 0
      · have hf := hide (show orI (zs.drop (k + 1)) = res by rw [← hd.out, if_pos hy])
        clear hd
        subst hy
        go_wp2
        go_round
        case rel => exact ⟨k + 1, by omega, by go_num, hf⟩
        case measure => simp [intOf]; omega
      · have hf := hide (show res = y by rw [← hd.out, if_neg hy])
        clear hd
        go_wp2
        go_ret
        exact ⟨ret_int hf.out.symm, rfl⟩
    · obtain rfl : k = zs.length := by omega
      have hf := hide (show res = 0 by rw [← hres.out, List.drop_length]; rfl)
      clear hz
      go_wp2
      go_ret
      exact ⟨ret_int hf.out.symm, rfl⟩

/-- Three cells of a box. -/
def Bx3p (w : World) (b : Nat) (c0 c1 c2 : Value) : Prop := w.cell? ⟨b, 0, none⟩ = some c0 ∧ w.cell? ⟨b, 1, none⟩ = some c1 ∧ w.cell? ⟨b, 2, none⟩ = some c2
theorem Bx3p.below {w w1 : World} {b : Nat} {c0 c1 c2 : Value} (h : Bx3p w b c0 c1 c2) (hb : Below w.heap.size w w1) : Bx3p w1 b c0 c1 c2 := ⟨ble hb h.1, ble hb h.2.1, ble hb h.2.2⟩
theorem Bx3p.new (w : World) (c0 c1 c2 : Value) (t : TypeId) : Bx3p (w.alloc (.cells #[c0, c1, c2] t)) w.heap.size c0 c1 c2 := ⟨by simp, by simp, by simp⟩
theorem Bx3p.new1 (w : World) (o : Obj) (c0 c1 c2 : Value) (t : TypeId) : Bx3p ((w.alloc o).alloc (.cells #[c0, c1, c2] t)) (w.heap.size + 1) c0 c1 c2 := by
  have h := Bx3p.new (w.alloc o) c0 c1 c2 t
  rwa [sz1] at h
theorem ints3 (w : World) (x y z : Int) (t : TypeId) : Ints (w.alloc (.cells #[.int .i64 x, .int .i64 y, .int .i64 z] t)) (some ⟨w.heap.size, 0, none⟩) [x, y, z] := by
  refine .inr ⟨w.heap.size, 0, rfl, fun i hi => ?_⟩
  match i, hi with
  | 0, _ => simp
  | 1, _ => simp
  | 2, _ => simp

theorem cOr3 (v : World) (x y z : Int) (t : TypeId) :
    Calls Try.prog 110 #[.slice (some ⟨v.heap.size, 0, none⟩) 3 3] (v.alloc (.cells #[.int .i64 x, .int .i64 y, .int .i64 z] t)).drew fun e w' => e = .returned (.int .i64 (orI [x, y, z])) ∧ w' = (v.alloc (.cells #[.int .i64 x, .int .i64 y, .int .i64 z] t)).drew :=
  cOr _ 3 [x, y, z] _ (show Ints _ _ _ from ints3 v x y z t) (by simp)

/-- Places as numbers. -/
def nI (ps : List Nat) : List Int := ps.map (fun k : Nat => (k : Int))
theorem nI_len (ps : List Nat) : (nI ps).length = ps.length := by simp [nI]
theorem nI_get {ps : List Nat} {k : Nat} (h : k < ps.length) : (nI ps).getD k 0 = (ps[k] : Int) := by simp [nI, List.getD, h]
def lexI : List Nat → List Nat → Int
  | [], [] => 0
  | [], _ :: _ => -1
  | _ :: _, [] => 1
  | p :: ps, q :: qs => if cmpI (p : Int) (q : Int) = 0 then lexI ps qs else cmpI (p : Int) (q : Int)
theorem lexI_neg : ∀ ps qs : List Nat, ps.length = qs.length → (lexI ps qs < 0 ↔ ¬ LL qs ps)
  | [], [], _ => by simp [lexI, LL]
  | p :: ps, q :: qs, h => by
    have ih := lexI_neg ps qs (by simpa using h)
    unfold lexI LL
    rcases cmpI_cases (p : Int) (q : Int) with ⟨h1, e⟩ | ⟨h1, e⟩ | ⟨h1, e⟩
    · rw [e]; simp; omega
    · rw [e]; simp [ih]
      constructor
      · intro g; exact ⟨by omega, fun _ => g⟩
      · rintro ⟨-, g⟩; exact g (by omega)
    · rw [e]; simp; omega
def cmpT (t u : TrialV) : Int := orI [cmpI t.len u.len, cmpI (t.way.length : Int) (u.way.length : Int), lexI t.way u.way]
theorem cmpT_neg (t u : TrialV) : cmpT t u < 0 ↔ ¬ Kle u.len u.way t.len t.way := by
  unfold cmpT Kle orI orI orI orI
  rcases cmpI_cases t.len u.len with ⟨h1, e1⟩ | ⟨h1, e1⟩ | ⟨h1, e1⟩
  · simp [e1]; omega
  · rcases cmpI_cases (t.way.length : Int) (u.way.length : Int) with ⟨h2, e2⟩ | ⟨h2, e2⟩ | ⟨h2, e2⟩
    · simp [e1, e2]; omega
    · have := lexI_neg t.way u.way (by omega)
      by_cases h3 : lexI t.way u.way = 0
      · rw [h3] at this
        simp only [e1, e2, h3, if_true]
        constructor
        · intro g; omega
        · intro g
          exfalso
          have h4 : LL u.way t.way := by
            by_cases q : LL u.way t.way
            · exact q
            · have := this.2 q; omega
          exact g (.inr ⟨by omega, .inr ⟨by omega, h4⟩⟩)
      · simp only [e1, e2, h3, if_true, if_false]
        rw [this]
        constructor
        · rintro g (h | ⟨-, h | ⟨-, h⟩⟩)
          · omega
          · omega
          · exact g h
        · intro g h
          exact g (.inr ⟨by omega, .inr ⟨by omega, h⟩⟩)
    · simp [e1, e2]; omega
  · simp [e1]; omega
set_option maxHeartbeats 1600000 in
theorem cSlCmp (a b : Option Addr) (ca cb : Nat) (ps qs : List Nat) (w : World) (ha : Ints w a (nI ps)) (hb : Ints w b (nI qs)) (hl : ps.length ≤ 1048576) :
    Calls Try.prog 112 #[.slice a ps.length ca, .slice b qs.length cb] w fun e w' => e = .returned (.int .i64 (lexI ps qs)) ∧ w' = w := by
  generalize hr : lexI ps qs = res
  have hr0 : Hid (lexI (ps.drop 0) (qs.drop 0) = res) := hide hr
  clear hr
  go_enter Try.func112, Try.ntmps112
  go_wp2
  go_loop [11] (fun i => ∃ k : Nat, k ≤ ps.length ∧ k ≤ qs.length ∧ i = .int .i64 k ∧ Hid (lexI (ps.drop k) (qs.drop k) = res)) (fun i => ps.length - (intOf i).toNat)
  case atStart => exact ⟨0, Nat.zero_le _, Nat.zero_le _, rfl, hr0⟩
  case round =>
    obtain ⟨k, hk, hk2, rfl, hres⟩ := hrel
    clear hr0
    by_cases hlt : k < ps.length
    · have hlt' : (k : Int) < (ps.length : Int) := by omega
      rcases ha with h | ⟨b1, o1, rfl, hc1⟩
      · exact absurd (nI_len ps) (by rw [h]; simp; omega)
      have f1 := hc1 k (by rw [nI_len]; exact hlt)
      rw [nI_get hlt] at f1
      by_cases hlt2 : k < qs.length
      · have hlt2' : (k : Int) < (qs.length : Int) := by omega
        rcases hb with h | ⟨b2, o2, rfl, hc2⟩
        · exact absurd (nI_len qs) (by rw [h]; simp; omega)
        have f2 := hc2 k (by rw [nI_len]; exact hlt2)
        rw [nI_get hlt2] at f2
        have hstep := hres.out
        rw [List.drop_eq_getElem_cons hlt, List.drop_eq_getElem_cons hlt2, lexI] at hstep
        replace hstep := hide hstep
        generalize ps[k] = x at *
        generalize qs[k] = y at *
        clear hc1 hc2 hres
        go_wp2_with fail
        refine (cCompare (x : Int) (y : Int) _).mono ?_
        rintro e w1 ⟨rfl, hw⟩
        subst w1
        by_cases hc : cmpI (x : Int) (y : Int) = 0
        · have hn := hstep.out
          rw [if_pos hc] at hn
          replace hn := hide hn
          rw [hc]
          clear hstep
          go_wp2
          go_round
          case rel => exact ⟨k + 1, by omega, by omega, by go_num, hn⟩
          case measure => simp [intOf]; omega
        · have hn := hstep.out
          rw [if_neg hc] at hn
          generalize cmpI (x : Int) (y : Int) = z at *
          replace hn := hide hn
          clear hstep
          have hz : ¬ z = 0 := hc
          go_wp2
          go_ret
          exact ⟨ret_int hn.out, rfl⟩
      · have hd : qs.drop k = [] := List.drop_eq_nil_of_le (by omega)
        have hn := hres.out
        rw [hd, List.drop_eq_getElem_cons hlt, lexI] at hn
        replace hn := hide hn
        have hge : (qs.length : Int) ≤ (k : Int) := by omega
        clear hres hc1 hb hd
        generalize ps[k] = x at *
        go_wp2
        go_ret
        exact ⟨ret_int hn.out, rfl⟩
    · obtain rfl : k = ps.length := by omega
      have hn := hres.out
      rw [List.drop_length] at hn
      clear hres ha hb
      by_cases hlt2 : ps.length < qs.length
      · have hlt2' : (ps.length : Int) < (qs.length : Int) := by omega
        rw [List.drop_eq_getElem_cons hlt2, lexI] at hn
        replace hn := hide hn
        go_wp2
        go_ret
        exact ⟨ret_int hn.out, rfl⟩
      · have hge : (qs.length : Int) ≤ (ps.length : Int) := by omega
        rw [List.drop_eq_nil_of_le (by omega), lexI] at hn
        replace hn := hide hn
        go_wp2
        go_ret
        exact ⟨ret_int hn.out, rfl⟩
/-- A trial, and where its way lies. -/
structure PT where
  t : TrialV
  a : Option Addr
  c : Nat
def PT.val (p : PT) : Value := .agg #[.int .i64 p.t.at_, .int .i64 p.t.len, .slice p.a p.t.way.length p.c]
set_option maxHeartbeats 1600000 in
theorem cCmpT (p q : PT) (w : World) (hp : Ints w p.a (nI p.t.way)) (hq : Ints w q.a (nI q.t.way)) (hl : p.t.way.length ≤ 1048576) (hl2 : q.t.way.length ≤ 1048576) :
    Calls Try.prog 105 #[p.val, q.val] w fun e w' => e = .returned (.int .i64 (cmpT p.t q.t)) ∧ Below w.heap.size w w' := by
  obtain ⟨⟨pm, pk, pp⟩, pa, pc⟩ := p
  obtain ⟨⟨qm, qk, qp⟩, qa, qc⟩ := q
  unfold PT.val
  dsimp only at *
  have hP : Hid (cmpT ⟨pm, pk, pp⟩ ⟨qm, qk, qp⟩ = orI [cmpI pk qk, cmpI (pp.length : Int) (qp.length : Int), lexI pp qp]) := rfl
  generalize cmpT ⟨pm, pk, pp⟩ ⟨qm, qk, qp⟩ = R at *
  have hb1 := btrans (balloc w (.cells #[.int .i64 pm, .int .i64 pk, .slice pa pp.length pc] 59)) (balloc _ (.cells #[.int .i64 qm, .int .i64 qk, .slice qa qp.length qc] 59))
  go_enter Try.func105, Try.ntmps105
  have B0 := (Bx3p.new w (.int .i64 pm) (.int .i64 pk) (.slice pa pp.length pc) 59).below (balloc _ (.cells #[.int .i64 qm, .int .i64 qk, .slice qa qp.length qc] 59))
  have B1 := Bx3p.new1 w (.cells #[.int .i64 pm, .int .i64 pk, .slice pa pp.length pc] 59) (.int .i64 qm) (.int .i64 qk) (.slice qa qp.length qc) 59
  go_wp2
  generalize (w.alloc (.cells #[.int .i64 pm, .int .i64 pk, .slice pa pp.length pc] 59)).alloc (.cells #[.int .i64 qm, .int .i64 qk, .slice qa qp.length qc] 59) = v at *
  have hpd : Ints v.drew pa (nI pp) := hp.below (bdraw hb1 1)
  have hqd : Ints v.drew qa (nI qp) := hq.below (bdraw hb1 1)
  obtain ⟨p0, p1, p2⟩ := B0
  obtain ⟨q0, q1, q2⟩ := B1
  go_region_held3 (fun w' => w'.cell? ⟨w.heap.size, 1, none⟩ = some (.int .i64 pk) ∧ w'.cell? ⟨w.heap.size, 2, none⟩ = some (.slice pa pp.length pc) ∧ w'.cell? ⟨w.heap.size + 1, 1, none⟩ = some (.int .i64 qk) ∧ w'.cell? ⟨w.heap.size + 1, 2, none⟩ = some (.slice qa qp.length qc)) (go_keep) (first
    | (go_at_call 111; with_reducible refine (cCompare _ _ _).mono ?_; rintro e w' ⟨rfl, hw⟩; subst hw)
    | (go_at_call 112; with_reducible refine (cSlCmp _ _ _ _ _ _ _ hpd hqd hl).mono ?_; rintro e w' ⟨rfl, hw⟩; subst hw)
    | (go_at_call 110; with_reducible refine (cOr3 _ _ _ _ _).mono ?_; rintro e w' ⟨rfl, hw⟩; subst hw))
  go_wp2
  go_ret
  refine ⟨ret_int hP.out.symm, ?_⟩
  exact bdraw (btrans hb1 (balloc _ _)) 1
end Go.Proofs.Ytdjambejppanoaa
