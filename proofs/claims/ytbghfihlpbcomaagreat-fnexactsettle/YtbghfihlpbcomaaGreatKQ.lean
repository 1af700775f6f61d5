/- Slices of uses that know their place. -/
import Derived.Test.YtbghfihlpbcomaaGreatSU
import Derived.Test.YtbghfihlpbcomaaGreatMD
import Derived.Deep.RegionWith
import Derived.Test.YtbghfihlpbcomaaGreatWA
import Derived.Deep.RegionHeld3
import Derived.Lib.AppendZerosOnto
import Derived.Maps.AppendAt
import Derived.Lib.Overlaps
import Derived.Laws.CopyRow
import Derived.Laws.IdiomCopy
import Derived.Laws.CopyOwn
import Derived.Laws.NewBlocks
import Derived.Deep.RegionLaw
import Derived.Lib.SliceRun
import Derived.Laws.Externs
namespace Go.Proofs.YtbghfihlpbcomaaGreat
open Go.RowKit
def PlV.cs (x : PlV) : List Value := [.int .i64 x.u.e, .int .i64 x.u.d, .int .i64 x.u.f, .int .i64 x.u.t, .int .i64 x.u.p, .int .i64 x.k]
def flatPls (es : List PlV) : List Value := es.flatMap PlV.cs
theorem flatPls_cons (x : PlV) (es : List PlV) : flatPls (x :: es) = .int .i64 x.u.e :: .int .i64 x.u.d :: .int .i64 x.u.f :: .int .i64 x.u.t :: .int .i64 x.u.p :: .int .i64 x.k :: flatPls es := rfl
theorem flatPls_len (es : List PlV) : (flatPls es).length = es.length * 6 := by
  induction es with
  | nil => rfl
  | cons e es ih => rw [flatPls_cons]; simp only [List.length_cons, ih]; omega
theorem flatPls_app (xs ys : List PlV) : flatPls (xs ++ ys) = flatPls xs ++ flatPls ys := by simp [flatPls]
def PlAt (w : World) (b o : Nat) (x : PlV) : Prop := w.cell? ⟨b, o, none⟩ = some (.int .i64 x.u.e) ∧ w.cell? ⟨b, o + 1, none⟩ = some (.int .i64 x.u.d) ∧ w.cell? ⟨b, o + 2, none⟩ = some (.int .i64 x.u.f) ∧ w.cell? ⟨b, o + 3, none⟩ = some (.int .i64 x.u.t) ∧ w.cell? ⟨b, o + 4, none⟩ = some (.int .i64 x.u.p) ∧ w.cell? ⟨b, o + 5, none⟩ = some (.int .i64 x.k)
theorem PlAt.below {w w' : World} {b o : Nat} {x : PlV} (h : PlAt w b o x) (hb : Below w.heap.size w w') : PlAt w' b o x := ⟨ble hb h.1, ble hb h.2.1, ble hb h.2.2.1, ble hb h.2.2.2.1, ble hb h.2.2.2.2.1, ble hb h.2.2.2.2.2⟩
theorem flatPls_get (es : List PlV) : ∀ i, i < es.length → (flatPls es)[i * 6]? = some (.int .i64 (es.getD i PlV.zero).u.e) ∧ (flatPls es)[i * 6 + 1]? = some (.int .i64 (es.getD i PlV.zero).u.d) ∧ (flatPls es)[i * 6 + 2]? = some (.int .i64 (es.getD i PlV.zero).u.f) ∧ (flatPls es)[i * 6 + 3]? = some (.int .i64 (es.getD i PlV.zero).u.t) ∧ (flatPls es)[i * 6 + 4]? = some (.int .i64 (es.getD i PlV.zero).u.p) ∧ (flatPls es)[i * 6 + 5]? = some (.int .i64 (es.getD i PlV.zero).k) := by
  induction es with
  | nil => intro i hi; simp at hi
  | cons e es ih =>
    intro i hi
    rw [flatPls_cons]
    cases i with
    | zero => simp
    | succ i =>
      have h := ih i (by simpa using hi)
      have e1 : (i + 1) * 6 = i * 6 + 1 + 1 + 1 + 1 + 1 + 1 := by omega
      rw [e1]
      simpa using h
/-- The cells behind a slice's address hold the placed uses es. -/
def Pls (w : World) (a : Option Addr) (es : List PlV) : Prop :=
  es = [] ∨ ∃ b off, a = some ⟨b, off, none⟩ ∧ ∀ i, i < es.length → PlAt w b (off + i * 6) (es.getD i PlV.zero)
theorem Pls.below {w w' : World} {a : Option Addr} {es : List PlV} (h : Pls w a es) (hb : Below w.heap.size w w') : Pls w' a es := by
  rcases h with h | ⟨b, off, ha, hc⟩
  · exact .inl h
  · exact .inr ⟨b, off, ha, fun i hi => (hc i hi).below hb⟩
theorem Pls.of_owns {w : World} {base g n cap : Nat} {es : List PlV} (h : w.ownsRow base 131 6 (.slice (some ⟨g, 0, none⟩) n cap) n (flatPls es)) : Pls w (some ⟨g, 0, none⟩) es := by
  refine .inr ⟨g, 0, rfl, fun i hi => ?_⟩
  have hl := h.1
  rw [flatPls_len] at hl
  obtain ⟨f0, f1, f2, f3, f4, f5⟩ := flatPls_get es i hi
  rw [Nat.zero_add]
  refine ⟨?_, ?_, ?_, ?_, ?_, ?_⟩
  · rw [h.cellAt _ (by omega)]; exact f0
  · rw [h.cellAt _ (by omega)]; exact f1
  · rw [h.cellAt _ (by omega)]; exact f2
  · rw [h.cellAt _ (by omega)]; exact f3
  · rw [h.cellAt _ (by omega)]; exact f4
  · rw [h.cellAt _ (by omega)]; exact f5
theorem Pls.own {w : World} {base n c : Nat} {a : Option Addr} {es : List PlV} (h : w.ownsRow base 131 6 (.slice a n c) n (flatPls es)) : Pls w a es := by
  rcases h.2 with ⟨_, h0⟩ | ⟨g, cap', cur, he, _⟩
  · left
    have hl := h.1
    rw [flatPls_len, h0] at hl
    exact List.length_eq_zero_iff.1 (by omega)
  · simp only [Value.slice.injEq] at he
    obtain ⟨rfl, _, rfl⟩ := he
    exact Pls.of_owns h
theorem infoPls : (Tryz.prog.info? 131).map (fun i => (i.zero, i.size, i.bytes)) = some (some (.agg #[.int .i64 0, .int .i64 0, .int .i64 0, .int .i64 0, .int .i64 0, .int .i64 0]), 6, 48) := by kernel_rfl
end Go.Proofs.YtbghfihlpbcomaaGreat

/- Comparing: cmp.Compare, cmp.Or, placed uses, couples. -/
namespace Go.Proofs.YtbghfihlpbcomaaGreat
open Go.RowKit
def Ints (w : World) (a : Option Addr) (zs : List Int) : Prop := zs = [] ∨ ∃ b off, a = some ⟨b, off, none⟩ ∧ ∀ i, i < zs.length → w.cell? ⟨b, off + i, none⟩ = some (.int .i64 (zs.getD i 0))
def orI : List Int → Int
  | [] => 0
  | z :: zs => if z = 0 then orI zs else z
theorem or2 (x y : Int) : orI [x, y] = if x = 0 then y else x := by
  unfold orI orI orI
  split
  · split
    · next h => exact h.symm
    · rfl
  · rfl
theorem cmpI_cases (x y : Int) : (x < y ∧ cmpI x y = -1) ∨ (x = y ∧ cmpI x y = 0) ∨ (y < x ∧ cmpI x y = 1) := by
  unfold cmpI; split
  · left; omega
  · split
    · right; right; omega
    · right; left; omega
set_option maxHeartbeats 400000 in
theorem cNaN (x : Int) (w : World) : Calls Tryz.prog 115 #[.int .i64 x] w fun e w' => e = .returned (.bool false) ∧ w' = w := by
  go_enter Tryz.func115, Tryz.ntmps115
  go_wp2
  go_ret
  exact ⟨by simp, rfl⟩

set_option maxHeartbeats 800000 in
theorem cCompare (x y : Int) (w : World) : Calls Tryz.prog 106 #[.int .i64 x, .int .i64 y] w fun e w' => e = .returned (.int .i64 (cmpI x y)) ∧ w' = w := by
  rcases cmpI_cases x y with ⟨h1, e1⟩ | ⟨h1, e1⟩ | ⟨h1, e1⟩ <;> rw [e1] <;> clear e1
  · go_enter Tryz.func106, Tryz.ntmps106
    go_wp2_with (go_at_call 115; refine (cNaN _ _).mono ?_; rintro e w' ⟨rfl, rfl⟩)
    go_ret
    exact ⟨rfl, rfl⟩
  · subst h1
    go_enter Tryz.func106, Tryz.ntmps106
    go_wp2_with (go_at_call 115; refine (cNaN _ _).mono ?_; rintro e w' ⟨rfl, rfl⟩)
    go_ret
    exact ⟨rfl, rfl⟩
  · have h2 : ¬ x < y := by omega
    go_enter Tryz.func106, Tryz.ntmps106
    go_wp2_with (go_at_call 115; refine (cNaN _ _).mono ?_; rintro e w' ⟨rfl, rfl⟩)
    go_ret
    exact ⟨rfl, rfl⟩

theorem orI_drop {zs : List Int} {k : Nat} (hk : k < zs.length) : orI (zs.drop k) = if zs[k] = 0 then orI (zs.drop (k + 1)) else zs[k] := by
  rw [List.drop_eq_getElem_cons hk]; rfl

set_option maxHeartbeats 800000 in
theorem cOr (a : Option Addr) (cap : Nat) (zs : List Int) (w : World) (hz : Ints w a zs) (hl : zs.length ≤ 1048576) :
    Calls Tryz.prog 105 #[.slice a zs.length cap] w fun e w' => e = .returned (.int .i64 (orI zs)) ∧ w' = w := by
  generalize hr : orI zs = res
  have hr0 : Hid (orI (zs.drop 0) = res) := hr
  clear hr
  go_enter Tryz.func105, Tryz.ntmps105
  go_wp2
  go_loop [8] (fun i => ∃ k : Nat, k ≤ zs.length ∧ i = .int .i64 k ∧ Hid (orI (zs.drop k) = res)) (fun i => zs.length - (intOf i).toNat)
  case atStart => exact ⟨0, Nat.zero_le _, rfl, hr0⟩
  case round =>
    obtain ⟨k, hk, rfl, hres⟩ := hrel
    clear hr0
    by_cases hlt : k < zs.length
    · rcases hz with h | ⟨b, off, rfl, hc⟩
      · simp [h] at hlt
      have q0 := hc k hlt
      have e0 : zs.getD k 0 = zs[k] := by simp [List.getD, hlt]
      rw [e0] at q0
      have hd := hide ((orI_drop hlt).symm.trans hres.out)
      generalize zs[k] = y at *
      clear hc e0 hres
      by_cases hy : y = 0
      · have hf := hide (show orI (zs.drop (k + 1)) = res by rw [← hd.out, if_pos hy])
        clear hd
        subst hy
        go_wp2
        go_round
        case rel => exact ⟨k + 1, by omega, by go_num, hf⟩
        case measure => simp [intOf]; omega
      · have hf := hide (show res = y by rw [← hd.out, if_neg hy])
        clear hd
        go_wp2
        go_ret
        exact ⟨ret_int hf.out.symm, rfl⟩
    · obtain rfl : k = zs.length := by omega
      have hf := hide (show res = 0 by rw [← hres.out, List.drop_length]; rfl)
      clear hz
      go_wp2
      go_ret
      exact ⟨ret_int hf.out.symm, rfl⟩


theorem ints2 (w : World) (x y : Int) (t : TypeId) : Ints (w.alloc (.cells #[.int .i64 x, .int .i64 y] t)) (some ⟨w.heap.size, 0, none⟩) [x, y] := by
  refine .inr ⟨w.heap.size, 0, rfl, fun i hi => ?_⟩
  match i, hi with
  | 0, _ => simp
  | 1, _ => simp
theorem cOr2 (v : World) (x y : Int) (t : TypeId) :
    Calls Tryz.prog 105 #[.slice (some ⟨v.heap.size, 0, none⟩) 2 2] (v.alloc (.cells #[.int .i64 x, .int .i64 y] t)).drew fun e w' => e = .returned (.int .i64 (orI [x, y])) ∧ w' = (v.alloc (.cells #[.int .i64 x, .int .i64 y] t)).drew :=
  cOr _ 2 [x, y] _ (show Ints _ _ _ from ints2 v x y t) (by simp)
def Bx6p (w : World) (b : Nat) (x : PlV) : Prop := PlAt w b 0 x
theorem Bx6p.below {w w1 : World} {b : Nat} {x : PlV} (h : Bx6p w b x) (hb : Below w.heap.size w w1) : Bx6p w1 b x := PlAt.below h hb
theorem Bx6p.new (w : World) (x : PlV) (t : TypeId) : Bx6p (w.alloc (.cells x.cs.toArray t)) w.heap.size x := ⟨by simp [PlV.cs], by simp [PlV.cs], by simp [PlV.cs], by simp [PlV.cs], by simp [PlV.cs], by simp [PlV.cs]⟩
theorem Bx6p.parts {w : World} {b : Nat} {x : PlV} (h : Bx6p w b x) : w.cell? ⟨b, 0, none⟩ = some (.int .i64 x.u.e) ∧ w.cell? ⟨b, 1, none⟩ = some (.int .i64 x.u.d) ∧ w.cell? ⟨b, 2, none⟩ = some (.int .i64 x.u.f) ∧ w.cell? ⟨b, 3, none⟩ = some (.int .i64 x.u.t) ∧ w.cell? ⟨b, 4, none⟩ = some (.int .i64 x.u.p) ∧ w.cell? ⟨b, 5, none⟩ = some (.int .i64 x.k) := by
  obtain ⟨h0, h1, h2, h3, h4, h5⟩ := h
  exact ⟨h0, by simpa using h1, by simpa using h2, by simpa using h3, by simpa using h4, by simpa using h5⟩
theorem Bx6p.new1 (w : World) (o : Obj) (x : PlV) (t : TypeId) : Bx6p ((w.alloc o).alloc (.cells x.cs.toArray t)) (w.heap.size + 1) x := by
  have h := Bx6p.new (w.alloc o) x t
  rwa [sz1] at h

set_option maxHeartbeats 1600000 in
theorem cCmpP (p q : PlV) (w : World) : Calls Tryz.prog 151 #[p.val, q.val] w fun e w' => e = .returned (.int .i64 (cmpP p q)) ∧ Below w.heap.size w w' := by
  have hP : Hid (cmpP p q = orI [cmpI p.u.f q.u.f, cmpI p.k q.k]) := hide ((or2 _ _).trans rfl).symm
  generalize cmpP p q = R at *
  have hb1 := btrans (balloc w (.cells p.cs.toArray 131)) (balloc _ (.cells q.cs.toArray 131))
  have B0 := ((Bx6p.new w p 131).below (balloc _ (.cells q.cs.toArray 131))).parts
  have B1 := (Bx6p.new1 w (.cells p.cs.toArray 131) q 131).parts
  obtain ⟨⟨pe, pd, pf, pt, pp⟩, pk⟩ := p
  obtain ⟨⟨qe, qd, qf, qt, qp⟩, qk⟩ := q
  unfold PlV.val PlV.cs at *
  dsimp only at *
  obtain ⟨-, -, p2, -, -, p5⟩ := B0
  obtain ⟨-, -, q2, -, -, q5⟩ := B1
  go_enter Tryz.func151, Tryz.ntmps151
  go_wp2
  generalize (w.alloc (.cells [.int .i64 pe, .int .i64 pd, .int .i64 pf, .int .i64 pt, .int .i64 pp, .int .i64 pk].toArray 131)).alloc (.cells [.int .i64 qe, .int .i64 qd, .int .i64 qf, .int .i64 qt, .int .i64 qp, .int .i64 qk].toArray 131) = v at *
  go_region_held3 (fun w' => w'.cell? ⟨w.heap.size, 2, none⟩ = some (.int .i64 pf) ∧ w'.cell? ⟨w.heap.size, 5, none⟩ = some (.int .i64 pk) ∧ w'.cell? ⟨w.heap.size + 1, 2, none⟩ = some (.int .i64 qf) ∧ w'.cell? ⟨w.heap.size + 1, 5, none⟩ = some (.int .i64 qk)) (go_keep) (first
    | (go_at_call 106; with_reducible refine (cCompare _ _ _).mono ?_; rintro e w' ⟨rfl, hw⟩; subst hw)
    | (go_at_call 105; with_reducible refine (cOr2 _ _ _ _).mono ?_; rintro e w' ⟨rfl, hw⟩; subst hw))
  go_wp2
  go_ret
  refine ⟨ret_int hP.out.symm, ?_⟩
  exact bdraw (btrans hb1 (balloc _ _)) 1

/-- How two couples compare. -/
def cmpC (i j i' j' : Int) : Int := if cmpI i i' = 0 then cmpI j j' else cmpI i i'
theorem cmpC_neg (i j i' j' : Int) : cmpC i j i' j' < 0 ↔ Ahead i j i' j' := by
  unfold cmpC Ahead
  rcases cmpI_cases i i' with ⟨h1, e1⟩ | ⟨h1, e1⟩ | ⟨h1, e1⟩ <;> rcases cmpI_cases j j' with ⟨h2, e2⟩ | ⟨h2, e2⟩ | ⟨h2, e2⟩ <;> simp [e1, e2] <;> omega
set_option maxHeartbeats 1600000 in
theorem cCmpC (i j i' j' : Int) (w : World) : Calls Tryz.prog 90 #[.agg #[.int .i64 i, .int .i64 j], .agg #[.int .i64 i', .int .i64 j']] w fun e w' => e = .returned (.int .i64 (cmpC i j i' j')) ∧ Below w.heap.size w w' := by
  have hP : Hid (cmpC i j i' j' = orI [cmpI i i', cmpI j j']) := hide ((or2 _ _).trans rfl).symm
  generalize cmpC i j i' j' = R at *
  have hb1 := btrans (balloc w (.cells #[.int .i64 i, .int .i64 j] 100)) (balloc _ (.cells #[.int .i64 i', .int .i64 j'] 100))
  have B0 := blk_keep (balloc _ (.cells #[.int .i64 i', .int .i64 j'] 100)) (one_block w (.cells #[.int .i64 i, .int .i64 j] 100))
  have B1 := one_block (w.alloc (.cells #[.int .i64 i, .int .i64 j] 100)) (.cells #[.int .i64 i', .int .i64 j'] 100)
  rw [sz1] at B1
  obtain ⟨⟨p0, p1⟩, -⟩ := blk2 B0
  obtain ⟨⟨q0, q1⟩, -⟩ := blk2 B1
  clear B0 B1
  go_enter Tryz.func90, Tryz.ntmps90
  go_wp2
  generalize (w.alloc (.cells #[.int .i64 i, .int .i64 j] 100)).alloc (.cells #[.int .i64 i', .int .i64 j'] 100) = v at *
  go_region_held3 (fun w' => w'.cell? ⟨w.heap.size, 0, none⟩ = some (.int .i64 i) ∧ w'.cell? ⟨w.heap.size, 1, none⟩ = some (.int .i64 j) ∧ w'.cell? ⟨w.heap.size + 1, 0, none⟩ = some (.int .i64 i') ∧ w'.cell? ⟨w.heap.size + 1, 1, none⟩ = some (.int .i64 j')) (go_keep) (first
    | (go_at_call 106; with_reducible refine (cCompare _ _ _).mono ?_; rintro e w' ⟨rfl, hw⟩; subst hw)
    | (go_at_call 105; with_reducible refine (cOr2 _ _ _ _).mono ?_; rintro e w' ⟨rfl, hw⟩; subst hw))
  go_wp2
  go_ret
  refine ⟨ret_int hP.out.symm, ?_⟩
  exact bdraw (btrans hb1 (balloc _ _)) 1
end Go.Proofs.YtbghfihlpbcomaaGreat

/- Ranks of placed uses: comparing through an interface, the search. -/
namespace Go.Proofs.YtbghfihlpbcomaaGreat
open Go.RowKit

set_option maxHeartbeats 800000 in
theorem cLess (p q : PlV) (w : World) : Calls Tryz.prog 102 #[p.val, q.val] w fun e w' => e = .returned (.int .i64 (cmpP p q)) ∧ Below w.heap.size w w' := by
  have CC := cCmpP p q
  have hb1 := btrans (balloc w (.cells p.cs.toArray 131)) (balloc _ (.cells q.cs.toArray 131))
  obtain ⟨⟨pe, pd, pf, pt, pp⟩, pk⟩ := p
  obtain ⟨⟨qe, qd, qf, qt, qp⟩, qk⟩ := q
  unfold PlV.val PlV.cs at *
  dsimp only at *
  have hm : ∀ w, (method 294 131 (.agg #[.int .i64 pe, .int .i64 pd, .int .i64 pf, .int .i64 pt, .int .i64 pp, .int .i64 pk]) "loop.example/g00075/impl.compare").run Tryz.prog w = .ok (151, .agg #[.int .i64 pe, .int .i64 pd, .int .i64 pf, .int .i64 pt, .int .i64 pp, .int .i64 pk]) w := fun _ => by kernel_rfl
  go_enter Tryz.func102, Tryz.ntmps102
  go_wp2_with fail
  refine (CC _).mono ?_
  rintro e w1 ⟨rfl, hb⟩
  replace hb1 := btrans hb1 hb
  go_wp2
  go_ret
  exact ⟨rfl, hb1⟩

theorem pair_get {es : List PlV} (hs : es.Pairwise Les) {i j : Nat} (hij : i < j) (hj : j < es.length) : Les (es.getD i PlV.zero) (es.getD j PlV.zero) := by
  have := List.pairwise_iff_getElem.1 hs i j (by omega) hj hij
  simpa [List.getD, hj, show i < es.length by omega] using this
/-- What the middle of the search tells. -/
def MidStep (es : List PlV) (t : PlV) (lo hi m : Nat) (y : PlV) : Prop :=
  (Les y t → ∀ i, i < m + 1 → Les (es.getD i PlV.zero) t) ∧ (¬ Les y t → ∀ i, m ≤ i → i < es.length → ¬ Les (es.getD i PlV.zero) t) ∧ (∀ i, i < lo → Les (es.getD i PlV.zero) t) ∧ (∀ i, hi ≤ i → i < es.length → ¬ Les (es.getD i PlV.zero) t)
theorem mid_step {es : List PlV} {t : PlV} {lo hi m : Nat} (hs : es.Pairwise Les) (hm : m < es.length) (hA : ∀ i, i < lo → Les (es.getD i PlV.zero) t) (hZ : ∀ i, hi ≤ i → i < es.length → ¬ Les (es.getD i PlV.zero) t) : MidStep es t lo hi m (es.getD m PlV.zero) := by
  refine ⟨fun h i hi => ?_, fun h i hi hl g => h ?_, hA, hZ⟩
  · by_cases e : i = m
    · subst e; exact h
    · exact (pair_get hs (by omega) hm).trans h
  · by_cases e : i = m
    · subst e; exact g
    · exact (pair_get hs (by omega) hl).trans g
theorem PlAt.parts {w : World} {b o : Nat} {x : PlV} (h : PlAt w b o x) : w.cell? ⟨b, o, none⟩ = some (.int .i64 x.u.e) ∧ w.cell? ⟨b, o + 1, none⟩ = some (.int .i64 x.u.d) ∧ w.cell? ⟨b, o + 2, none⟩ = some (.int .i64 x.u.f) ∧ w.cell? ⟨b, o + 3, none⟩ = some (.int .i64 x.u.t) ∧ w.cell? ⟨b, o + 4, none⟩ = some (.int .i64 x.u.p) ∧ w.cell? ⟨b, o + 5, none⟩ = some (.int .i64 x.k) := h

set_option maxRecDepth 20000 in
set_option maxHeartbeats 3200000 in
theorem cSearch (a : Option Addr) (cap : Nat) (es : List PlV) (t : PlV) (w : World) (hz : Pls w a es) (hs : es.Pairwise Les) (hl : es.length ≤ 1000) :
    Calls Tryz.prog 101 #[.slice a es.length cap, t.val, .func (.func 102) #[] #[]] w fun e w' => ∃ p : Nat, ∃ b : Bool, e = .returned (.tuple #[.int .i64 p, .bool b]) ∧ p ≤ es.length ∧ (∀ i, i < p → Les (es.getD i PlV.zero) t) ∧ (∀ i, p ≤ i → i < es.length → ¬ Les (es.getD i PlV.zero) t) ∧ Below w.heap.size w w' := by
  have CL := fun p => cLess p t
  have LT := fun p => hide (cmpP_neg (a := p) (b := t))
  have hW := balloc w (.cells t.cs.toArray 131)
  have hB := Bx6p.new w t 131
  replace hs := hide hs
  generalize hT : t = T0 at *
  obtain ⟨⟨te, td, tf, tt, tp⟩, tk⟩ := t
  unfold PlV.val PlV.cs at *
  subst hT
  dsimp only at *
  go_enter Tryz.func101, Tryz.ntmps101
  go_wp2
  go_loopw [9, 10] (fun x y wr => ∃ lo hi : Nat, x = .int .i64 lo ∧ y = .int .i64 hi ∧ lo ≤ hi ∧ hi ≤ es.length ∧ Hid (∀ i, i < lo → Les (es.getD i PlV.zero) ⟨⟨te, td, tf, tt, tp⟩, tk⟩) ∧ Hid (∀ i, hi ≤ i → i < es.length → ¬ Les (es.getD i PlV.zero) ⟨⟨te, td, tf, tt, tp⟩, tk⟩) ∧ Below w.heap.size w wr ∧ Bx6p wr w.heap.size ⟨⟨te, td, tf, tt, tp⟩, tk⟩) (fun x y _ => (intOf y).toNat - (intOf x).toNat)
  case atStart => exact ⟨0, es.length, rfl, rfl, Nat.zero_le _, Nat.le_refl _, hide (fun i h => by omega), hide (fun i h1 h2 => by omega), hW, hB⟩
  case round =>
    obtain ⟨lo, hi, rfl, rfl, hlh, hhi, hA, hZ, hb, hBx⟩ := hrel
    clear hW hB
    by_cases hlt : lo < hi
    · have hlt' : (lo : Int) < (hi : Int) := by omega
      obtain ⟨m, hm, hm1, hm2⟩ : ∃ m : Nat, ((lo : Int) + (hi : Int)) / 2 = (m : Int) ∧ lo ≤ m ∧ m < hi := ⟨(lo + hi) / 2, by omega, by omega, by omega⟩
      have hmn : m < es.length := by omega
      have hMid := hide (mid_step (t := ⟨⟨te, td, tf, tt, tp⟩, tk⟩) hs.out hmn hA.out hZ.out)
      rcases hz with h | ⟨b, off, rfl, hc⟩
      · simp [h] at hmn
      obtain ⟨q0, q1, q2, q3, q4, q5⟩ := (hc m hmn).parts
      replace q0 := ble hb q0
      replace q1 := ble hb q1
      replace q2 := ble hb q2
      replace q3 := ble hb q3
      replace q4 := ble hb q4
      replace q5 := ble hb q5
      obtain ⟨t0, t1, t2, t3, t4, t5⟩ := hBx.parts
      have CM := CL (es.getD m PlV.zero)
      have LM := LT (es.getD m PlV.zero)
      clear hc CL LT hA hZ
      generalize es.getD m PlV.zero = y at *
      obtain ⟨⟨ye, yd, yf, yt, yp⟩, yk⟩ := y
      dsimp only at *
      have hbs : b < wr.heap.size := cell_lt q0
      have hws : w.heap.size < wr.heap.size := cell_lt t0
      go_wp2
      clear hm
      go_region_held3 (fun w' => w'.cell? ⟨b, off + m * 6, none⟩ = some (.int .i64 ye) ∧ w'.cell? ⟨b, off + m * 6 + 1, none⟩ = some (.int .i64 yd) ∧ w'.cell? ⟨b, off + m * 6 + 2, none⟩ = some (.int .i64 yf) ∧ w'.cell? ⟨b, off + m * 6 + 3, none⟩ = some (.int .i64 yt) ∧ w'.cell? ⟨b, off + m * 6 + 4, none⟩ = some (.int .i64 yp) ∧ w'.cell? ⟨b, off + m * 6 + 5, none⟩ = some (.int .i64 yk) ∧ w'.cell? ⟨w.heap.size, 0, none⟩ = some (.int .i64 te) ∧ w'.cell? ⟨w.heap.size, 1, none⟩ = some (.int .i64 td) ∧ w'.cell? ⟨w.heap.size, 2, none⟩ = some (.int .i64 tf) ∧ w'.cell? ⟨w.heap.size, 3, none⟩ = some (.int .i64 tt) ∧ w'.cell? ⟨w.heap.size, 4, none⟩ = some (.int .i64 tp) ∧ w'.cell? ⟨w.heap.size, 5, none⟩ = some (.int .i64 tk)) (go_keep) (first
        | (go_at_call 102; with_reducible refine (CM _).mono ?_; rintro e w1 ⟨rfl, hb1⟩; replace hb1 := undrew hb1; have v0 := ble hb1 q0; have v1 := ble hb1 q1; have v2 := ble hb1 q2; have v3 := ble hb1 q3; have v4 := ble hb1 q4; have v5 := ble hb1 q5; have v6 := ble hb1 t0; have v7 := ble hb1 t1; have v8 := ble hb1 t2; have v9 := ble hb1 t3; have v10 := ble hb1 t4; have v11 := ble hb1 t5))
      have hb2 := btrans hb hb1
      have hB2 := hBx.below hb1
      by_cases hc : cmpP ⟨⟨ye, yd, yf, yt, yp⟩, yk⟩ ⟨⟨te, td, tf, tt, tp⟩, tk⟩ < 0
      · have hA2 := hide (hMid.out.1 (LM.out.1 hc))
        have hZ2 := hide hMid.out.2.2.2
        clear hMid LM hb hBx q0 t0 q1 t1 q2 t2 q3 t3 q4 t4 q5 t5 v0 v1 v2 v3 v4 v5 v6 v7 v8 v9 v10 v11 hb1
        go_wp2
        go_roundw
        case rel => exact ⟨m + 1, hi, by go_num, rfl, by omega, by omega, hA2, hZ2, hb2, hB2⟩
        case measure => simp [intOf]; omega
      · have hZ2 := hide (hMid.out.2.1 (fun h => hc (LM.out.2 h)))
        have hA2 := hide hMid.out.2.2.1
        clear hMid LM hb hBx q0 t0 q1 t1 q2 t2 q3 t3 q4 t4 q5 t5 v0 v1 v2 v3 v4 v5 v6 v7 v8 v9 v10 v11 hb1
        go_wp2
        go_roundw
        case rel => exact ⟨lo, m, rfl, by go_num, by omega, by omega, hA2, hZ2, hb2, hB2⟩
        case measure => simp [intOf]; omega
    · obtain rfl : lo = hi := by omega
      have hlt' : ¬ ((lo : Int) < (lo : Int)) := by omega
      by_cases hn : lo < es.length
      · have hn' : decide ((lo : Int) < (es.length : Int)) = true := by simp; omega
        rcases hz with h | ⟨b, off, rfl, hc⟩
        · simp [h] at hn
        obtain ⟨q0, q1, q2, q3, q4, q5⟩ := (hc lo hn).parts
        replace q0 := ble hb q0
        replace q1 := ble hb q1
        replace q2 := ble hb q2
        replace q3 := ble hb q3
        replace q4 := ble hb q4
        replace q5 := ble hb q5
        obtain ⟨t0, t1, t2, t3, t4, t5⟩ := hBx.parts
        have CM := CL (es.getD lo PlV.zero)
        clear hc CL LT
        generalize es.getD lo PlV.zero = y at CM q0 q1 q2 q3 q4 q5
        obtain ⟨⟨ye, yd, yf, yt, yp⟩, yk⟩ := y
        dsimp only at CM q0 q1 q2 q3 q4 q5
        have hbs : b < wr.heap.size := cell_lt q0
        have hws : w.heap.size < wr.heap.size := cell_lt t0
        go_wp2
        go_region_held3 (fun w' => w'.cell? ⟨b, off + lo * 6, none⟩ = some (.int .i64 ye) ∧ w'.cell? ⟨b, off + lo * 6 + 1, none⟩ = some (.int .i64 yd) ∧ w'.cell? ⟨b, off + lo * 6 + 2, none⟩ = some (.int .i64 yf) ∧ w'.cell? ⟨b, off + lo * 6 + 3, none⟩ = some (.int .i64 yt) ∧ w'.cell? ⟨b, off + lo * 6 + 4, none⟩ = some (.int .i64 yp) ∧ w'.cell? ⟨b, off + lo * 6 + 5, none⟩ = some (.int .i64 yk) ∧ w'.cell? ⟨w.heap.size, 0, none⟩ = some (.int .i64 te) ∧ w'.cell? ⟨w.heap.size, 1, none⟩ = some (.int .i64 td) ∧ w'.cell? ⟨w.heap.size, 2, none⟩ = some (.int .i64 tf) ∧ w'.cell? ⟨w.heap.size, 3, none⟩ = some (.int .i64 tt) ∧ w'.cell? ⟨w.heap.size, 4, none⟩ = some (.int .i64 tp) ∧ w'.cell? ⟨w.heap.size, 5, none⟩ = some (.int .i64 tk)) (go_keep) (first
        | (go_at_call 102; with_reducible refine (CM _).mono ?_; rintro e w1 ⟨rfl, hb1⟩; replace hb1 := undrew hb1; have v0 := ble hb1 q0; have v1 := ble hb1 q1; have v2 := ble hb1 q2; have v3 := ble hb1 q3; have v4 := ble hb1 q4; have v5 := ble hb1 q5; have v6 := ble hb1 t0; have v7 := ble hb1 t1; have v8 := ble hb1 t2; have v9 := ble hb1 t3; have v10 := ble hb1 t4; have v11 := ble hb1 t5))
        have hb2 := btrans hb hb1
        go_wp2
        go_ret2
        exact ⟨lo, _, rfl, hhi, hA.out, hZ.out, hb2⟩
      · have hn' : decide ((lo : Int) < (es.length : Int)) = false := by simp; omega
        clear hz CL LT
        go_wp2
        go_quiet (fail)
        go_wp2
        go_ret2
        exact ⟨lo, _, rfl, hhi, hA.out, hZ.out, bdraw hb _⟩
end Go.Proofs.YtbghfihlpbcomaaGreat

/- Inserting a placed use into a row. -/
namespace Go.Proofs.YtbghfihlpbcomaaGreat
open Go.RowKit Go.Lib

theorem shift_row {α : Type} (cur vs : List α) (A L s : Nat) (hv : vs.length = s) (hA : A ≤ L) (hL : L + s ≤ cur.length) :
    let c1 := cur.take (A + s) ++ (cur.take L).drop A ++ cur.drop (A + s + ((cur.take L).drop A).length)
    let c2 := c1.take A ++ vs ++ c1.drop (A + vs.length)
    c2.length = cur.length ∧ c2.take (L + s) = (cur.take L).take A ++ vs ++ (cur.take L).drop A := by
  intro c1 c2
  have hD : ((cur.take L).drop A).length = L - A := by rw [List.length_drop, List.length_take]; omega
  have e1 : c1.take A = cur.take A := by
    show (cur.take (A + s) ++ (cur.take L).drop A ++ _).take A = _
    rw [List.append_assoc, List.take_append_of_le_length (by rw [List.length_take]; omega), List.take_take, Nat.min_eq_left (by omega)]
  have e2 : c1.drop (A + vs.length) = (cur.take L).drop A ++ cur.drop (L + s) := by
    show (cur.take (A + s) ++ (cur.take L).drop A ++ _).drop _ = _
    rw [List.append_assoc, hv]
    have hl : (cur.take (A + s)).length = A + s := by rw [List.length_take]; omega
    rw [List.drop_append_of_le_length (by omega), List.drop_of_length_le (by omega), List.nil_append, hD, show A + s + (L - A) = L + s by omega]
  have e3 : c2 = cur.take A ++ vs ++ ((cur.take L).drop A ++ cur.drop (L + s)) := by show c1.take A ++ vs ++ c1.drop (A + vs.length) = _; rw [e1, e2]
  constructor
  · rw [e3]; simp only [List.length_append, hD, List.length_take, List.length_drop, hv]; omega
  · rw [e3, ← List.append_assoc, List.take_append_of_le_length (by simp only [List.length_append, hD, List.length_take, hv]; omega), List.take_of_length_le (by simp only [List.length_append, hD, List.length_take, hv]; omega), List.take_take, Nat.min_eq_left hA]
theorem grow_row {α : Type} (c0 P D vs : List α) (A s : Nat) (hP : P.length = A) (hv : vs.length = s) (h0 : c0.take A = P) (hL : A + s + D.length ≤ c0.length) :
    let c1 := c0.take A ++ vs ++ c0.drop (A + vs.length)
    let c2 := c1.take (A + s) ++ D ++ c1.drop (A + s + D.length)
    c2.length = c0.length ∧ c2.take (A + s + D.length) = P ++ vs ++ D := by
  intro c1 c2
  have e1 : c1.take (A + s) = P ++ vs := by
    show (c0.take A ++ vs ++ _).take _ = _
    rw [h0, List.take_append_of_le_length (by rw [List.length_append]; omega), List.take_of_length_le (by rw [List.length_append]; omega)]
  have l1 : c1.length = c0.length := by
    show (c0.take A ++ vs ++ c0.drop (A + vs.length)).length = _
    simp only [List.length_append, List.length_take, List.length_drop]; omega
  constructor
  · show (c1.take (A + s) ++ D ++ c1.drop _).length = _
    simp only [List.length_append, List.length_take, List.length_drop]; omega
  · show (c1.take (A + s) ++ D ++ c1.drop _).take _ = _
    rw [e1, List.take_append_of_le_length (by simp only [List.length_append]; omega), List.take_of_length_le (by simp only [List.length_append]; omega)]

theorem run_copy_s {P : Program} (w : World) (t e ty : TypeId) (s : Nat) (hu : P.underlying t = some (.slice e)) (hs : (P.info? e).map (·.size) = some s) (g o dLen dCap : Nat) (a : Addr) (sLen sCap k : Nat) (cur : Array Value) (T : TypeId) (cs : List Value)
    (hg : w.heap[g]? = some (.cells cur T (0, 0))) (hk : Nat.min sLen dLen = k) (hn : cs.length = k * s) (hfit : o + cs.length ≤ cur.size)
    (hsrc : ∀ j v, cs[j]? = some v → w.cell? (a.add j) = some v) (h1 : ∀ v ∈ cs, v.oneCell' = true) :
    (Builtin.copy_ #[t, t] ty #[.slice (some ⟨g, o, none⟩) dLen dCap, .slice (some a) sLen sCap]).run P w =
      .ok (goInt k) (w.setRow g (cur.toList.take o ++ cs ++ cur.toList.drop (o + cs.length)).toArray) := by
  have hl := run_loadCells_list (P := P) w a cs hsrc
  have hst := run_storeCells_at P g o T cs 0 cur w hg (by omega) h1
  cases hq : P.info? e with
  | none => simp [hq] at hs
  | some i =>
    have hi : i.size = s := by simpa [hq] using hs
    simp [Builtin.copy_, run_underlying hu, Builtin.lenOf, Builtin.firstCells, sizeOf, typeInfo, hq, hi, hk, ← hn, hl, hst]

theorem wp_copy_run {P : Program} (w : World) {o : Oper} {a : Act} {K : Act → World → Prop} {Q : Exit → Act → World → Prop} (d s : Operand) (t t' : TypeId)
    (ho : o.op = .call { callee := .builtin .copy, args := #[d, s], argTypes := #[t, t'] }) (v u : Value) (hd : a.eval d = v) (hs : a.eval s = u) {v' : Value} {w' : World}
    (hr : (Builtin.copy_ #[t, t'] o.type #[v, u]).run P w = .ok v' w') (h : K (a.put o.dst v') w') : o.wp P a w K Q := by
  unfold Oper.wp execOp
  simp only [ho, resolve, invoke, builtin, Sem.run_bind, Sem.run_pure, Result.andThen_ok, List.map_toArray, List.map_cons, List.map_nil, hd, hs, hr]
  exact h
theorem wpList_copy_run {P : Program} (w : World) {ops : Array Oper} {rest : List Oper} {o : Oper} {a : Act} {Q : Exit → Act → World → Prop} (hgd : o.guard = none) (d s : Operand) (t t' : TypeId)
    (ho : o.op = .call { callee := .builtin .copy, args := #[d, s], argTypes := #[t, t'] }) (v u : Value) (hd : a.eval d = v) (hs : a.eval s = u) {v' : Value} {w' : World}
    (hr : (Builtin.copy_ #[t, t'] o.type #[v, u]).run P w = .ok v' w') (h : wpList P ops Q rest (a.put o.dst v') w') : wpList P ops Q (o :: rest) a w :=
  wpList_plain hgd fun _ hK => wp_copy_run w d s t t' ho v u hd hs hr (hK _ _ h)
theorem step_copy_run {P : Program} {ops : Array Oper} {o : Oper} {a : Act} {w : World} {K : Act → World → Prop} {Q : Exit → Act → World → Prop} {E : Prop}
    (hg : o.guard = none) (d x : Operand) (dT sT : TypeId) (hop : o.op = Op.call { callee := Callee.builtin Builtin.copy, args := #[d, x], argTypes := #[dT, sT] })
    (v u : Value) (hd : a.eval d = v) (hx : a.eval x = u) {v' : Value} {w' : World} (hr : (Builtin.copy_ #[dT, sT] o.type #[v, u]).run P w = .ok v' w') (hK : K (a.put o.dst v') w') :
    if Region.wanted o (yielded ops a.tmps) = true then Oper.wp P o a w K Q else E := by
  have hw : Region.wanted o (yielded ops a.tmps) = true := by simp [Region.wanted, hg]
  rw [if_pos hw]
  unfold Oper.wp
  simp [execOp, hop, resolve, invoke, builtin, hd, hx, hr, Result.andThen]
  exact hK
/-- What the insertion of an element leaves. -/
def InsPls (w : World) (base : Nat) (v : Value) (n : Nat) (xs : List Value) (e : Ending) (w' : World) : Prop :=
  ∃ v', e = .returned v' ∧ w'.ownsRow base 131 6 v' (n + 1) xs ∧ w.grownBy w' v.ownBlock ∧ (v'.ownBlock = v.ownBlock ∨ v'.ownBlock = some w.heap.size)

set_option maxHeartbeats 1600000 in
/-- At the end. -/
theorem cInsPls_end (base : Nat) (v : Value) (n vb : Nat) (xs vs : List Value) (w : World) (ho : w.ownsRow base 131 6 v n xs) (hn : n ≤ 1000) (hB : base ≤ w.heap.size) (hvl : vs.length = 6)
    (hv : ∀ j u, vs[j]? = some u → w.cell? ((⟨vb, 0, none⟩ : Addr).add j) = some u) (h1 : ∀ u ∈ vs, u.oneCell' = true) :
    Calls Tryz.prog 103 #[v, .int .i64 n, .slice (some ⟨vb, 0, none⟩) 1 1] w (InsPls w base v n (xs ++ vs)) := by
  obtain ⟨i0, hi, hz0, hz1, hz2⟩ := info_parts infoPls
  have ho' := ho
  rcases ho.2 with ⟨rfl, rfl⟩ | ⟨g, cap, cur, rfl, hg, hh, hnc, hcm, hcs, hx⟩
  · go_enter Tryz.func103, Tryz.ntmps103
    go_wp2_with (at_builtin; refine wpList_append_own_at _ rfl _ _ 101 rfl base 131 i0 _ 6 48 Tryz.underlying101 hi hz0 hz1 hz2 rfl (by decide) _ _ _ rfl ho' ⟨vb, 0, none⟩ 1 1 vs rfl (by omega) hv h1 ?c3 ?c4 hB ?_)
    case c3 => unfold maxLen; omega
    case c4 => omega
    intro v2 w5 hown hgrow _ hwh
    go_wp2
    go_ret
    exact ⟨v2, rfl, hown, hgrow, hwh⟩
  · unfold maxLen at hcm
    have hn0 : (0 : Int) ≤ (n : Int) := by omega
    have hnn : (n : Int) ≤ (n : Int) := by omega
    by_cases hc : cap = n
    · subst hc
      go_enter Tryz.func103, Tryz.ntmps103
      go_wp2_with (at_builtin; refine wpList_append_own_at _ rfl _ _ 101 rfl base 131 i0 _ 6 48 Tryz.underlying101 hi hz0 hz1 hz2 rfl (by decide) _ _ _ rfl ho' ⟨vb, 0, none⟩ 1 1 vs rfl (by omega) hv h1 ?c3 ?c4 hB ?_)
      case c3 => unfold maxLen; omega
      case c4 => omega
      intro v2 w5 hown hgrow _ hwh
      go_wp2
      go_ret
      exact ⟨v2, rfl, hown, hgrow, hwh⟩
    · go_enter Tryz.func103, Tryz.ntmps103
      go_wp2_with (at_builtin; refine wpList_append_own_at _ rfl _ _ 101 rfl base 131 i0 _ 6 48 Tryz.underlying101 hi hz0 hz1 hz2 rfl (by decide) _ _ _ rfl ho' ⟨vb, 0, none⟩ 1 1 vs rfl (by omega) hv h1 ?c3 ?c4 hB ?_)
      case c3 => unfold maxLen; omega
      case c4 => omega
      intro v2 w5 hown hgrow _ hwh
      go_wp2
      go_ret
      exact ⟨v2, rfl, hown, hgrow, hwh⟩
end Go.Proofs.YtbghfihlpbcomaaGreat

/- Inserting a placed use ahead of another. -/
namespace Go.Proofs.YtbghfihlpbcomaaGreat
open Go.RowKit Go.Lib

theorem addN (b off i : Nat) : (⟨b, off, none⟩ : Addr).add i = ⟨b, off + i, none⟩ := by
  by_cases h : i = 0
  · subst h; simp [Addr.add]
  · simp [Addr.add, h]
theorem sizePls : (Tryz.prog.info? 131).map (·.size) = some 6 := by
  obtain ⟨i0, hi, hz0, hz1, hz2⟩ := info_parts infoPls
  rw [hi]; simp [hz1]

set_option maxRecDepth 20000 in
set_option maxHeartbeats 3200000 in
/-- Ahead of another, where there is room: in place. -/
theorem cInsPls_shift (base g cap n i vb : Nat) (cur : Array Value) (xs vs : List Value) (w : World) (hg : base ≤ g) (hh : w.heap[g]? = some (.cells cur 131 (0, 0))) (hnc : n + 1 ≤ cap) (hcm : cap ≤ maxLen) (hcs : cur.size = cap * 6) (hx : cur.toList.take (n * 6) = xs) (hxl : xs.length = n * 6)
    (hn : n ≤ 1000) (hi : i < n) (hvl : vs.length = 6) (hvb : w.heap[vb]? = some (.cells vs.toArray 131 (0, 0))) (hne : vb ≠ g) (h1 : ∀ u ∈ vs, u.oneCell' = true) (h1x : ∀ u ∈ xs, u.oneCell' = true) :
    Calls Tryz.prog 103 #[.slice (some ⟨g, 0, none⟩) n cap, .int .i64 i, .slice (some ⟨vb, 0, none⟩) 1 1] w (InsPls w base (.slice (some ⟨g, 0, none⟩) n cap) n (xs.take (i * 6) ++ vs ++ xs.drop (i * 6))) := by
  have hcm' := hcm
  unfold maxLen at hcm'
  have hz2 : ¬ ((i : Int) = (n : Int)) := by omega
  have hz3 : ¬ ((cap : Int) < (n : Int) + 1) := by omega
  have hw1 : IntKind.i64.wrap ((i : Int) + 1) = (i : Int) + 1 := wrap_in _ (by omega) (by omega)
  have hw2 : IntKind.i64.wrap ((n : Int) + 1) = (n : Int) + 1 := wrap_in _ (by omega) (by omega)
  have hb1 : (0 : Int) ≤ (i : Int) + 1 := by omega
  have hb5 : (0 : Int) ≤ (n : Int) + 1 := by omega
  have hb6 : (n : Int) + 1 ≤ (cap : Int) := by omega
  have hb7 : (i : Int) + 1 ≤ (n : Int) + 1 := by omega
  have hin : (i : Int) ≤ (n : Int) := by omega
  have hb3 : (i : Int) ≤ (n : Int) + 1 := by omega
  have htn : ((i : Int) + 1).toNat = i + 1 := by omega
  have htm : ((n : Int) + 1).toNat = n + 1 := by omega
  have hb2 : ¬ (cap = i + 1) := by omega
  have hb4 : ¬ (cap = i) := by omega
  have hov : ∀ lb cb, (callFunc 113 #[.slice (some ⟨vb, 0, none⟩) 1 1, .slice (some ⟨g, (i + 1) * 6, none⟩) lb cb]).run Tryz.prog w = .ok (.value (.bool false)) w := fun lb cb => by
    rw [run_callFunc_extern Tryz.func113 (by kernel_rfl) (by kernel_rfl) (by kernel_rfl) (e := Extern.SlicesOverlaps.overlaps #[101, 101] #[4]) (by kernel_rfl),
      Lib.run_overlaps_apart w 101 4 131 Tryz.underlying101 6 (fun w => by kernel_rfl) ⟨vb, 0, none⟩ ⟨g, (i + 1) * 6, none⟩ 1 1 lb cb hne 131 131 vs.length cur.size (by simp [World.shape?, hvb]) (by simp [World.shape?, hh]) (by omega) (by simp [World.frozen?, hvb]) (by simp [World.frozen?, hvb])]
    rfl
  obtain ⟨R, hR⟩ : ∃ R, R = xs.take (i * 6) ++ vs ++ xs.drop (i * 6) := ⟨_, rfl⟩
  rw [← hR]
  have hxd : (xs.drop (i * 6)).length = (n - i) * 6 := by rw [List.length_drop, hxl, Nat.sub_mul]
  obtain ⟨R1, hR1⟩ : ∃ R1, R1 = cur.toList.take ((i + 1) * 6) ++ xs.drop (i * 6) ++ cur.toList.drop ((i + 1) * 6 + (xs.drop (i * 6)).length) := ⟨_, rfl⟩
  obtain ⟨R2, hR2⟩ : ∃ R2, R2 = R1.take (i * 6) ++ vs ++ R1.drop (i * 6 + vs.length) := ⟨_, rfl⟩
  have hsr := shift_row cur.toList vs (i * 6) (n * 6) 6 hvl (by omega) (by rw [Array.length_toList, hcs]; omega)
  simp only [hx, show i * 6 + 6 = (i + 1) * 6 by omega] at hsr
  rw [← hR1, ← hR2, ← hR] at hsr
  obtain ⟨hl2, ht2⟩ := hsr
  rw [Array.length_toList] at hl2
  have hl1 : R1.length = cur.size := by
    rw [hR1]; simp only [List.length_append, List.length_take, List.length_drop, Array.length_toList]; omega
  have hcell : ∀ j v, xs[j]? = some v → w.cell? ⟨g, j, none⟩ = some v := fun j v hj => by
    rw [← hx, List.getElem?_take] at hj
    split at hj
    · simpa [World.cell?, hh] using hj
    · cases hj
  have hvc : ∀ j v, vs[j]? = some v → w.cell? ⟨vb, 0 + j, none⟩ = some v := fun j v hj => by simp [World.cell?, hvb, hj]
  have hcp1 : ∀ ty dc sc, (Builtin.copy_ #[101, 101] ty #[.slice (some ⟨g, (i + 1) * 6, none⟩) (n - i) dc, .slice (some ⟨g, i * 6, none⟩) (n + 1 - i) sc]).run Tryz.prog w.drew = .ok (goInt (n - i : Nat)) (w.drew.setRow g R1.toArray) := fun ty dc sc => by
    have := run_copy_s (P := Tryz.prog) w.drew 101 131 ty 6 Tryz.underlying101 sizePls g ((i + 1) * 6) (n - i) dc ⟨g, i * 6, none⟩ (n + 1 - i) sc (n - i) cur 131 (xs.drop (i * 6)) hh (Nat.min_eq_right (by omega)) hxd (by omega)
      (fun j v hj => by rw [List.getElem?_drop] at hj; rw [show (⟨g, i * 6, none⟩ : Addr).add j = ⟨g, i * 6 + j, none⟩ from addN _ _ _]; exact hcell _ _ hj) (fun u hu => h1x u (List.mem_of_mem_drop hu))
    rw [this, hR1]
  have hcp2 : ∀ ty dc, (Builtin.copy_ #[101, 101] ty #[.slice (some ⟨g, i * 6, none⟩) (n + 1 - i) dc, .slice (some ⟨vb, 0, none⟩) 1 1]).run Tryz.prog (w.drew.setRow g R1.toArray) = .ok (goInt (1 : Nat)) ((w.drew.setRow g R1.toArray).setRow g R2.toArray) := fun ty dc => by
    have := run_copy_s (P := Tryz.prog) (w.drew.setRow g R1.toArray) 101 131 ty 6 Tryz.underlying101 sizePls g (i * 6) (n + 1 - i) dc ⟨vb, 0, none⟩ 1 1 1 R1.toArray 131 vs (setRow_heap _ g cur _ _ _ hh) (Nat.min_eq_left (by omega)) (by omega) (by simp only [List.size_toArray, hl1]; omega)
      (fun j v hj => by rw [addN, cell_setRow_other _ _ _ _ hne]; exact hvc j v hj) h1
    rw [this, hR2]
  have hG : w.grownBy ((w.drew.setRow g R1.toArray).setRow g R2.toArray) (some g) :=
    ⟨rfl, rfl, rfl, by simp, fun k hk hne => by rw [setRow_other _ _ _ _ (fun h => hne (by rw [h])), setRow_other _ _ _ _ (fun h => hne (by rw [h]))]; rfl⟩
  have hO : ((w.drew.setRow g R1.toArray).setRow g R2.toArray).ownsRow base 131 6 (.slice (some ⟨g, 0, none⟩) (n + 1) cap) (n + 1) R := by
    refine ⟨?_, .inr ⟨g, cap, R2.toArray, rfl, hg, setRow_heap _ g R1.toArray _ _ _ (setRow_heap _ g cur _ _ _ hh), hnc, hcm, by simp [hl2, hcs], ?_⟩⟩
    · rw [hR]; simp only [List.length_append, List.length_take, hxd, hvl]; omega
    · rw [← ht2, show (n + 1) * 6 = n * 6 + 6 by omega]
  generalize hV : (w.drew.setRow g R1.toArray).setRow g R2.toArray = V at *
  generalize w.drew.setRow g R1.toArray = U at *
  clear hR hR1 hR2 hl1 hl2 ht2 hcell hxd hx hxl hV
  go_enter Tryz.func103, Tryz.ntmps103
  go_wp2_with (simp only [hov])
  go_region_law (refine step_copy_run rfl _ _ 101 101 rfl _ _ (by simp [Act.eval, Act.put]) (by simp [Act.eval, Act.put]) (hcp1 _ _ _) ?_)
  go_wp2_with (at_builtin; refine wpList_copy_run _ rfl _ _ 101 101 rfl _ _ rfl rfl (hcp2 _ _) ?_)
  go_ret
  exact ⟨_, rfl, hO, hG, .inl rfl⟩
end Go.Proofs.YtbghfihlpbcomaaGreat

/- Inserting a placed use where there is no room. -/
namespace Go.Proofs.YtbghfihlpbcomaaGreat
open Go.RowKit Go.Lib

theorem zc_size (z : Value) (k : Nat) : (Builtin.zeroCells z.cells k).size = k * z.cells.size := by simp [Builtin.zeroCells]

set_option maxRecDepth 20000 in
set_option maxHeartbeats 3200000 in
/-- Ahead of another, where there is no room: a new row. -/
theorem cInsPls_grow (base g cap n i vb : Nat) (cur : Array Value) (xs vs : List Value) (w : World) (hB : base ≤ w.heap.size) (hh : w.heap[g]? = some (.cells cur 131 (0, 0))) (hnc : cap = n) (hcs : cur.size = cap * 6) (hx : cur.toList.take (n * 6) = xs) (hxl : xs.length = n * 6)
    (hn : n ≤ 1000) (hi : i < n) (hvl : vs.length = 6) (hvb : w.heap[vb]? = some (.cells vs.toArray 131 (0, 0))) (h1 : ∀ u ∈ vs, u.oneCell' = true) (h1x : ∀ u ∈ xs, u.oneCell' = true) :
    Calls Tryz.prog 103 #[.slice (some ⟨g, 0, none⟩) n cap, .int .i64 i, .slice (some ⟨vb, 0, none⟩) 1 1] w (InsPls w base (.slice (some ⟨g, 0, none⟩) n cap) n (xs.take (i * 6) ++ vs ++ xs.drop (i * 6))) := by
  subst hnc
  obtain ⟨i0, hi0, hz0, hzs, hzb⟩ := info_parts infoPls
  have hz2 : ¬ ((i : Int) = (cap : Int)) := by omega
  have hz3 : (cap : Int) < (cap : Int) + 1 := by omega
  have hw1 : IntKind.i64.wrap ((i : Int) + 1) = (i : Int) + 1 := wrap_in _ (by omega) (by omega)
  have hw2 : IntKind.i64.wrap ((cap : Int) + 1) = (cap : Int) + 1 := wrap_in _ (by omega) (by omega)
  have hw3 : IntKind.i64.wrap ((cap : Int) + 1 - (i : Int)) = (cap : Int) + 1 - (i : Int) := wrap_in _ (by omega) (by omega)
  have hb1 : (0 : Int) ≤ (i : Int) + 1 := by omega
  have hb7 : (i : Int) + 1 ≤ (cap : Int) + 1 := by omega
  have hin : (i : Int) ≤ (cap : Int) := by omega
  have hb3 : (i : Int) ≤ (cap : Int) + 1 := by omega
  have htn : ((i : Int) + 1).toNat = i + 1 := by omega
  have hb4 : ¬ (cap = i) := by omega
  have hgw : g < w.heap.size := lt_of_block hh
  have hvw : vb < w.heap.size := lt_of_block hvb
  have hcell : ∀ j v, xs[j]? = some v → w.cell? ⟨g, j, none⟩ = some v := fun j v hj => by
    rw [← hx, List.getElem?_take] at hj
    split at hj
    · simpa [World.cell?, hh] using hj
    · cases hj
  have hvc : ∀ j v, vs[j]? = some v → w.cell? ⟨vb, 0 + j, none⟩ = some v := fun j v hj => by simp [World.cell?, hvb, hj]
  have hold : (Builtin.firstCells i0.size i (.slice (some ⟨g, 0, none⟩) i cap)).run Tryz.prog w.drew = .ok (xs.take (i * 6)).toArray w.drew := by
    rw [hzs]
    exact run_firstCells_some w.drew 6 i ⟨g, 0, none⟩ i cap (xs.take (i * 6)) (by rw [List.length_take]; omega) (fun j v hj => by
      rw [addN, Nat.zero_add]
      rw [List.getElem?_take] at hj
      split at hj
      · exact hcell j v hj
      · cases hj)
  have hik : i + (cap + 1 - i) = cap + 1 := by omega
  have hkk : (cap : Int) + 1 - (i : Int) = ((cap + 1 - i : Nat) : Int) := by omega
  obtain ⟨G, hG⟩ : ∃ G, G = grownCap w (cap + 1) cap 131 := ⟨_, rfl⟩
  obtain ⟨ROW, hROW⟩ : ∃ ROW : Array Value, ROW = (xs.take (i * 6)).toArray ++ Builtin.zeroCells (Value.agg #[.int .i64 0, .int .i64 0, .int .i64 0, .int .i64 0, .int .i64 0, .int .i64 0]).cells (cap + 1 - i) ++ Builtin.zeroCells (Value.agg #[.int .i64 0, .int .i64 0, .int .i64 0, .int .i64 0, .int .i64 0, .int .i64 0]).cells (G - (cap + 1)) := ⟨_, rfl⟩
  have hrz : ∀ ty, (Builtin.append_ #[101, 3] ty #[.slice (some ⟨g, 0, none⟩) i cap, .int .i64 ((cap : Int) + 1 - (i : Int))]).run Tryz.prog w =
      .ok (.slice (some ⟨w.heap.size, 0, none⟩) (cap + 1) G) (w.drew.alloc (.cells ROW 131)) := fun ty => by
    have h := Lib.run_append_grow_zeros w 101 3 ty 131 i0 _ .i64 .i64 Tryz.underlying101 Tryz.underlying3 hi0 hz0 (some ⟨g, 0, none⟩) i cap (xs.take (i * 6)) hold (cap + 1 - i) (by omega) (by omega) (by omega) (by omega) (by rw [hzb]; omega) (by rw [hzb, hik]; exact growslice_fits (by omega) (by omega))
    rw [hik, ← hG, ← hROW] at h
    rw [hkk]
    exact h
  have hGn : cap + 1 ≤ G := by rw [hG]; exact grownCap_ge w _ _ _
  have hGm : G ≤ maxLen := by rw [hG]; exact grownCap_le_maxLen w _ _ _ (by unfold maxLen; omega)
  have hG63 := hGm
  unfold maxLen at hG63
  have hGi : ¬ (G = i) := by omega
  have hGim : ¬ (G = i + 1) := by omega
  have hRl : ROW.size = G * 6 := by
    rw [hROW]; simp only [Array.size_append, zc_size, List.size_toArray, List.length_take, hxl, show (Value.agg #[.int .i64 0, .int .i64 0, .int .i64 0, .int .i64 0, .int .i64 0, .int .i64 0]).cells.size = 6 from rfl]; omega
  have hRt : ROW.toList.take (i * 6) = xs.take (i * 6) := by
    rw [hROW]; simp only [Array.toList_append]
    rw [List.append_assoc, List.take_append_of_le_length (by simp [hxl]; omega), List.take_of_length_le (by simp; omega)]
  have hxd : (xs.drop (i * 6)).length = (cap - i) * 6 := by rw [List.length_drop, hxl, Nat.sub_mul]
  have hxt : (xs.take (i * 6)).length = i * 6 := by rw [List.length_take, hxl]; omega
  obtain ⟨R, hR⟩ : ∃ R, R = xs.take (i * 6) ++ vs ++ xs.drop (i * 6) := ⟨_, rfl⟩
  rw [← hR]
  obtain ⟨R1, hR1⟩ : ∃ R1, R1 = ROW.toList.take (i * 6) ++ vs ++ ROW.toList.drop (i * 6 + vs.length) := ⟨_, rfl⟩
  obtain ⟨R2, hR2⟩ : ∃ R2, R2 = R1.take (i * 6 + 6) ++ xs.drop (i * 6) ++ R1.drop (i * 6 + 6 + (xs.drop (i * 6)).length) := ⟨_, rfl⟩
  have hsr := grow_row ROW.toList (xs.take (i * 6)) (xs.drop (i * 6)) vs (i * 6) 6 hxt hvl hRt (by rw [hxd, show ROW.toList.length = ROW.size from rfl, hRl]; omega)
  simp only at hsr
  rw [← hR1, ← hR2, ← hR] at hsr
  obtain ⟨hl2, ht2⟩ := hsr
  rw [Array.length_toList] at hl2
  have hl1 : R1.length = ROW.size := by
    rw [hR1]; simp only [List.length_append, List.length_take, List.length_drop, Array.length_toList]; omega
  have hcpA : ∀ (W : World), W.heap[w.heap.size]? = some (.cells ROW 131 (0, 0)) → (∀ j v, vs[j]? = some v → W.cell? ⟨vb, 0 + j, none⟩ = some v) → ∀ ty dc, (Builtin.copy_ #[101, 101] ty #[.slice (some ⟨w.heap.size, i * 6, none⟩) (cap + 1 - i) dc, .slice (some ⟨vb, 0, none⟩) 1 1]).run Tryz.prog W = .ok (goInt (1 : Nat)) (W.setRow w.heap.size R1.toArray) := fun W hW hWv ty dc => by
    have := run_copy_s (P := Tryz.prog) W 101 131 ty 6 Tryz.underlying101 sizePls w.heap.size (i * 6) (cap + 1 - i) dc ⟨vb, 0, none⟩ 1 1 1 ROW 131 vs hW (Nat.min_eq_left (by omega)) (by omega) (by omega)
      (fun j v hj => by rw [addN]; exact hWv j v hj) h1
    rw [this, hR1]
  have hcpB : ∀ (W : World), W.heap[w.heap.size]? = some (.cells R1.toArray 131 (0, 0)) → (∀ j v, xs[j]? = some v → W.cell? ⟨g, j, none⟩ = some v) → ∀ ty dc sc, (Builtin.copy_ #[101, 101] ty #[.slice (some ⟨w.heap.size, (i + 1) * 6, none⟩) (cap - i) dc, .slice (some ⟨g, i * 6, none⟩) (cap - i) sc]).run Tryz.prog W = .ok (goInt (cap - i : Nat)) (W.setRow w.heap.size R2.toArray) := fun W hW hWx ty dc sc => by
    have := run_copy_s (P := Tryz.prog) W 101 131 ty 6 Tryz.underlying101 sizePls w.heap.size ((i + 1) * 6) (cap - i) dc ⟨g, i * 6, none⟩ (cap - i) sc (cap - i) R1.toArray 131 (xs.drop (i * 6)) hW (Nat.min_self _) hxd (by simp only [List.size_toArray, hl1, hRl]; omega)
      (fun j v hj => by rw [addN]; rw [List.getElem?_drop] at hj; exact hWx _ _ hj) (fun u hu => h1x u (List.mem_of_mem_drop hu))
    rw [this, hR2, show (i + 1) * 6 = i * 6 + 6 by omega]
  have hV0 : (w.alloc (.cells ROW 131)).drew.heap[w.heap.size]? = some (.cells ROW 131 (0, 0)) := heap_alloc_new w _
  have hV0v : ∀ j v, vs[j]? = some v → (w.alloc (.cells ROW 131)).drew.cell? ⟨vb, 0 + j, none⟩ = some v := fun j v hj => by
    show (w.alloc (.cells ROW 131)).cell? _ = _; rw [World.cell?_alloc_past (w := w) _ vb _ hvw]; exact hvc j v hj
  have hV0x : ∀ j v, xs[j]? = some v → (w.alloc (.cells ROW 131)).drew.cell? ⟨g, j, none⟩ = some v := fun j v hj => by
    show (w.alloc (.cells ROW 131)).cell? _ = _; rw [World.cell?_alloc_past (w := w) _ g _ hgw]; exact hcell j v hj
  have hV1x : ∀ j v, xs[j]? = some v → (((w.alloc (.cells ROW 131)).drew.setRow w.heap.size R1.toArray)).cell? ⟨g, j, none⟩ = some v := fun j v hj => by
    rw [cell_setRow_other _ _ _ _ (Nat.ne_of_lt hgw)]; exact hV0x j v hj
  have hV1 := setRow_heap ((w.alloc (.cells ROW 131)).drew) w.heap.size ROW R1.toArray _ _ hV0
  have hV2 : ((((w.alloc (.cells ROW 131)).drew.setRow w.heap.size R1.toArray).drew).setRow w.heap.size R2.toArray).heap[w.heap.size]? = some (.cells R2.toArray 131 (0, 0)) := setRow_heap (((w.alloc (.cells ROW 131)).drew.setRow w.heap.size R1.toArray).drew) w.heap.size R1.toArray R2.toArray _ _ hV1
  have hGr : w.grownBy ((((w.alloc (.cells ROW 131)).drew.setRow w.heap.size R1.toArray).drew).setRow w.heap.size R2.toArray) (some g) :=
    ⟨rfl, rfl, rfl, by rw [size_setRow]; show _ ≤ ((w.alloc (.cells ROW 131)).drew.setRow w.heap.size R1.toArray).heap.size; rw [size_setRow]; exact (balloc w _).size, fun k hk _ => by
      rw [setRow_other _ _ _ _ (Nat.ne_of_lt hk)]
      show ((w.alloc (.cells ROW 131)).drew.setRow w.heap.size R1.toArray).heap[k]? = _
      rw [setRow_other _ _ _ _ (Nat.ne_of_lt hk)]
      exact Below.heap_alloc w _ _ hk⟩
  have hO : ((((w.alloc (.cells ROW 131)).drew.setRow w.heap.size R1.toArray).drew).setRow w.heap.size R2.toArray).ownsRow base 131 6 (.slice (some ⟨w.heap.size, 0, none⟩) (cap + 1) G) (cap + 1) R := by
    refine ⟨?_, .inr ⟨w.heap.size, G, R2.toArray, rfl, hB, hV2, hGn, hGm, by simp [hl2, hRl], ?_⟩⟩
    · rw [hR]; simp only [List.length_append, hxt, hxd, hvl]; omega
    · rw [← ht2, hxd, show (cap + 1) * 6 = i * 6 + 6 + (cap - i) * 6 by omega]
  have hA : ∀ ty dc, (Builtin.copy_ #[101, 101] ty #[.slice (some ⟨w.heap.size, i * 6, none⟩) (cap + 1 - i) dc, .slice (some ⟨vb, 0, none⟩) 1 1]).run Tryz.prog (w.alloc (.cells ROW 131)).drew = .ok (goInt (1 : Nat)) ((w.alloc (.cells ROW 131)).drew.setRow w.heap.size R1.toArray) := hcpA _ hV0 hV0v
  have hBc : ∀ ty dc sc, (Builtin.copy_ #[101, 101] ty #[.slice (some ⟨w.heap.size, (i + 1) * 6, none⟩) (cap - i) dc, .slice (some ⟨g, i * 6, none⟩) (cap - i) sc]).run Tryz.prog (((w.alloc (.cells ROW 131)).drew.setRow w.heap.size R1.toArray).drew) = .ok (goInt (cap - i : Nat)) ((((w.alloc (.cells ROW 131)).drew.setRow w.heap.size R1.toArray).drew).setRow w.heap.size R2.toArray) := hcpB _ hV1 hV1x
  clear hR hR1 hR2 hl1 hl2 ht2 hcell hvc hxd hx hxl hxt hold hik hkk hG hRt hRl hV2 hROW
  go_enter Tryz.func103, Tryz.ntmps103
  go_wp2_with (first
    | (at_builtin; refine Lib.wpList_append_run _ rfl _ _ _ _ rfl _ _ rfl rfl _ _ (hrz _) ?_)
    | (simp only [hA, Result.andThen_ok]))
  go_region
  go_wp2
  go_ret
  exact ⟨_, rfl, hO, hGr, .inr rfl⟩
end Go.Proofs.YtbghfihlpbcomaaGreat

