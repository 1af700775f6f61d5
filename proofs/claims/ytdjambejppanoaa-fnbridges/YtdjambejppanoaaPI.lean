/- Parts of the program. -/
import Derived.Test.YtdjambejppanoaaRI
import Derived.Test.YtdjambejppanoaaPM
namespace Go.Proofs.Ytdjambejppanoaa
open Go.RowKit
theorem Lin.far {w w' : World} {B mb n N g : Nat} {rows : Nat → List StepV} {rv : Nat → Value} {D : DataW Unit} (h : Lin w B mb n N rows rv D) (hg : w.grownBy w' (some g)) (hB : g < B) (hm : mb ≠ g) : Lin w' B mb n N rows rv D :=
  ⟨h.map.kept hg (by simpa using hm), h.look, h.keys, fun x hx => own_far (h.own x hx) hg (fun k hk e => by
    have := own_from (h.own x hx) (Nat.le_refl _) k hk
    simp at e; omega), h.apart⟩
/-- So much of Parts is there: nothing is left of the nodes that are done. -/
structure PrtTo (N : Nat) (es : List EdgeV) (left : Lit → Bool) (ys : List Int) : Prop where
  len : ys.length = N
  rng : ∀ v : Int, left (.int .i64 v) = true → 0 ≤ v ∧ v < (N : Int)
  done : ∀ j : Nat, j < N → left (.int .i64 (j : Int)) = false → Prt (N : Int) es (j : Int) (ys.getD j 0)
theorem PrtTo.put {N x : Nat} {es : List EdgeV} {left : Lit → Bool} {ys : List Int} {z : Int} (h : PrtTo N es left ys) (hx : x < N) (hz : Prt (N : Int) es (x : Int) z) :
    PrtTo N es (fun l => left l && !l.sameKey (.int .i64 (x : Int))) (ys.set x z) := by
  refine ⟨by rw [List.length_set]; exact h.len, fun v hv => h.rng v (by simp only [Bool.and_eq_true] at hv; exact hv.1), fun j hj hl => ?_⟩
  have hlen := h.len
  by_cases e : j = x
  · subst e
    simpa [List.getD, show j < ys.length by omega] using hz
  · have e2 : (Lit.int .i64 (j : Int)).sameKey (.int .i64 (x : Int)) = false := Maps.sameKey_ne (by simp; omega)
    simp only [e2, Bool.not_false, Bool.and_true] at hl
    have := h.done j hj hl
    simpa [List.getD, List.getElem?_set, Ne.symm e] using this
theorem PrtTo.all {N : Nat} {es : List EdgeV} {left : Lit → Bool} {ys : List Int} (h : PrtTo N es left ys) (q : netB (N : Int) es = true) (h0 : ∀ l, left l = false) : PrtV (N : Int) es ys :=
  .inl ⟨q, by rw [h.len], fun j hj => h.done j (by omega) (h0 _)⟩
set_option maxRecDepth 20000 in
set_option maxHeartbeats 3200000 in
theorem cPartsI (a : Option Addr) (p : Nat) (n : Int) (es : List EdgeV) (w : World) (he : Edges w a es) (hl : es.length ≤ 1048576) :
    Calls Try.prog 23 #[.agg #[.int .i64 n, .slice a es.length p]] w (IntsAns w (PrtV n es)) := by
  obtain ⟨i0, hi, hz0, hz1, hz2⟩ := info_parts infoInts
  have HB := balloc w (.cells #[.int .i64 n, .slice a es.length p] 26)
  have X := Bx2.new w (.int .i64 n) (.slice a es.length p) 26
  obtain ⟨b0, b1⟩ := id X
  have CN := cNetI a p n es _ (he.below HB) hl
  go_enter Try.func23, Try.ntmps23
  cases q1 : netB n es
  · rw [q1] at CN
    have hV : Hid (PrtV n es []) := hide (.inr ⟨q1, rfl⟩)
    go_wp2_with fail
    refine CN.mono ?_
    rintro e w1 ⟨rfl, hb⟩
    have HB1 := btrans HB hb
    clear hb
    go_wp2
    go_ret
    exact .empty hV.out HB1
  rw [q1] at CN
  go_wp2_with fail
  refine CN.mono ?_
  rintro e w1 ⟨rfl, hb⟩
  have HB1 := btrans HB hb
  replace X := X.below hb
  clear hb CN b0 b1
  obtain ⟨R, hN, hE⟩ := net_rg q1
  obtain ⟨N, rfl⟩ : ∃ N : Nat, n = (N : Int) := ⟨n.toNat, by omega⟩
  obtain ⟨b0, b1⟩ := id X
  go_wp2_with (at_make; refine wpList_make_full _ rfl _ _ 29 rfl w1.heap.size 3 i0 (Value.int .i64 0) 1 Try.underlying29 hi hz0 hz1 _ _ _ _ N rfl rfl rfl rfl (by rw [hz2]; omega) (by unfold maxLen; omega) (Nat.le_refl _) ?_; intro w2 hown hgrow; have hb2 : Below w1.heap.size w1 w2 := (Below.refl _ _).grown hgrow (Nat.le_refl _) (fun k hk => by cases hk); have hs2 := own_blk_lt hown w1.heap.size rfl; replace X := X.below hb2; clear b0 b1; obtain ⟨b0, b1⟩ := id X)
  have HB2 := btrans HB1 hb2
  have own2 : w2.ownsRow w1.heap.size 3 1 (.slice (some ⟨w1.heap.size, 0, none⟩) N N) N ((List.replicate N (0 : Int)).map (.int .i64)) := by
    simpa [toList_madeCells_one, Value.cells] using hown
  have hs1 := HB1.size
  generalize w1.heap.size = g at *
  clear hown hgrow HB HB1
  refine (cLinesI a p N es _ (he.below HB2) q1).mono ?_
  rintro e w3 ⟨mb, m, rv, D, rfl, hm, L, hb⟩
  have HB3 := btrans HB2 hb
  have own3 := own_keep own2 hb
  have hmb : mb ≠ g := fun e => row_map own3 L.map (by simp [Value.ownBlock, e])
  clear hb b0 b1 own2 HB2
  go_wp2_with (first
    | (at_range; refine wpList_range_own _ rfl _ 61 rfl 3 81 lawI Try.underlying61 _ mb m D rfl L.map ?_; intro w0 hrg0 hg0 hs0)
    | go_in)
  go_simp
  have P0 : PrtTo N es (Maps.has D) (List.replicate N 0) := ⟨by simp, fun v hv => by rw [L.keys v] at hv; simpa using hv, fun j hj h => by
    rw [L.keys (j : Int)] at h; simp at h; omega⟩
  have hml := L.map.lt
  have hgl := own_blk_lt own3 g rfl
  have hs3 := HB3.size
  have hG0 : w3.grownBy w0 (some g) := ⟨hg0.os, hg0.tape, hg0.output, hg0.size, fun k hk _ => hg0.block k hk (by simp)⟩
  have own0 := own_far own3 hg0 (fun k hk e => by cases e)
  clear own3
  generalize Maps.size D = c0 at *
  go_loopw [5] (fun _ wr => ∃ (ys : List Int) (left : Lit → Bool) (cnt : Nat), wr.ranges Try.prog 3 rowEl mb w3.heap.size m D left cnt ∧ Hid (PrtTo N es left ys) ∧ wr.ownsRow g 3 1 (.slice (some ⟨g, 0, none⟩) N N) N (ys.map (.int .i64)) ∧ w3.grownBy wr (some g)) (fun _ wr => wr.rangeLeft mb w3.heap.size)
  case atStart => exact ⟨_, _, _, hrg0, hide P0, own0, hG0⟩
  case round =>
    clear P0 hrg0 own0 hG0
    obtain ⟨ys, left, cnt, hrg, hP, ho, hG⟩ := hrel
    go_wp2_with (first
      | (at_next; refine wpList_next_ranges _ rfl _ rfl 3 lawI rowEl (Value.int .i64) (fun c : Value => c) (fun key kl hkey => by obtain ⟨x, rfl, _⟩ := Maps.keyOf_int_inv Try.underlying3 hkey; exact ⟨x, rfl⟩) (fun v y hv => ⟨v, rfl⟩) mb w3.heap.size m D _ _ rfl hrg ?_ ?_)
      | go_in)
    · intro _ hl0
      have hV := hide (hP.out.all q1 hl0)
      have hlen := hP.out.len
      have HBr : Below w.heap.size w wr := HB3.grown hG HB3.size (fun j hj => by cases hj; omega)
      clear hP hrg
      go_wp2
      go_ret
      subst hlen
      exact ⟨some ⟨g, 0, none⟩, ys.length, ys, rfl, hV.out, own_base ho (by omega), HBr⟩
    · intro x c kl y1 y2 w4 cnt1 hkey hlx hv hat hrg1 hlt2 hg1 hs4 hen
      obtain ⟨x', ex, rfl, hwx⟩ := Maps.keyOf_int_inv Try.underlying3 hkey
      cases ex
      obtain ⟨hx0, hx1⟩ := hP.out.rng x hlx
      obtain ⟨xn, rfl⟩ : ∃ xn : Nat, x = (xn : Int) := ⟨x.toNat, by omega⟩
      have hxN : xn < N := by omega
      have hG1 : w3.grownBy w4 (some g) := ⟨hg1.os.trans hG.os, hg1.tape.trans hG.tape, hg1.output.trans hG.output, Nat.le_trans hG.size hg1.size, fun k hk hne => (hg1.block k (Nat.lt_of_lt_of_le hk hG.size) (by simp; omega)).trans (hG.block k hk hne)⟩
      have L4 := L.far hG1 hs2 hmb
      have o4 := own_far ho hg1 (fun k hk e => by simp [Value.ownBlock] at hk; cases e; omega)
      have CR := cReachedI mb m N _ es rv D xn _ L4 R (by omega) hE hxN
      have hs5 := hG1.size
      clear L hG hg1 hat hkey hv hlx ho
      go_wp2_with fail
      refine CR.mono ?_
      rintro e w5 ⟨ao, cp, rs, rfl, hI, hor, hb⟩
      have hpos := hI.pos (f := (xn : Int)) (by omega)
      obtain ⟨g2, rfl, -, hc2⟩ := int_first hor hpos rfl
      have hP2 := hide (hP.out.put hxN ⟨rs, hI, rfl⟩)
      have hg5 : w4.grownBy w5 (some g) := gofr _ hb
      have hG5 := gtrans hG1 hg5
      have o5 := own_keep o4 hb
      have hrg5 := hrg1.kept (row := none) (gofr none hb) (by simp) (by simp)
      obtain ⟨o6, _⟩ := o5.stored xn (.int .i64 (rs.getD 0 0))
      have e6 : (ys.map (Value.int .i64)).set xn (.int .i64 (rs.getD 0 0)) = (ys.set xn (rs.getD 0 0)).map (.int .i64) := by rw [List.map_set]
      rw [e6] at o6
      have hfr := o5.frozenAt xn
      have hylen := hP.out.len
      have hcw : w5.cell? ⟨g, xn, none⟩ = some (.int .i64 (ys.getD xn 0)) := by
        rw [o5.cellAt xn (by omega)]
        simp [List.getD, show xn < ys.length by omega]
      have hG6 := gset hG5 xn (.int .i64 (rs.getD 0 0))
      have hrg6 := hrg5.kept (row := some g) (gset (World.grownBy.refl w5 (some g)) xn (.int .i64 (rs.getD 0 0))) (by simp; omega) (by simp; omega)
      have hrl : (0 : Int) < (rs.length : Int) := by omega
      generalize rs.getD 0 0 = z at *
      generalize ys.getD xn 0 = z0 at *
      clear o4 hrg1 hP hI hor hb hG1 CR L4 e6 hpos hg5 hG5 o5
      go_wp2
      go_roundw
      case rel => exact ⟨_, _, cnt1, hrg6, hP2, o6, hG6⟩
      case measure => rw [hrg6.left_eq, hrg.left_eq]; exact hlt2
end Go.Proofs.Ytdjambejppanoaa
