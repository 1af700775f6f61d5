/- Legs that are right: the program's answer. -/
import Derived.Test.YtajeiiebddnchaaGreatDoorJL
import Derived.Deep.CutRange
import Derived.Deep.RegionHeld3
namespace Go.Proofs.YtajeiiebddnchaaGreatDoor
open Go.RowKit

/-- Two calls in boxes of their own. -/
def GotTwo (W : World) (x y : HaltV) (sv cv : Value) (wc : World) : Prop := ∃ p q, sv = .pointer (some ⟨p, 0, none⟩) ∧ cv = .pointer (some ⟨q, 0, none⟩) ∧ wc.heap[p]? = some (.cells #[.int .i64 x.n, .int .i64 x.a, .int .i64 x.d] 33 (0, 0)) ∧ wc.heap[q]? = some (.cells #[.int .i64 y.n, .int .i64 y.a, .int .i64 y.d] 33 (0, 0)) ∧ Below W.heap.size W wc
theorem ne_z {a b c : Nat} (h : b < a) (h2 : a ≤ c) : c ≠ b := by omega
theorem ne_s {a b c : Nat} (h : b < a) (h2 : a ≤ c) : c + 1 ≠ b := by omega
theorem keepB {w w' : World} {b : Nat} {o : Obj} (hb : Below w.heap.size w w') (h : w.heap[b]? = some o) : w'.heap[b]? = some o := (hb.block b (lt_of_block h)).trans h
theorem twoB (w : World) (o1 o2 : Obj) : ((w.alloc o1).alloc o2).heap[w.heap.size]? = some o1 ∧ ((w.alloc o1).alloc o2).heap[w.heap.size + 1]? = some o2 := by
  refine ⟨?_, ?_⟩
  · show ((w.heap.push o1).push o2)[w.heap.size]? = _
    rw [Array.getElem?_push, if_neg (by simp), Array.getElem?_push, if_pos rfl]
  · show ((w.heap.push o1).push o2)[w.heap.size + 1]? = _
    rw [Array.getElem?_push, if_pos (by simp)]
theorem set3 {w1 : World} {b : Nat} {x y z u v q : Value} {t : TypeId} (h : w1.heap[b]? = some (.cells #[x, y, z] t (0, 0))) : (((w1.setCell ⟨b, 0, none⟩ u).setCell ⟨b, 1, none⟩ v).setCell ⟨b, 2, none⟩ q).heap[b]? = some (.cells #[u, v, q] t (0, 0)) := by
  have := blk_set (i := 2) (v := q) (blk_set (i := 1) (v := v) (blk_set (i := 0) (v := u) h))
  simpa using this
theorem far3 {w1 : World} {b c : Nat} {u v q : Value} {o : Obj} (h : w1.heap[b]? = some o) (hne : b ≠ c) : (((w1.setCell ⟨c, 0, none⟩ u).setCell ⟨c, 1, none⟩ v).setCell ⟨c, 2, none⟩ q).heap[b]? = some o :=
  (Below.heap_setCell _ _ _ _ hne).trans ((Below.heap_setCell _ _ _ _ hne).trans ((Below.heap_setCell _ _ _ _ hne).trans h))
theorem bel3 {W w1 : World} {b : Nat} {u v q : Value} (hB : Below W.heap.size W w1) (hb : W.heap.size ≤ b) : Below W.heap.size W (((w1.setCell ⟨b, 0, none⟩ u).setCell ⟨b, 1, none⟩ v).setCell ⟨b, 2, none⟩ q) :=
  below_set hb (below_set hb (below_set hb hB))
theorem gtSS {W w1 : World} {p q : Nat} {o1 o2 o3 o4 o5 o6 : Value} (hB : Below W.heap.size W w1) (K : w1.heap[p]? = some (.cells #[o1, o2, o3] 33 (0, 0))) (K2 : w1.heap[q]? = some (.cells #[o4, o5, o6] 33 (0, 0))) (hp : W.heap.size ≤ p) (hq : W.heap.size ≤ q) (hne : p ≠ q) (x y : HaltV) :
    GotTwo W x y (.pointer (some ⟨p, 0, none⟩)) (.pointer (some ⟨q, 0, none⟩)) ((((((w1.setCell ⟨p, 0, none⟩ (.int .i64 x.n)).setCell ⟨p, 1, none⟩ (.int .i64 x.a)).setCell ⟨p, 2, none⟩ (.int .i64 x.d)).setCell ⟨q, 0, none⟩ (.int .i64 y.n)).setCell ⟨q, 1, none⟩ (.int .i64 y.a)).setCell ⟨q, 2, none⟩ (.int .i64 y.d)) :=
  ⟨p, q, rfl, rfl, far3 (set3 K) hne, set3 (far3 K2 hne.symm), bel3 (bel3 hB hp) hq⟩
theorem gtSA {W w1 : World} {p : Nat} {o1 o2 o3 : Value} (hB : Below W.heap.size W w1) (K : w1.heap[p]? = some (.cells #[o1, o2, o3] 33 (0, 0))) (hp : W.heap.size ≤ p) (x y : HaltV) :
    GotTwo W x y (.pointer (some ⟨p, 0, none⟩)) (.pointer (some ⟨w1.heap.size, 0, none⟩)) ((((w1.setCell ⟨p, 0, none⟩ (.int .i64 x.n)).setCell ⟨p, 1, none⟩ (.int .i64 x.a)).setCell ⟨p, 2, none⟩ (.int .i64 x.d)).alloc (.cells #[.int .i64 y.n, .int .i64 y.a, .int .i64 y.d] 33)) :=
  ⟨p, _, rfl, rfl, keepB (balloc _ _) (set3 K), by have := one_block (((w1.setCell ⟨p, 0, none⟩ (.int .i64 x.n)).setCell ⟨p, 1, none⟩ (.int .i64 x.a)).setCell ⟨p, 2, none⟩ (.int .i64 x.d)) (.cells #[.int .i64 y.n, .int .i64 y.a, .int .i64 y.d] 33); simpa using this, btrans (bel3 hB hp) (balloc _ _)⟩
theorem gtAS {W w1 : World} {q : Nat} {o1 o2 o3 : Value} (hB : Below W.heap.size W w1) (K : w1.heap[q]? = some (.cells #[o1, o2, o3] 33 (0, 0))) (hq : W.heap.size ≤ q) (x y : HaltV) :
    GotTwo W x y (.pointer (some ⟨w1.heap.size, 0, none⟩)) (.pointer (some ⟨q, 0, none⟩)) ((((w1.setCell ⟨q, 0, none⟩ (.int .i64 y.n)).setCell ⟨q, 1, none⟩ (.int .i64 y.a)).setCell ⟨q, 2, none⟩ (.int .i64 y.d)).alloc (.cells #[.int .i64 x.n, .int .i64 x.a, .int .i64 x.d] 33)) :=
  ⟨_, q, rfl, rfl, by have := one_block (((w1.setCell ⟨q, 0, none⟩ (.int .i64 y.n)).setCell ⟨q, 1, none⟩ (.int .i64 y.a)).setCell ⟨q, 2, none⟩ (.int .i64 y.d)) (.cells #[.int .i64 x.n, .int .i64 x.a, .int .i64 x.d] 33); simpa using this, keepB (balloc _ _) (set3 K), btrans (bel3 hB hq) (balloc _ _)⟩
theorem gtAA {W w1 : World} (hB : Below W.heap.size W w1) (x y : HaltV) :
    GotTwo W x y (.pointer (some ⟨w1.heap.size, 0, none⟩)) (.pointer (some ⟨w1.heap.size + 1, 0, none⟩)) ((w1.alloc (.cells #[.int .i64 x.n, .int .i64 x.a, .int .i64 x.d] 33)).alloc (.cells #[.int .i64 y.n, .int .i64 y.a, .int .i64 y.d] 33)) :=
  ⟨_, _, rfl, rfl, (twoB w1 _ _).1, (twoB w1 _ _).2, btrans hB (btrans (balloc _ _) (balloc _ _))⟩
theorem gtBB {W w1 : World} (hB : Below W.heap.size W w1) (x y : HaltV) :
    GotTwo W x y (.pointer (some ⟨w1.heap.size + 1, 0, none⟩)) (.pointer (some ⟨w1.heap.size, 0, none⟩)) ((w1.alloc (.cells #[.int .i64 y.n, .int .i64 y.a, .int .i64 y.d] 33)).alloc (.cells #[.int .i64 x.n, .int .i64 x.a, .int .i64 x.d] 33)) :=
  ⟨_, _, rfl, rfl, (twoB w1 _ _).2, (twoB w1 _ _).1, btrans hB (btrans (balloc _ _) (balloc _ _))⟩
theorem threeC {w : World} {b : Nat} {c0 c1 c2 : Value} {t : TypeId} (h : w.heap[b]? = some (.cells #[c0, c1, c2] t (0, 0))) :
    (w.cell? ⟨b, 0, none⟩ = some c0 ∧ w.cell? ⟨b, 1, none⟩ = some c1 ∧ w.cell? ⟨b, 2, none⟩ = some c2) ∧ w.frozen? ⟨b, 0, none⟩ = false ∧ w.frozen? ⟨b, 1, none⟩ = false ∧ w.frozen? ⟨b, 2, none⟩ = false :=
  ⟨⟨Go.Joins.cell_of_block h 0, Go.Joins.cell_of_block h 1, Go.Joins.cell_of_block h 2⟩, Go.Joins.unfrozen_of_block h 0, Go.Joins.unfrozen_of_block h 1, Go.Joins.unfrozen_of_block h 2⟩

set_option maxRecDepth 20000 in
set_option maxHeartbeats 6400000 in
theorem cLegsI (a : Option Addr) (cap : Nat) (ts : List TripV) (la : Option Addr) (lc : Nat) (es : List LegV) (ch : Int) (w : World) (hz : Trips w a ts) (hS : Small ts) (he : Legs w la es) (hel : es.length ≤ 1048576) :
    Calls Tryz.prog 10 #[.slice a ts.length cap, .slice la es.length lc, .int .i64 ch] w (AnsIff w (LegsP ts es ch)) := by
  have HB := balloc w (.cells #[.slice a ts.length cap] 24)
  have X := one_block w (.cells #[.slice a ts.length cap] 24)
  have x0 := Go.Joins.cell_of_block X 0
  go_enter Tryz.func10, Tryz.ntmps10
  go_wp2_with fail
  refine (cTableI a cap ts _ (hz.below HB) hS).mono ?_
  rintro e w1 ⟨r, rfl, hr, hb⟩
  replace HB := btrans HB hb
  replace X := keepB hb X
  clear x0 hb
  have x0 := Go.Joins.cell_of_block X 0
  cases r
  · have hF : Hid (¬ LegsP ts es ch) := hide (fun q => absurd (hr.2 q.1) (by decide))
    clear hr
    go_wp2
    go_ret
    exact AnsIff.no hF.out HB
  have hT := hide (hr.1 rfl)
  have hg := table_gd hT.out
  have hl24 := hg.few
  clear hr
  go_wp2_with fail
  refine (cChangeI ch _).mono ?_
  rintro e w2 ⟨rfl, hw⟩
  subst w2
  cases hc : inB ch 0 60
  · have hF : Hid (¬ LegsP ts es ch) := hide (fun q => by have := q.2.1; rw [hc] at this; cases this)
    clear hg
    go_wp2
    go_ret
    exact AnsIff.no hF.out HB
  obtain ⟨hc0, hc1⟩ := inB_true hc
  by_cases h5 : 5 < es.length
  · have h5' : (5 : Int) < (es.length : Int) := by omega
    have hF : Hid (¬ LegsP ts es ch) := hide (fun q => by have := q.2.2.1; omega)
    clear hg hc
    go_wp2
    go_ret
    exact AnsIff.no hF.out HB
  have h5' : ¬ ((5 : Int) < (es.length : Int)) := by omega
  have h5n : es.length ≤ 5 := by omega
  have CA := cAllLegs a w.heap.size cap ts la lc es w1 (hz.below HB) hl24 x0 (he.below HB) h5n
  replace hc := hide hc
  go_wp2_with fail
  refine CA.mono ?_
  rintro e w2 ⟨r, rfl, hr, hb⟩
  replace HB := btrans HB hb
  replace X := keepB hb X
  clear x0 hb CA
  cases r
  · have hF : Hid (¬ LegsP ts es ch) := hide (fun q => absurd (hr.2 q.2.2.2.1) (by decide))
    clear hr hg
    go_wp2
    go_ret
    exact AnsIff.no hF.out HB
  have hA := hide (hr.1 rfl)
  clear hr
  go_wp2
  go_loopw [7] (fun ii wr => ∃ i : Nat, 1 ≤ i ∧ (i ≤ es.length ∨ i = 1) ∧ ii = .int .i64 i ∧ Hid (∀ k, k + 1 < i → JoinG ts ch (es.getD k LegV.zero) (es.getD (k + 1) LegV.zero)) ∧ wr.heap[w.heap.size]? = some (.cells #[.slice a ts.length cap] 24 (0, 0)) ∧ Below w.heap.size w wr) (fun ii _ => es.length - (intOf ii).toNat)
  case atStart => exact ⟨1, Nat.le_refl _, .inr rfl, rfl, hide (fun k hk => by omega), X, HB⟩
  case round =>
    clear X HB
    obtain ⟨i, hi1, hi2, rfl, hI, X, hb⟩ := hrel
    by_cases hlt : i < es.length
    · have hlt' : (i : Int) < (es.length : Int) := by omega
      obtain ⟨j, hj⟩ : ∃ j, j + 1 = i := ⟨i - 1, by omega⟩
      have hw1 : IntKind.i64.wrap ((i : Int) - 1) = (j : Int) := by rw [wrap_in _ (by omega) (by omega)]; omega
      have hi0 : (0 : Int) ≤ (i : Int) := Int.natCast_nonneg _
      have hj0 : (0 : Int) ≤ (j : Int) := Int.natCast_nonneg _
      have hjl : (j : Int) < (es.length : Int) := by omega
      have hjn : j < es.length := by omega
      have hGj := hA.out j hjn
      have hGi := hA.out i hlt
      rcases he with h | ⟨b, off, rfl, hcs⟩
      · simp [h] at hlt
      obtain ⟨p0, p1, p2⟩ := hcs j hjn
      obtain ⟨q0, q1, q2⟩ := hcs i hlt
      replace p0 := ble hb p0
      replace p1 := ble hb p1
      replace p2 := ble hb p2
      replace q0 := ble hb q0
      replace q1 := ble hb q1
      replace q2 := ble hb q2
      have hNo : Hid (¬ JoinG ts ch (es.getD j LegV.zero) (es.getD i LegV.zero) → ¬ LegsP ts es ch) := hide (fun h q => h (by have := q.2.2.2.2 j (by omega); rw [hj] at this; exact this))
      have hYes : Hid (JoinG ts ch (es.getD j LegV.zero) (es.getD i LegV.zero) → ∀ k, k + 1 < i + 1 → JoinG ts ch (es.getD k LegV.zero) (es.getD (k + 1) LegV.zero)) := hide (fun h k hk => by
        by_cases e : k = j
        · subst e; rw [hj]; exact h
        · exact hI.out k (by omega))
      replace hj := hide hj
      generalize es.getD j LegV.zero = P at *
      generalize es.getD i LegV.zero = Q at *
      obtain ⟨pt, po, pf⟩ := P
      obtain ⟨qt, qo, qf⟩ := Q
      obtain ⟨⟨g1, g2⟩, g3, g4, g5⟩ := hGj
      obtain ⟨⟨g6, g7⟩, g8, g9, g10⟩ := hGi
      dsimp only at *
      obtain ⟨PT, rfl⟩ : ∃ n : Nat, pt = n := ⟨pt.toNat, by omega⟩
      obtain ⟨PF, rfl⟩ : ∃ n : Nat, pf = n := ⟨pf.toNat, by omega⟩
      obtain ⟨QT, rfl⟩ : ∃ n : Nat, qt = n := ⟨qt.toNat, by omega⟩
      obtain ⟨QO, rfl⟩ : ∃ n : Nat, qo = n := ⟨qo.toNat, by omega⟩
      have hJ : Hid (JoinG ts ch ⟨PT, po, PF⟩ ⟨QT, QO, qf⟩ ↔ ((hcA ts QT QO).n = (hcA ts PT PF).n ∧ (hcA ts PT PF).a + ch ≤ (hcA ts QT QO).d)) := hide Iff.rfl
      rw [show ((PT : Int)).toNat = PT from rfl] at g5
      rw [show ((QT : Int)).toNat = QT from rfl] at g10
      have COff := fun w' (h : Below wr.heap.size wr w') => cOff a cap ts PT PF po w' (hz.below (btrans hb h)) (by omega) (by omega)
      have COn := fun w' (h : Below wr.heap.size wr w') => cOn a cap ts QT QO qf w' (hz.below (btrans hb h)) (by omega) (by omega)
      have hrn := hg.rng PT PF (by omega) (by omega)
      generalize hcA ts PT PF = x at *
      generalize hcA ts QT QO = y at *
      have x0 := Go.Joins.cell_of_block X 0
      have hxl := lt_of_block X
      have hbl := cell_lt p0
      clear hcs hI
      have h0 : Below wr.heap.size wr wr.drew := (Below.refl _ _).drew
      unfold HaltV.val at COff COn
      have d1 := fun (w1 : World) (o1 : Obj) (h : Below (wr.alloc o1).drew.heap.size (wr.alloc o1).drew w1) => keepB h (one_block wr o1)
      have d2 := fun (w1 : World) (o1 o2 : Obj) (h : Below ((wr.alloc o1).alloc o2).drew.heap.size ((wr.alloc o1).alloc o2).drew w1) => keepB h (twoB wr o1 o2).1
      have d3 := fun (w1 : World) (o1 o2 : Obj) (h : Below ((wr.alloc o1).alloc o2).drew.heap.size ((wr.alloc o1).alloc o2).drew w1) => keepB h (twoB wr o1 o2).2
      have n00 : wr.heap.size ≠ b := by omega
      have n01 : wr.heap.size ≠ w.heap.size := by omega
      have n10 : wr.heap.size + 1 ≠ b := by omega
      have n11 : wr.heap.size + 1 ≠ w.heap.size := by omega
      go_upto_region 8 with fail
      go_cut [8, 9] from 46 to 59 (fun sv cv wc => GotTwo wr x y sv cv wc)
      case first =>
        go_region_held3 (fun w' => w'.cell? ⟨b, off + j * 3, none⟩ = some (.int .i64 PT) ∧ w'.cell? ⟨b, off + j * 3 + 1, none⟩ = some (.int .i64 po) ∧ w'.cell? ⟨b, off + j * 3 + 2, none⟩ = some (.int .i64 PF) ∧ w'.cell? ⟨b, off + i * 3, none⟩ = some (.int .i64 QT) ∧ w'.cell? ⟨b, off + i * 3 + 1, none⟩ = some (.int .i64 QO) ∧ w'.cell? ⟨b, off + i * 3 + 2, none⟩ = some (.int .i64 qf) ∧ w'.cell? ⟨w.heap.size, 0, none⟩ = some (.slice a ts.length cap)) (go_keep) (first
            | (go_at_call 26; first
              | (with_reducible refine (COff _ h0).mono ?_; rintro e wf ⟨rfl, hbf⟩; have hBa := btrans h0 hbf; have hsa := hBa.size; have hs0 := hBa.size; have nwf00 := ne_z hbl hs0; have nwf01 := ne_z hxl hs0; have nwf10 := ne_s hbl hs0; have nwf11 := ne_s hxl hs0; have mwf00 := (ne_z hbl hs0).symm; have mwf01 := (ne_z hxl hs0).symm; have mwf10 := (ne_s hbl hs0).symm; have mwf11 := (ne_s hxl hs0).symm; have v0 := ble hBa p0; have v1 := ble hBa p1; have v2 := ble hBa p2; have v3 := ble hBa q0; have v4 := ble hBa q1; have v5 := ble hBa q2; have v6 := ble hBa x0; have vb := cell_lt v0; have vx := cell_lt v6)
              | (with_reducible refine (COff _ (balloc _ _).drew).mono ?_; rintro e wf ⟨rfl, hbf⟩; have hBa := btrans (balloc _ _).drew hbf; have hsa := hBa.size; have K1 := d1 _ _ hbf; have z1 := lt_of_block K1; obtain ⟨⟨k10, k11, k12⟩, f10, f11, f12⟩ := threeC K1; have hs0 := hBa.size; have nwf00 := ne_z hbl hs0; have nwf01 := ne_z hxl hs0; have nwf10 := ne_s hbl hs0; have nwf11 := ne_s hxl hs0; have mwf00 := (ne_z hbl hs0).symm; have mwf01 := (ne_z hxl hs0).symm; have mwf10 := (ne_s hbl hs0).symm; have mwf11 := (ne_s hxl hs0).symm; have v0 := ble hBa p0; have v1 := ble hBa p1; have v2 := ble hBa p2; have v3 := ble hBa q0; have v4 := ble hBa q1; have v5 := ble hBa q2; have v6 := ble hBa x0; have vb := cell_lt v0; have vx := cell_lt v6)
              | (with_reducible refine (COff _ (btrans (balloc _ _) (balloc _ _)).drew).mono ?_; rintro e wf ⟨rfl, hbf⟩; have hBa := btrans (btrans (balloc _ _) (balloc _ _)).drew hbf; have hsa := hBa.size; have K1 := d2 _ _ _ hbf; have z1 := lt_of_block K1; have K2 := d3 _ _ _ hbf; have z2 := lt_of_block K2; obtain ⟨⟨k10, k11, k12⟩, f10, f11, f12⟩ := threeC K1; obtain ⟨⟨k20, k21, k22⟩, f20, f21, f22⟩ := threeC K2; have hs0 := hBa.size; have nwf00 := ne_z hbl hs0; have nwf01 := ne_z hxl hs0; have nwf10 := ne_s hbl hs0; have nwf11 := ne_s hxl hs0; have mwf00 := (ne_z hbl hs0).symm; have mwf01 := (ne_z hxl hs0).symm; have mwf10 := (ne_s hbl hs0).symm; have mwf11 := (ne_s hxl hs0).symm; have v0 := ble hBa p0; have v1 := ble hBa p1; have v2 := ble hBa p2; have v3 := ble hBa q0; have v4 := ble hBa q1; have v5 := ble hBa q2; have v6 := ble hBa x0; have vb := cell_lt v0; have vx := cell_lt v6)
              | (with_reducible refine (COff _ hBa).mono ?_; rintro e wg ⟨rfl, hbg⟩; have hBb := btrans hBa hbg; (try (have K1 := keepB hbg K1; obtain ⟨⟨k10, k11, k12⟩, f10, f11, f12⟩ := threeC K1; have y1 := lt_of_block K1; have ya1 := Nat.ne_of_lt y1; have yb1 := (Nat.ne_of_lt y1).symm; have zc1 := Nat.ne_of_lt z1; have zd1 := (Nat.ne_of_lt z1).symm)); (try (have K2 := keepB hbg K2; obtain ⟨⟨k20, k21, k22⟩, f20, f21, f22⟩ := threeC K2; have y2 := lt_of_block K2; have ya2 := Nat.ne_of_lt y2; have yb2 := (Nat.ne_of_lt y2).symm; have zc2 := Nat.ne_of_lt z2; have zd2 := (Nat.ne_of_lt z2).symm)); have hs0 := hBb.size; have nwg00 := ne_z hbl hs0; have nwg01 := ne_z hxl hs0; have nwg10 := ne_s hbl hs0; have nwg11 := ne_s hxl hs0; have mwg00 := (ne_z hbl hs0).symm; have mwg01 := (ne_z hxl hs0).symm; have mwg10 := (ne_s hbl hs0).symm; have mwg11 := (ne_s hxl hs0).symm; have v0 := ble hBb p0; have v1 := ble hBb p1; have v2 := ble hBb p2; have v3 := ble hBb q0; have v4 := ble hBb q1; have v5 := ble hBb q2; have v6 := ble hBb x0; have vb := cell_lt v0; have vx := cell_lt v6)
              | (with_reducible refine (COff _ (btrans hBa (balloc _ _))).mono ?_; rintro e wg ⟨rfl, hbg⟩; have hBb := btrans (btrans hBa (balloc _ _)) hbg; (try (have K1 := keepB hbg (keepB (balloc _ _) K1); obtain ⟨⟨k10, k11, k12⟩, f10, f11, f12⟩ := threeC K1; have y1 := lt_of_block K1; have ya1 := Nat.ne_of_lt y1; have yb1 := (Nat.ne_of_lt y1).symm; have zc1 := Nat.ne_of_lt z1; have zd1 := (Nat.ne_of_lt z1).symm)); (try (have K2 := keepB hbg (keepB (balloc _ _) K2); obtain ⟨⟨k20, k21, k22⟩, f20, f21, f22⟩ := threeC K2; have y2 := lt_of_block K2; have ya2 := Nat.ne_of_lt y2; have yb2 := (Nat.ne_of_lt y2).symm; have zc2 := Nat.ne_of_lt z2; have zd2 := (Nat.ne_of_lt z2).symm)); have K3 := keepB hbg (one_block _ _); have y3 := lt_of_block K3; have ya3 := Nat.ne_of_lt y3; have yb3 := (Nat.ne_of_lt y3).symm; obtain ⟨⟨k30, k31, k32⟩, f30, f31, f32⟩ := threeC K3; have hs0 := hBb.size; have nwg00 := ne_z hbl hs0; have nwg01 := ne_z hxl hs0; have nwg10 := ne_s hbl hs0; have nwg11 := ne_s hxl hs0; have mwg00 := (ne_z hbl hs0).symm; have mwg01 := (ne_z hxl hs0).symm; have mwg10 := (ne_s hbl hs0).symm; have mwg11 := (ne_s hxl hs0).symm; have v0 := ble hBb p0; have v1 := ble hBb p1; have v2 := ble hBb p2; have v3 := ble hBb q0; have v4 := ble hBb q1; have v5 := ble hBb q2; have v6 := ble hBb x0; have vb := cell_lt v0; have vx := cell_lt v6)
              | (with_reducible refine (COff _ (btrans (btrans hBa (balloc _ _)) (balloc _ _))).mono ?_; rintro e wg ⟨rfl, hbg⟩; have hBb := btrans (btrans (btrans hBa (balloc _ _)) (balloc _ _)) hbg; have K3 := keepB hbg (twoB _ _ _).1; have y3 := lt_of_block K3; obtain ⟨⟨k30, k31, k32⟩, f30, f31, f32⟩ := threeC K3; have K4 := keepB hbg (twoB _ _ _).2; have y4 := lt_of_block K4; obtain ⟨⟨k40, k41, k42⟩, f40, f41, f42⟩ := threeC K4; have hs0 := hBb.size; have nwg00 := ne_z hbl hs0; have nwg01 := ne_z hxl hs0; have nwg10 := ne_s hbl hs0; have nwg11 := ne_s hxl hs0; have mwg00 := (ne_z hbl hs0).symm; have mwg01 := (ne_z hxl hs0).symm; have mwg10 := (ne_s hbl hs0).symm; have mwg11 := (ne_s hxl hs0).symm; have v0 := ble hBb p0; have v1 := ble hBb p1; have v2 := ble hBb p2; have v3 := ble hBb q0; have v4 := ble hBb q1; have v5 := ble hBb q2; have v6 := ble hBb x0; have vb := cell_lt v0; have vx := cell_lt v6))
            | (go_at_call 27; first
              | (with_reducible refine (COn _ h0).mono ?_; rintro e wf ⟨rfl, hbf⟩; have hBa := btrans h0 hbf; have hsa := hBa.size; have hs0 := hBa.size; have nwf00 := ne_z hbl hs0; have nwf01 := ne_z hxl hs0; have nwf10 := ne_s hbl hs0; have nwf11 := ne_s hxl hs0; have mwf00 := (ne_z hbl hs0).symm; have mwf01 := (ne_z hxl hs0).symm; have mwf10 := (ne_s hbl hs0).symm; have mwf11 := (ne_s hxl hs0).symm; have v0 := ble hBa p0; have v1 := ble hBa p1; have v2 := ble hBa p2; have v3 := ble hBa q0; have v4 := ble hBa q1; have v5 := ble hBa q2; have v6 := ble hBa x0; have vb := cell_lt v0; have vx := cell_lt v6)
              | (with_reducible refine (COn _ (balloc _ _).drew).mono ?_; rintro e wf ⟨rfl, hbf⟩; have hBa := btrans (balloc _ _).drew hbf; have hsa := hBa.size; have K1 := d1 _ _ hbf; have z1 := lt_of_block K1; obtain ⟨⟨k10, k11, k12⟩, f10, f11, f12⟩ := threeC K1; have hs0 := hBa.size; have nwf00 := ne_z hbl hs0; have nwf01 := ne_z hxl hs0; have nwf10 := ne_s hbl hs0; have nwf11 := ne_s hxl hs0; have mwf00 := (ne_z hbl hs0).symm; have mwf01 := (ne_z hxl hs0).symm; have mwf10 := (ne_s hbl hs0).symm; have mwf11 := (ne_s hxl hs0).symm; have v0 := ble hBa p0; have v1 := ble hBa p1; have v2 := ble hBa p2; have v3 := ble hBa q0; have v4 := ble hBa q1; have v5 := ble hBa q2; have v6 := ble hBa x0; have vb := cell_lt v0; have vx := cell_lt v6)
              | (with_reducible refine (COn _ (btrans (balloc _ _) (balloc _ _)).drew).mono ?_; rintro e wf ⟨rfl, hbf⟩; have hBa := btrans (btrans (balloc _ _) (balloc _ _)).drew hbf; have hsa := hBa.size; have K1 := d2 _ _ _ hbf; have z1 := lt_of_block K1; have K2 := d3 _ _ _ hbf; have z2 := lt_of_block K2; obtain ⟨⟨k10, k11, k12⟩, f10, f11, f12⟩ := threeC K1; obtain ⟨⟨k20, k21, k22⟩, f20, f21, f22⟩ := threeC K2; have hs0 := hBa.size; have nwf00 := ne_z hbl hs0; have nwf01 := ne_z hxl hs0; have nwf10 := ne_s hbl hs0; have nwf11 := ne_s hxl hs0; have mwf00 := (ne_z hbl hs0).symm; have mwf01 := (ne_z hxl hs0).symm; have mwf10 := (ne_s hbl hs0).symm; have mwf11 := (ne_s hxl hs0).symm; have v0 := ble hBa p0; have v1 := ble hBa p1; have v2 := ble hBa p2; have v3 := ble hBa q0; have v4 := ble hBa q1; have v5 := ble hBa q2; have v6 := ble hBa x0; have vb := cell_lt v0; have vx := cell_lt v6)
              | (with_reducible refine (COn _ hBa).mono ?_; rintro e wg ⟨rfl, hbg⟩; have hBb := btrans hBa hbg; (try (have K1 := keepB hbg K1; obtain ⟨⟨k10, k11, k12⟩, f10, f11, f12⟩ := threeC K1; have y1 := lt_of_block K1; have ya1 := Nat.ne_of_lt y1; have yb1 := (Nat.ne_of_lt y1).symm; have zc1 := Nat.ne_of_lt z1; have zd1 := (Nat.ne_of_lt z1).symm)); (try (have K2 := keepB hbg K2; obtain ⟨⟨k20, k21, k22⟩, f20, f21, f22⟩ := threeC K2; have y2 := lt_of_block K2; have ya2 := Nat.ne_of_lt y2; have yb2 := (Nat.ne_of_lt y2).symm; have zc2 := Nat.ne_of_lt z2; have zd2 := (Nat.ne_of_lt z2).symm)); have hs0 := hBb.size; have nwg00 := ne_z hbl hs0; have nwg01 := ne_z hxl hs0; have nwg10 := ne_s hbl hs0; have nwg11 := ne_s hxl hs0; have mwg00 := (ne_z hbl hs0).symm; have mwg01 := (ne_z hxl hs0).symm; have mwg10 := (ne_s hbl hs0).symm; have mwg11 := (ne_s hxl hs0).symm; have v0 := ble hBb p0; have v1 := ble hBb p1; have v2 := ble hBb p2; have v3 := ble hBb q0; have v4 := ble hBb q1; have v5 := ble hBb q2; have v6 := ble hBb x0; have vb := cell_lt v0; have vx := cell_lt v6)
              | (with_reducible refine (COn _ (btrans hBa (balloc _ _))).mono ?_; rintro e wg ⟨rfl, hbg⟩; have hBb := btrans (btrans hBa (balloc _ _)) hbg; (try (have K1 := keepB hbg (keepB (balloc _ _) K1); obtain ⟨⟨k10, k11, k12⟩, f10, f11, f12⟩ := threeC K1; have y1 := lt_of_block K1; have ya1 := Nat.ne_of_lt y1; have yb1 := (Nat.ne_of_lt y1).symm; have zc1 := Nat.ne_of_lt z1; have zd1 := (Nat.ne_of_lt z1).symm)); (try (have K2 := keepB hbg (keepB (balloc _ _) K2); obtain ⟨⟨k20, k21, k22⟩, f20, f21, f22⟩ := threeC K2; have y2 := lt_of_block K2; have ya2 := Nat.ne_of_lt y2; have yb2 := (Nat.ne_of_lt y2).symm; have zc2 := Nat.ne_of_lt z2; have zd2 := (Nat.ne_of_lt z2).symm)); have K3 := keepB hbg (one_block _ _); have y3 := lt_of_block K3; have ya3 := Nat.ne_of_lt y3; have yb3 := (Nat.ne_of_lt y3).symm; obtain ⟨⟨k30, k31, k32⟩, f30, f31, f32⟩ := threeC K3; have hs0 := hBb.size; have nwg00 := ne_z hbl hs0; have nwg01 := ne_z hxl hs0; have nwg10 := ne_s hbl hs0; have nwg11 := ne_s hxl hs0; have mwg00 := (ne_z hbl hs0).symm; have mwg01 := (ne_z hxl hs0).symm; have mwg10 := (ne_s hbl hs0).symm; have mwg11 := (ne_s hxl hs0).symm; have v0 := ble hBb p0; have v1 := ble hBb p1; have v2 := ble hBb p2; have v3 := ble hBb q0; have v4 := ble hBb q1; have v5 := ble hBb q2; have v6 := ble hBb x0; have vb := cell_lt v0; have vx := cell_lt v6)
              | (with_reducible refine (COn _ (btrans (btrans hBa (balloc _ _)) (balloc _ _))).mono ?_; rintro e wg ⟨rfl, hbg⟩; have hBb := btrans (btrans (btrans hBa (balloc _ _)) (balloc _ _)) hbg; have K3 := keepB hbg (twoB _ _ _).1; have y3 := lt_of_block K3; obtain ⟨⟨k30, k31, k32⟩, f30, f31, f32⟩ := threeC K3; have K4 := keepB hbg (twoB _ _ _).2; have y4 := lt_of_block K4; obtain ⟨⟨k40, k41, k42⟩, f40, f41, f42⟩ := threeC K4; have hs0 := hBb.size; have nwg00 := ne_z hbl hs0; have nwg01 := ne_z hxl hs0; have nwg10 := ne_s hbl hs0; have nwg11 := ne_s hxl hs0; have mwg00 := (ne_z hbl hs0).symm; have mwg01 := (ne_z hxl hs0).symm; have mwg10 := (ne_s hbl hs0).symm; have mwg11 := (ne_s hxl hs0).symm; have v0 := ble hBb p0; have v1 := ble hBb p1; have v2 := ble hBb p2; have v3 := ble hBb q0; have v4 := ble hBb q1; have v5 := ble hBb q2; have v6 := ble hBb x0; have vb := cell_lt v0; have vx := cell_lt v6)))
        all_goals go_wp2_with fail
        all_goals go_meet
        all_goals first
          | (with_reducible exact gtSS hBb (by assumption) (by assumption) (by omega) (by omega) (by omega) _ _)
          | (with_reducible exact gtSA hBb (by assumption) (by omega) _ _)
          | (with_reducible exact gtAS hBb (by assumption) (by omega) _ _)
          | (with_reducible exact gtAA hBb _ _)
          | (with_reducible exact gtBB hBb _ _)
      case rest =>
      clear p0 p1 p2 q0 q1 q2 x0 COff COn d1 d2 d3
      obtain ⟨bp, bq, rfl, rfl, P0, Q0, B2⟩ := hcut
      have X2 := keepB B2 X
      have hb2 := btrans hb B2
      obtain ⟨⟨p0, p1, p2⟩, -⟩ := threeC P0
      obtain ⟨⟨q0, q1, q2⟩, -⟩ := threeC Q0
      have hw2 : IntKind.i64.wrap (x.a + ch) = x.a + ch := wrap_in _ (by omega) (by omega)
      have hN2 : Hid (¬ (y.n = x.n ∧ x.a + ch ≤ y.d) → ¬ LegsP ts es ch) := hide (fun h => hNo.out (fun k => h (hJ.out.1 k)))
      have hY2 := hide (fun (h : y.n = x.n ∧ x.a + ch ≤ y.d) => hYes.out (hJ.out.2 h))
      clear hNo hYes hJ P0 Q0 X hb B2 h0
      generalize x.n = xn at *
      generalize x.a = xa at *
      generalize x.d = xd at *
      generalize y.n = yn at *
      generalize y.a = ya at *
      generalize y.d = yd at *
      by_cases e1 : yn = xn
      · subst e1
        by_cases e2 : yd < xa + ch
        · have hF := hide (hN2.out (fun h => by omega))
          clear hN2 hY2
          go_wp2
          go_ret
          exact AnsIff.no hF.out hb2
        · have hF := hide (hY2.out ⟨rfl, by omega⟩)
          clear hN2 hY2
          go_wp2
          go_roundw
          case rel => exact ⟨i + 1, by omega, .inl (by omega), by go_num, hF, X2, hb2⟩
          case measure => simp [intOf]; omega
      · have hF := hide (hN2.out (fun h => e1 h.1))
        clear hN2 hY2
        go_wp2
        go_ret
        exact AnsIff.no hF.out hb2
    · have hlt' : ¬ (i : Int) < (es.length : Int) := by omega
      have hF : Hid (LegsP ts es ch) := hide ⟨hT.out, hc.out, h5n, hA.out, fun k hk => hI.out k (by omega)⟩
      clear hI X hg
      go_wp2
      go_ret
      exact AnsIff.yes hF.out hb
end Go.Proofs.YtajeiiebddnchaaGreatDoor
