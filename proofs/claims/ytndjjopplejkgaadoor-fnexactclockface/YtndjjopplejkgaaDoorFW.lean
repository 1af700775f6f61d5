/- The walk of the law on Clockface. -/
import Derived.Test.YtndjjopplejkgaaDoorFD
import Derived.Test.YtndjjopplejkgaaDoorSKb
import Derived.Test.YtndjjopplejkgaaDoorP
namespace Go.Proofs.YtndjjopplejkgaaDoor
open Go.RowKit
theorem TabO.onT_lt {B : Nat} {w : World} {v : Value} {vs : List (Value × Value)} {ts : List TripV} (T : TabO B w v vs ts) {b : Nat} (h : OnT v vs b) : b < w.heap.size := by
  rcases h with h | ⟨m, hm, h⟩
  · exact own_blk_lt T.own b h
  · rw [getD_v hm] at h
    exact (tripOwn_lt (T.each m hm) b h).2
theorem onT_row {v : Value} {vs : List (Value × Value)} {m : Nat} (hm : m < vs.length) {b : Nat} (h : vs[m].2.ownBlock = some b) : OnT v vs b := .inr ⟨m, hm, by rw [getD_v hm]; exact h⟩
theorem TabO.farO {B : Nat} {w w' : World} {v : Value} {vs : List (Value × Value)} {ts : List TripV} {r : Option Nat} (T : TabO B w v vs ts) (hg : w.grownBy w' r) (hne : ∀ b, OnT v vs b → r ≠ some b) : TabO B w' v vs ts :=
  ⟨own_far T.own hg (fun k hk e => hne k (.inl hk) e.symm), T.len, fun j hj => tripOwn_far (T.each j hj) hg (fun k hk => hne k (onT_row hj hk)), T.apart, T.pair⟩
theorem TabO.frO {P : Nat → Prop} {B : Nat} {w w' : World} {v : Value} {vs : List (Value × Value)} {ts : List TripV} (T : TabO B w v vs ts) (hs : Fr P w w') (hne : ∀ b, OnT v vs b → ¬ P b) : TabO B w' v vs ts :=
  ⟨own_fr T.own hs (fun k hk => hne k (.inl hk)), T.len, fun j hj => by
    obtain ⟨h1, a, c, h2, h3⟩ := T.each j hj
    exact ⟨h1, a, c, h2, own_fr h3 hs (fun k hk => hne k (onT_row hj (by rw [h2]; exact hk)))⟩, T.apart, T.pair⟩
theorem grow_below8 {w0 w w' : World} {r : Option Nat} (hb : Below w0.heap.size w0 w) (h : w.grownBy w' r) (hr : ∀ k, r = some k → w0.heap.size ≤ k) : Below w0.heap.size w0 w' :=
  ⟨h.os.trans hb.os, h.tape.trans hb.tape, h.output.trans hb.output, Nat.le_trans hb.size h.size, fun k hk => (h.block k (Nat.lt_of_lt_of_le hk hb.size) (fun e => by have := hr k e.symm; omega)).trans (hb.block k hk)⟩

set_option maxRecDepth 20000 in
set_option maxHeartbeats 6400000 in
theorem walkClockface (s : ByteArray) (a : Option Addr) (cap : Nat) (cs : List HaltV) (st n : Int) (w : World) (ht : Tab w) (hz : Halts w a cs) (hm : cs.length ≤ maxLen) (hms : s.size ≤ maxLen) :
    Calls Tryd.prog 4 #[.agg #[.string s, .slice a cs.length cap], .int .i64 st, .int .i64 n] w fun e w' => e = .returned (.bool true) ∧ Below w.heap.size w w' := by
  have A0 := one_block w (.cells #[.string s, .slice a cs.length cap] 39)
  have HB := balloc w (.cells #[.string s, .slice a cs.length cap] 39)
  go_enter Tryd.func4, Tryd.ntmps4
  go_wp2_with fail
  refine (cSzTrip s a cs.length cap 1048576 _ (by omega) (by omega) hm hms).mono ?_
  rintro e w1 ⟨r, rfl, hr, hb⟩
  replace HB := btrans HB hb
  replace A0 := blk_keep hb A0
  clear hb
  rcases hr with rfl | ⟨hr, hr0⟩
  · go_wp2
    go_ret
    exact ⟨rfl, HB⟩
  have hl : cs.length ≤ 1048576 := by omega
  have hs : s.size ≤ 1048576 := by omega
  have hr0' : ¬ (r < 0) := by omega
  clear hr hm hms
  obtain ⟨⟨x0, x1⟩, -⟩ := blk2 A0
  go_wp2_with fail
  refine (cToTrip s a cap cs _ (hz.below HB) hl).mono ?_
  rintro e w2 ⟨g2, rfl, o2, hb⟩
  replace HB := btrans HB hb
  replace A0 := blk_keep hb A0
  clear hb x0 x1
  go_wp2_with fail
  refine (cFaceS s _ _ cs st n _ (Halts.of_owns o2) hl hs).mono ?_
  rintro e w5 ⟨pa, pc, vs5, rfl, T5, hb⟩
  obtain ⟨f24, fc, hSo⟩ := faceA_fine ⟨s, cs⟩ st n
  generalize hOO : faceA ⟨s, cs⟩ st n = out at *
  replace hOO := hide hOO
  replace fc := hide fc
  replace HB := btrans HB hb
  replace A0 := blk_keep hb A0
  have lt5 := fun b (h : OnT _ vs5 b) => T5.onT_lt h
  have hA5lt := lt_of_block A0
  have hol := hSo.1
  clear hb o2
  obtain ⟨⟨x0, x1⟩, -⟩ := blk2 A0
  go_wp2_with fail
  refine (cToTrip s a cap cs _ (hz.below HB) hl).mono ?_
  rintro e w6 ⟨g4, rfl, o4, hb⟩
  have hs6 := HB.size
  have hg4 := own_from o4 (Nat.le_refl _) g4 rfl
  have hs6b := hb.size
  replace T5 := T5.below hb
  replace HB := btrans HB hb
  replace A0 := blk_keep hb A0
  clear hb x0 x1
  have X0 := one_block w6 (.cells #[.string s, .slice (some ⟨g4, 0, none⟩) cs.length cs.length] 26)
  have hb := balloc w6 (.cells #[.string s, .slice (some ⟨g4, 0, none⟩) cs.length cs.length] 26)
  have hg4' := own_blk_lt o4 g4 rfl
  replace HB := btrans HB hb
  replace A0 := blk_keep hb A0
  replace o4 := own_keep o4 hb
  replace T5 := T5.below hb
  clear hb
  obtain ⟨⟨x0, x1⟩, -⟩ := blk2 X0
  go_wp2_with fail
  generalize hH6 : w6.heap.size = h6 at *
  refine (cFaceI s _ _ cs st n _ (ht.below HB) (Halts.of_owns o4) hl (Nat.le_refl _) hs).mono ?_
  rintro e w8 ⟨qa, qc, vs8, rfl, T8, hb⟩
  rw [hOO.out] at T8
  rw [hOO.out]
  have ge8 := fun b (h : OnT _ vs8 b) => T8.onT h
  rw [sz1, hH6] at ge8
  replace HB := btrans HB hb
  replace T5 := T5.below hb
  replace o4 := own_keep o4 hb
  replace A0 := blk_keep hb A0
  replace X0 := blk_keep hb X0
  clear hb
  clear x0 x1
  go_wp2_with fail
  refine (cEqTrips qa pa qc pc out _ T8.trips T5.trips hSo).mono ?_
  rintro e w8a ⟨rfl, hb⟩
  replace HB := btrans HB hb
  replace T5 := T5.below hb
  replace T8 := T8.below hb
  replace o4 := own_keep o4 hb
  replace A0 := blk_keep hb A0
  replace X0 := blk_keep hb X0
  clear hb
  obtain ⟨⟨x0, x1⟩, -⟩ := blk2 X0
  obtain ⟨⟨y0, y1⟩, -⟩ := blk2 A0
  have hE := hz.below HB.drew
  go_wp2_with fail
  go_region_held3 (fun w' => w'.cell? ⟨h6, 0, none⟩ = some (.string s) ∧ w'.cell? ⟨h6, 1, none⟩ = some (.slice (some ⟨g4, 0, none⟩) cs.length cs.length) ∧ w'.cell? ⟨w.heap.size, 0, none⟩ = some (.string s) ∧ w'.cell? ⟨w.heap.size, 1, none⟩ = some (.slice a cs.length cap)) (go_keep) (first
    | (go_at_call 21; with_reducible refine (cEqTrip s _ _ _ _ cs _ P2 P3 hl).mono ?_; rintro e wb ⟨rfl, hbb⟩; have hb := btrans Bp hbb; clear hbb; obtain ⟨⟨v0, v1⟩, -⟩ := blk2 (blk_keep hb X0); obtain ⟨⟨v2, v3⟩, -⟩ := blk2 (blk_keep hb A0))
    | (go_at_call 18; with_reducible refine (cToTrip s a cap cs _ hE hl).mono ?_; rintro e wp ⟨g6, rfl, o6, hbp⟩; have Bp := undrew hbp; have P2 := Halts.of_owns (own_keep o4 Bp); have P3 := Halts.of_owns o6; clear hbp; obtain ⟨⟨v0, v1⟩, -⟩ := blk2 (blk_keep Bp X0); obtain ⟨⟨v2, v3⟩, -⟩ := blk2 (blk_keep Bp A0)))
  clear v0 v1 v2 v3 P2 P3 o6
  replace HB := btrans HB hb
  replace T5 := T5.below hb
  replace T8 := T8.below hb
  replace o4 := own_keep o4 hb
  replace A0 := blk_keep hb A0
  replace X0 := blk_keep hb X0
  clear hb
  clear Bp hE x0 x1 y0 y1
  obtain ⟨⟨x0, x1⟩, -⟩ := blk2 X0
  go_wp2_with fail
  refine (cMarkTrip _ cs.length s _ cs _ (.inl o4) hl).mono ?_
  rintro e w11 ⟨rfl, -, r11, G11, hr11⟩
  have hr12 : ∀ j, r11 = some j → j = g4 := fun j hj => by have := hr11 j hj; simp [Value.ownBlock] at this; omega
  clear x0 x1
  replace T5 := T5.farO G11 (fun b h e => by have := lt5 _ h; have := hr12 _ e; omega)
  replace T8 := T8.farO G11 (fun b h e => by have := ge8 _ h; have := hr12 _ e; omega)
  replace A0 := far_blk8 G11 A0 (fun j e => by have := hr12 _ e; omega)
  replace HB := grow_below8 HB G11 (fun k e => by have := hr12 _ e; omega)
  clear G11 o4 X0 hr11 hr12
  have hneg : ¬ ((1 : Int) + 3 * (cs.length : Int) < 0) := by omega
  go_wp2_with fail
  refine (cEqTrips qa pa qc pc out _ T8.trips T5.trips hSo).mono ?_
  rintro e w13 ⟨rfl, hb⟩
  replace HB := btrans HB hb
  replace T5 := T5.below hb
  replace T8 := T8.below hb
  replace A0 := blk_keep hb A0
  clear hb
  have hofI := hide (offT_in (k := 1) (by omega) fc.out out.length (Nat.le_refl _))
  go_wp2_with fail
  refine (cMarkTs _ _ vs8 out 1 _ T8 f24 fc.out (by omega) (by omega)).mono ?_
  rintro e w14 ⟨rfl, M8, F14⟩
  replace T5 := T5.frO F14 (fun b h e => by have h1 := lt5 _ h; have h2 := ge8 _ e; omega)
  replace A0 := blk_fr F14 A0 (fun e => by have h2 := ge8 _ e; omega)
  replace HB := F14.below HB (fun k e => by have h2 := ge8 _ e; omega)
  clear F14 T8
  obtain ⟨q0, q1⟩ := hofI.out
  generalize HQ : offT 1 out out.length = q at *
  have CH : ∀ w' B, MkT w' B (.slice qa out.length qc) out 1 → Calls Tryd.prog 24 #[.slice qa out.length qc, .int .i64 1] w' fun e w2 => e = .returned (.int .i64 q) ∧ Below w'.heap.size w' w2 := by
    intro w' B hM
    have := cHeldTs B _ out 1 w' hM f24 fc.out (by omega) (by omega)
    rw [HQ] at this
    exact this
  replace HQ := hide HQ
  have q2 : ¬ q < 0 := by omega
  go_wp2_with fail
  refine (CH _ _ M8).mono ?_
  rintro e w16 ⟨rfl, hb⟩
  replace HB := btrans HB hb
  replace T5 := T5.below hb
  replace M8 := M8.keep hb
  replace A0 := blk_keep hb A0
  clear hb
  obtain ⟨⟨x0, x1⟩, -⟩ := blk2 A0
  go_wp2_with fail
  refine (cToTrip s a cap cs _ (hz.below HB) hl).mono ?_
  rintro e w18 ⟨g6, rfl, o6, hb⟩
  replace HB := btrans HB hb
  replace T5 := T5.below hb
  replace M8 := M8.keep hb
  clear hb
  clear x0 x1 A0
  go_wp2_with fail
  refine (cFaceI s _ _ cs st n _ (ht.below HB) (Halts.of_owns o6) hl (Nat.le_refl _) hs).mono ?_
  rintro e w20 ⟨ra, rc, vs9, rfl, T9, hb⟩
  rw [hOO.out] at T9
  rw [hOO.out]
  clear o6
  replace HB := btrans HB hb
  replace T5 := T5.below hb
  replace M8 := M8.keep hb
  clear hb
  go_wp2_with fail
  refine (cEqTrips ra pa rc pc out _ T9.trips T5.trips hSo).mono ?_
  rintro e w21 ⟨rfl, hb⟩
  replace HB := btrans HB hb
  replace M8 := M8.keep hb
  clear hb T9 T5
  go_wp2_with fail
  refine (CH _ _ M8).mono ?_
  rintro e w23 ⟨rfl, hb⟩
  replace HB := btrans HB hb
  clear hb M8 CH
  go_wp2
  go_ret
  exact ⟨rfl, HB⟩
end Go.Proofs.YtndjjopplejkgaaDoor
