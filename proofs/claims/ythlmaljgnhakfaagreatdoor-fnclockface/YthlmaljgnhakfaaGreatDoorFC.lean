/- Clockface of the program. -/
import Derived.Test.YthlmaljgnhakfaaGreatDoorFM
import Derived.Test.YthlmaljgnhakfaaGreatDoorZA
import Derived.Test.YthlmaljgnhakfaaGreatDoorK
import Derived.Deep.RegionHeld3
namespace Go.Proofs.YthlmaljgnhakfaaGreatDoor
open Go.RowKit
theorem face_mul {k : Nat} {st : Int} (hk : k ≤ 24) (h1 : 1 ≤ st) (h2 : st ≤ 1440) : 0 ≤ (k : Int) * st ∧ (k : Int) * st ≤ 34560 := by
  have h3 : (0 : Int) ≤ (k : Int) := by omega
  refine ⟨Int.mul_nonneg h3 (by omega), ?_⟩
  have h4 : (k : Int) * st ≤ 24 * st := Int.mul_le_mul_of_nonneg_right (by omega) (by omega)
  omega
theorem TabO.lts {B : Nat} {w : World} {v : Value} {vs : List (Value × Value)} {ts : List TripV} (T : TabO B w v vs ts) : ∀ b, (v.ownBlock = some b ∨ ∃ j, ∃ hj : j < vs.length, vs[j].2.ownBlock = some b) → b < w.heap.size := by
  rintro b (h | ⟨j, hj, h⟩)
  · exact own_blk_lt T.own b h
  · exact (tripOwn_lt (T.each j hj) b h).2
theorem tripOwn_set {w : World} {lo g i : Nat} {u va vb : Value} {t : TripV} (h : TripOwn w lo va vb t) (hne : ∀ k, vb.ownBlock = some k → k ≠ g) : TripOwn (w.setCell ⟨g, i, none⟩ u) lo va vb t := by
  obtain ⟨h1, a, c, h2, h3⟩ := h
  subst h2
  exact ⟨h1, a, c, rfl, own_set h3 hne⟩
theorem TabO.setC {B g i : Nat} {u : Value} {w : World} {v : Value} {vs : List (Value × Value)} {ts : List TripV} (T : TabO B w v vs ts) (hne : ∀ b, (v.ownBlock = some b ∨ ∃ j, ∃ hj : j < vs.length, vs[j].2.ownBlock = some b) → b ≠ g) : TabO B (w.setCell ⟨g, i, none⟩ u) v vs ts :=
  ⟨own_set T.own (fun k hk => hne k (.inl hk)), T.len, fun j hj => tripOwn_set (T.each j hj) (fun k hk => hne k (.inr ⟨j, hj, hk⟩)), T.apart, T.pair⟩
theorem far_setb {w : World} {g b i : Nat} {u : Value} {o : Obj} (h : w.heap[b]? = some o) (hne : g ≠ b) : (w.setCell ⟨g, i, none⟩ u).heap[b]? = some o :=
  ((gset (World.grownBy.refl w _) i u).block b (lt_of_block h) (fun e => hne (by simpa using e.symm))).trans h
theorem far_blk8 {w w' : World} {r : Option Nat} (hgr : w.grownBy w' r) {b : Nat} {o : Obj} (h : w.heap[b]? = some o) (hne : ∀ j, r = some j → j ≠ b) : w'.heap[b]? = some o :=
  (hgr.block b (lt_of_block h) (fun e => hne b e.symm rfl)).trans h
/-- What the loop of Clockface holds. -/
def FaceIn (w : World) (t : TripV) (st : Int) (N : Nat) (v i : Value) (wr : World) (box : Obj) : Prop :=
  ∃ (k : Nat) (vs : List (Value × Value)), i = .int .i64 k ∧ k ≤ N ∧ TabO w.heap.size wr v vs (faceL t st k) ∧ wr.heap[w.heap.size]? = some box ∧ (∀ j, v.ownBlock = some j → j ≠ w.heap.size) ∧ Below w.heap.size w wr

set_option maxRecDepth 100000 in
set_option maxHeartbeats 6400000 in
theorem cFaceI (s : ByteArray) (a : Option Addr) (cap : Nat) (cs : List HaltV) (st n : Int) (w : World) (ht : Tab w) (hz : Halts w a cs) (hl : cs.length ≤ 1048576) (hcap : cs.length ≤ cap) (hs : s.size ≤ 1048576) :
    Calls Tryz.prog 7 #[.agg #[.string s, .slice a cs.length cap], .int .i64 st, .int .i64 n] w (FaceAns w ⟨s, cs⟩ st n) := by
  obtain ⟨i0, hi, hz0, hz1, hz2⟩ := info_parts infoTrip
  have hW := balloc w (.cells #[.string s, .slice a cs.length cap] 26)
  have X := one_block w (.cells #[.string s, .slice a cs.length cap] 26)
  obtain ⟨⟨x0, x1⟩, -⟩ := blk2 X
  have CT := cTripI s a cap cs _ (hz.below hW) hl hcap
  cases q1 : tripB ⟨s, cs⟩
  · have A : Hid (¬ FaceOk ⟨s, cs⟩ st n) := hide (fun g => by have := g.1; rw [q1] at this; cases this)
    rw [q1] at CT
    go_enter Tryz.func7, Tryz.ntmps7
    go_wp2_with fail
    refine CT.mono ?_
    rintro e w1 ⟨rfl, hb⟩
    have HB := btrans hW hb
    clear CT x0 x1
    go_wp2
    go_ret
    exact FaceAns.no A.out HB
  rw [q1] at CT
  cases q2 : inB st 1 1440
  · have A : Hid (¬ FaceOk ⟨s, cs⟩ st n) := hide (fun g => by have := g.2.1; rw [q2] at this; cases this)
    have C2 := fun w => cWithin st 1 1440 w
    rw [q2] at C2
    go_enter Tryz.func7, Tryz.ntmps7
    go_wp2_with fail
    refine CT.mono ?_
    rintro e w1 ⟨rfl, hb⟩
    have HB := btrans hW hb
    clear CT x0 x1
    go_wp2_with fail
    refine (C2 _).mono ?_
    rintro e w2 ⟨rfl, hw⟩
    subst w2
    go_wp2
    go_ret
    exact FaceAns.no A.out HB
  have C2 := fun w => cWithin st 1 1440 w
  rw [q2] at C2
  cases q3 : inB n 1 24
  · have A : Hid (¬ FaceOk ⟨s, cs⟩ st n) := hide (fun g => by have := g.2.2.1; rw [q3] at this; cases this)
    have C3 := fun w => cWithin n 1 24 w
    rw [q3] at C3
    go_enter Tryz.func7, Tryz.ntmps7
    go_wp2_with fail
    refine CT.mono ?_
    rintro e w1 ⟨rfl, hb⟩
    have HB := btrans hW hb
    clear CT x0 x1
    go_wp2_with fail
    refine (C2 _).mono ?_
    rintro e w2 ⟨rfl, hw⟩
    subst w2
    go_wp2_with fail
    refine (C3 _).mono ?_
    rintro e w2 ⟨rfl, hw⟩
    subst w2
    go_wp2
    go_ret
    exact FaceAns.no A.out HB
  have C3 := fun w => cWithin n 1 24 w
  rw [q3] at C3
  have r2 := inB_true q2
  have r3 := inB_true q3
  obtain ⟨N, hN⟩ : ∃ N : Nat, n = (N : Int) := ⟨n.toNat, by omega⟩
  subst hN
  have AY : Hid (Table (faceL ⟨s, cs⟩ st N) → FaceOk ⟨s, cs⟩ st (N : Int)) := hide (fun g => ⟨q1, q2, q3, by rw [Int.toNat_natCast]; exact g⟩)
  have AN : Hid (¬ Table (faceL ⟨s, cs⟩ st N) → ¬ FaceOk ⟨s, cs⟩ st (N : Int)) := hide (fun g k => g (by have := k.2.2.2; rw [Int.toNat_natCast] at this; exact this))
  have hSm : Hid (∀ m, m ≤ 24 → Small (faceL ⟨s, cs⟩ st m)) := hide (fun m hm => faceL_small q1 st hm)
  have hnm : s.size ≤ 12 := name_small q1
  have hN1 : N ≤ 24 := by omega
  replace q1 := hide q1
  clear q2 q3
  go_enter Tryz.func7, Tryz.ntmps7
  go_wp2_with fail
  refine CT.mono ?_
  rintro e w1 ⟨rfl, hb⟩
  have HB := btrans hW hb
  replace X := blk_keep hb X
  clear CT x0 x1 hb hW
  go_wp2_with fail
  refine (C2 _).mono ?_
  rintro e w2 ⟨rfl, hw⟩
  subst w2
  go_wp2_with fail
  refine (C3 _).mono ?_
  rintro e w2 ⟨rfl, hw⟩
  subst w2
  clear C2 C3
  go_wp2

  go_loopw [7, 8, 9, 24] (fun v _ _ i wr => FaceIn w ⟨s, cs⟩ st N v i wr (.cells #[.string s, .slice a cs.length cap] 26)) (fun _ _ _ i _ => N - (intOf i).toNat)
  case atStart => exact ⟨0, [], rfl, Nat.zero_le _, TabO.nil _ _, X, (by simp [Value.ownBlock]), HB⟩
  case round =>
    clear X HB
    obtain ⟨k, vs, rfl, hk, T, X, hv, HB⟩ := hrel
    obtain ⟨ao, cp, hv9⟩ := own_form T.own
    rw [faceL_len] at hv9
    subst hv9
    by_cases hlt : k < N
    · have hlt' : (k : Int) < (N : Int) := by omega
      have hk0 : (0 : Int) ≤ (k : Int) := by omega
      have hw1 : IntKind.i64.wrap ((k : Int) + 1) = (k : Int) + 1 := wrap_in _ (by omega) (by omega)
      obtain ⟨u0, u1⟩ := face_mul (k := k) (st := st) (by omega) r2.1 r2.2
      have hwm : IntKind.i64.wrap ((k : Int) * st) = (k : Int) * st := wrap_in _ (by omega) (by omega)
      have hF : Hid (faceL ⟨s, cs⟩ st (k + 1) = faceL ⟨s, cs⟩ st k ++ [⟨s ++ decB k, (movedT ⟨s, cs⟩ ((k : Int) * st)).calls⟩]) := hide (faceL_succ _ _ _)
      have M := cMovedI s a cap cs ((k : Int) * st) wr (hz.below HB) hl hcap
      obtain ⟨⟨x0, x1⟩, -⟩ := blk2 X
      go_wp2_with fail
      refine M.mono ?_
      rintro e w3 ⟨qa, qc, rfl, hq, hb3⟩
      generalize movedT ⟨s, cs⟩ ((k : Int) * st) = tm at *
      have hXl := lt_of_block X
      have X3 := blk_keep hb3 X
      have T3 := T.below hb3
      have HB3 := btrans HB hb3
      have hTo : TripOwn w3 w.heap.size (.string (s ++ decB k)) (.slice qa tm.calls.length qc) ⟨s ++ decB k, tm.calls⟩ := ⟨rfl, qa, qc, rfl, own_base hq HB.size⟩
      have hap : ∀ j, (Value.slice qa tm.calls.length qc).ownBlock = some j → (Value.slice ao k cp).ownBlock ≠ some j := fun j hk e => by
        have h1 := own_from hq (Nat.le_refl _) j hk
        have h2 := own_blk_lt T.own j e
        omega
      have hpr : ∀ j, (hj : j < vs.length) → ∀ b, vs[j].2.ownBlock = some b → (Value.slice qa tm.calls.length qc).ownBlock ≠ some b := fun j hj b hk e => by
        have h1 := own_from hq (Nat.le_refl _) b e
        have h2 := (tripOwn_lt (T.each j hj) b hk).2
        omega
      have hx := balloc w3 (.cells #[.string tm.name, .slice qa tm.calls.length qc] 26)
      have Y := one_block w3 (.cells #[.string tm.name, .slice qa tm.calls.length qc] 26)
      have hTlt := T3.lts
      have hQlt := (tripOwn_lt hTo)
      have X4 := blk_keep hx X3
      have T4 := T3.below hx
      have hTo4 := hTo.below hx
      have HB4 := btrans HB3 hx
      have hXl3 := lt_of_block X3
      clear M T X HB hq hb3 X3 T3 HB3 hTo hx x0 x1
      obtain ⟨⟨x0, x1⟩, -⟩ := blk2 X4
      obtain ⟨⟨y0, y1⟩, y2, y3⟩ := blk2 Y
      go_upto_region 8 with fail
      generalize hgy : w3.heap.size = gy at *
      generalize w3.alloc (.cells #[.string tm.name, .slice qa tm.calls.length qc] 26) = w4 at *
      have CI := cItoa k w4.drew ((ht.below HB4).below (bdraw (Below.refl _ _) 1)) (by omega)
      have hdl := dec_le k (by omega)
      have hsum : ¬ 9223372036854775807 < s.size + (decB k).size := by rw [decB_size]; omega
      rw [show S (Lib.decDigits k) = .string (decB k) from rfl] at CI
      generalize hdk : decB k = dk at *
      replace hdk := hide hdk
      have hne1 : gy ≠ w.heap.size := by omega
      go_region_held3 (fun w' => w'.cell? ⟨w.heap.size, 0, none⟩ = some (.string s)) (go_keep) (first
        | (go_at_call 17; with_reducible refine CI.mono ?_; rintro e w5 ⟨rfl, hb5⟩; have Cm := undrew hb5; have v0 := ble Cm x0; obtain ⟨⟨y0, y1⟩, y2, y3⟩ := blk2 (blk_keep Cm Y)))
      have Y5 := blk_set (i := 0) (v := .string (s ++ dk)) (blk_keep Cm Y)
      have X5 := blk_keep Cm X4
      have T5 := T4.below Cm
      have hTo5 := hTo4.below Cm
      have HB5 := btrans HB4 Cm
      have X6 : (w5.setCell ⟨gy, 0, none⟩ (.string (s ++ dk))).heap[w.heap.size]? = some (.cells #[.string s, .slice a cs.length cap] 26) := far_setb X5 (by omega)
      have T6 := T5.setC (g := gy) (i := 0) (u := .string (s ++ dk)) (fun b h => by have := hTlt b h; omega)
      have hTo6 := tripOwn_set (g := gy) (i := 0) (u := .string (s ++ dk)) hTo5 (fun b h => by have := (hQlt b h).2; omega)
      have HB6 : Below w.heap.size w (w5.setCell ⟨gy, 0, none⟩ (.string (s ++ dk))) := below_set (by omega) HB5
      have Y6 : (w5.setCell ⟨gy, 0, none⟩ (.string (s ++ dk))).heap[gy]? = some (.cells #[.string (s ++ dk), .slice qa tm.calls.length qc] 26) := Y5
      clear Y X4 T4 hTo4 HB4 X5 T5 hTo5 HB5 Y5 Cm hb5 CI v0 x0 x1 y0 y1 y2 y3
      obtain ⟨⟨y0, y1⟩, -⟩ := blk2 Y6
      go_upto_region 9 with fail
      generalize w5.setCell ⟨gy, 0, none⟩ (.string (s ++ dk)) = w6 at *
      have hx7 := balloc w6 (.cells #[.string (s ++ dk), .slice qa tm.calls.length qc] 26)
      have hB7 := one_block w6 (.cells #[.string (s ++ dk), .slice qa tm.calls.length qc] 26)
      have T7 := T6.below hx7
      have X7 := blk_keep hx7 X6
      have HB7 := btrans HB6 hx7
      have hTo7 := hTo6.below hx7
      have h7s := HB7.size
      have O7 := T7.own
      rw [faceL_len] at O7
      clear T6 X6 HB6 hTo6 hx7 Y6
      go_wp2_with (at_builtin; refine wpList_append_own_at _ rfl _ _ 29 rfl w.heap.size 26 i0 _ 2 40 Tryz.underlying29 hi hz0 hz1 hz2 rfl (by decide) _ _ _ rfl O7 ⟨w6.heap.size, 0, none⟩ 1 1 [.string (s ++ dk), .slice qa tm.calls.length qc] rfl rfl ?c1 ?c2 ?c3 ?c4 ?c5 ?_)
      case c1 => exact World.news_of_block hB7
      case c2 => simp [Value.oneCell']
      case c3 => unfold maxLen; omega
      case c4 => omega
      case c5 => exact h7s
      intro v8 w8 hown hgrow _ hwhere
      have T8 := T7.push (by rw [faceL_len]; exact hown) hgrow (by rw [sz1]; exact hwhere) hTo7 hap hpr
      rw [← hF.out] at T8
      have X8 := far_blk8 hgrow X7 hv
      have HB8 : Below w.heap.size w w8 := HB7.grown hgrow HB7.size (own_ge O7)
      have hv8 : ∀ j, v8.ownBlock = some j → j ≠ w.heap.size := fun j hj => by
        rcases hwhere with hw | hw
        · rw [hw] at hj; exact hv j hj
        · rw [hw] at hj; simp at hj; have := lt_of_block X7; rw [sz1] at this; omega
      clear hown hgrow hwhere T7 X7 HB7 hTo7 hB7 O7
      go_wp2
      go_roundw
      case rel => exact ⟨k + 1, _, by go_num, by omega, T8, X8, hv8, HB8⟩
      case measure => simp [intOf]; omega
    · obtain rfl : k = N := by omega
      have hlt' : ¬ (k : Int) < (k : Int) := by omega
      have OT : wr.ownsRow w.heap.size 26 2 (.slice ao k cp) k (flatP vs) := by have := T.own; rw [faceL_len] at this; exact this
      have CTb := cTableI ao cp (faceL ⟨s, cs⟩ st k) wr (Trips.of_pairs OT T.read) (hSm.out k hN1)
      rw [faceL_len] at CTb
      go_wp2_with fail
      refine CTb.mono ?_
      rintro e w9 ⟨r, rfl, hr, hb9⟩
      have HB9 := btrans HB hb9
      have T9 := T.below hb9
      cases r
      · have A : Hid (¬ FaceOk ⟨s, cs⟩ st (k : Int)) := hide (AN.out (fun g => by have := hr.2 g; cases this))
        clear hr T9 T OT
        go_wp2
        go_ret
        exact FaceAns.no A.out HB9
      · have A : Hid (FaceOk ⟨s, cs⟩ st (k : Int)) := hide (AY.out (hr.1 rfl))
        replace T9 := hide T9
        clear hr T OT
        go_wp2
        go_ret
        exact FaceAns.yes A.out (Int.toNat_natCast k) T9.out HB9
end Go.Proofs.YthlmaljgnhakfaaGreatDoor
