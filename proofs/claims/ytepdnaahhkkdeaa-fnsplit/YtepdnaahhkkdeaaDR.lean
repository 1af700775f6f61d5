/- A drawn right tariff, right cards, right stops and a minute. -/
import Derived.Test.YtepdnaahhkkdeaaDK
import Derived.Test.YtepdnaahhkkdeaaSD
import Derived.Deep.RegionLaw
import Derived.Deep.AppendLies
import Derived.Deep.RegionHeld3
namespace Go.Proofs.Ytepdnaahhkkdeaa
open Go.RowKit
theorem Ints.off {w w' : World} {b : Option Addr} {xs : List Int} {cb : Nat} (h : Ints w b xs) (hg : w.grownBy w' (some cb)) (hbc : ∀ x, b = some x → x.block ≠ cb) : Ints w' b xs := by
  rcases h with h | ⟨g, off, rfl, hc⟩
  · exact .inl h
  · refine .inr ⟨g, off, rfl, fun i hi => ?_⟩
    have hx := hc i hi
    have hb := hg.block g (cell_lt hx) (by simpa using hbc _ rfl)
    simp only [World.cell?] at hx ⊢
    rw [hb]
    exact hx

set_option maxHeartbeats 800000 in
theorem cPick (cb cap : Nat) (a : Option Addr) (zs : List Int) (b : Option Addr) (cp : Nat) (xs : List Int) (w : World) (hc : Cur w cb a cap zs) (hl : zs.length ≤ 1048576) (hx : Ints w b xs) (hbc : ∀ x, b = some x → x.block ≠ cb) (h1 : 1 ≤ xs.length) (h2 : xs.length ≤ 1000) :
    Calls Try.prog 63 #[.pointer (some ⟨cb, 0, none⟩), .slice b xs.length cp] w fun e w' => ∃ r, e = .returned (.int .i64 r) ∧ r ∈ xs ∧ Cur w' cb a cap zs ∧ w.grownBy w' (some cb) := by
  go_enter Try.func63, Try.ntmps63
  go_wp2_with fail
  refine (cbelow cb cap a zs xs.length _ hc hl (by omega) (by omega)).mono ?_
  rintro e w1 ⟨y, rfl, y0, y1, C1, G1⟩
  have hx1 := hx.off G1 hbc
  rcases hx1 with h | ⟨nb, off, rfl, hcl⟩
  · simp [h] at h1
  have hy : y.toNat < xs.length := by omega
  have q := hcl y.toNat hy
  have hmem : xs.getD y.toNat 0 ∈ xs := by simp [List.getD, hy]
  generalize xs.getD y.toNat 0 = r at *
  clear hcl hc hx
  go_wp2
  go_ret
  exact ⟨r, rfl, hmem, C1, G1⟩

/-- The five jumps to pick from, in a block of their own. -/
theorem five (w : World) : Ints (w.alloc (.cells #[.int .i64 0, .int .i64 0, .int .i64 15, .int .i64 240, .int .i64 7] 3)) (some ⟨w.heap.size, 0, none⟩) [0, 0, 15, 240, 7] := by
  refine .inr ⟨_, 0, rfl, fun i hi => ?_⟩
  match i, hi with
  | 0, _ => simp
  | 1, _ => simp
  | 2, _ => simp
  | 3, _ => simp
  | 4, _ => simp
  | (k + 5), hi => simp at hi; omega
theorem five_in {r : Int} (h : r ∈ [(0 : Int), 0, 15, 240, 7]) : 0 ≤ r ∧ r ≤ 240 := by simp at h; omega
theorem far_blk {w w' : World} {r : Option Nat} (hg : w.grownBy w' r) {g : Nat} {o : Obj} (h : w.heap[g]? = some o) (hne : ∀ j, r = some j → g ≠ j) : w'.heap[g]? = some o :=
  (hg.block g (lt_of_block h) (fun e => hne g e.symm rfl)).trans h
theorem gofr {w w' : World} (r : Option Nat) (hb : Below w.heap.size w w') : w.grownBy w' r := ⟨hb.os, hb.tape, hb.output, hb.size, fun k hk _ => hb.block k hk⟩
theorem undrewG {w w1 : World} {r : Option Nat} (h : w.drew.grownBy w1 r) : w.grownBy w1 r := ⟨h.os, h.tape, h.output, h.size, h.block⟩
/-- The tariff that is being drawn, in block tb. -/
structure Tt (w0 wr : World) (cb tb : Nat) (b s r : Int) (v : Value) (js : List Int) : Prop where
  out : wr.heap[tb]? = some (.cells #[.int .i64 b, .int .i64 s, v, .int .i64 r] 27 (0, 0))
  own : wr.ownsRow (tb + 1) 3 1 v js.length (js.map (.int .i64))
  js : ∀ x ∈ js, 0 ≤ x ∧ x ≤ 240
  gr : w0.grownBy wr (some cb)
theorem Tt.cur {w0 wr w2 : World} {cb tb : Nat} {b s r : Int} {v : Value} {js : List Int} (h : Tt w0 wr cb tb b s r v js) (hct : cb < tb) (hg : wr.grownBy w2 (some cb)) : Tt w0 w2 cb tb b s r v js :=
  ⟨far_blk hg h.out (fun j hj => by simp at hj; omega), own_far h.own hg (fun k hk e => by have := own_from h.own (Nat.le_refl _) k hk; simp at e; omega), h.js, gtrans h.gr hg⟩
theorem Tt.below {w0 wr w2 : World} {cb tb : Nat} {b s r : Int} {v : Value} {js : List Int} (h : Tt w0 wr cb tb b s r v js) (hb : Below wr.heap.size wr w2) : Tt w0 w2 cb tb b s r v js :=
  ⟨keepB hb h.out, own_keep h.own hb, h.js, gtrans h.gr (gofr _ hb)⟩
theorem Tt.far {w0 wr w2 : World} {cb tb B : Nat} {b s r : Int} {v : Value} {js : List Int} {q : Option Nat} (h : Tt w0 wr cb tb b s r v js) (hg : wr.grownBy w2 q) (hq : ∀ k, q = some k → B ≤ k) (ht : tb < B) (hv : ∀ k, v.ownBlock = some k → k < B) (h0 : w0.heap.size ≤ B) : Tt w0 w2 cb tb b s r v js :=
  ⟨far_blk hg h.out (fun j hj => by have := hq j hj; omega), own_far h.own hg (fun k hk e => by have := hv k hk; have := hq k e.symm; omega), h.js, grown_far h.gr hg (fun k hk => by have := hq k hk; omega)⟩
/-- One jump more. -/
theorem Tt.push {w0 wr w7 w9 : World} {cb tb : Nat} {b s r x : Int} {v v9 : Value} {js : List Int} (h : Tt w0 w7 cb tb b s r v js) (h0 : w0.heap.size ≤ tb) (hx : 0 ≤ x ∧ x ≤ 240) (hb : Below w7.heap.size w7 wr) (ho : w9.ownsRow (tb + 1) 3 1 v9 (js.length + 1) (js.map (.int .i64) ++ [.int .i64 x])) (hg : wr.grownBy w9 v.ownBlock) : Tt w0 (w9.setCell ⟨tb, 2, none⟩ v9) cb tb b s r v9 (js ++ [x]) := by
  have hfr := own_from h.own (Nat.le_refl _)
  have o1 := far_blk hg (keepB hb h.out) (fun j hj => by have := hfr j hj; omega)
  refine ⟨blk_set o1, own_set (by rw [List.map_append, List.length_append]; exact ho) (fun k hk => by have := own_from ho (Nat.le_refl _) k hk; omega), ?_, ?_⟩
  · intro y hy
    rcases List.mem_append.1 hy with h1 | h1
    · exact h.js y h1
    · rw [List.mem_singleton.1 h1]; exact hx
  · exact grown_far (grown_far (gtrans h.gr (gofr _ hb)) hg (fun k hk => by have := hfr k hk; omega)) (grown_set _ _ _ _) (fun k hk => by simp at hk; omega)
/-- What is drawn. -/
def DrawnF (w : World) (e : Ending) (w' : World) : Prop :=
  ∃ (b s r m : Int) (js zs : List Int) (cs : List CardV) (v vc vz : Value), e = .returned (.tuple #[.agg #[.int .i64 b, .int .i64 s, v, .int .i64 r], vc, vz, .int .i64 m]) ∧ tfB b s js r = true ∧ cardsB cs = true ∧ stopsB zs = true ∧ minB m = true ∧
    w'.ownsRow w.heap.size 3 1 v js.length (js.map (.int .i64)) ∧ w'.ownsRow w.heap.size 61 4 vc cs.length (flatCards cs) ∧ w'.ownsRow w.heap.size 3 1 vz zs.length (zs.map (.int .i64)) ∧ Below w.heap.size w w'

set_option maxRecDepth 20000 in
set_option maxHeartbeats 6400000 in
theorem cDrawF (cap : Nat) (a : Option Addr) (bs : List Int) (w : World) (hz : Bytes w a bs) (hl : bs.length ≤ 1048576) :
    Calls Try.prog 39 #[.slice a bs.length cap] w (DrawnF w) := by
  obtain ⟨i0, hi, hz0, hz1, hz2⟩ := info_parts infoInts
  obtain ⟨i1, hi1, hy0, hy1, hy2⟩ := info_parts infoCards
  have hW := balloc w (.cells #[.int .i64 0, .int .i64 0, .slice none 0 0, .int .i64 0] 27)
  have R0 := one_block w (.cells #[.int .i64 0, .int .i64 0, .slice none 0 0, .int .i64 0] 27)
  go_enter Try.func39, Try.ntmps39
  go_wp2_with fail
  refine (cnew a cap bs _ (hz.below hW) hl).mono ?_
  rintro e w1 ⟨cb, rfl, hcb, C, hb⟩
  have hb1 := btrans hW hb
  have R1 := keepB hb R0
  have hrl := lt_of_block R1
  rw [sz1] at hcb
  have hcl := C.lt (.inl rfl)
  clear R0 hW hb hz
  go_wp2_with fail
  refine (cbelow cb cap a bs 40 _ C hl (by omega) (by omega)).mono ?_
  rintro e w2 ⟨x, rfl, x0, x1, C2, G2⟩
  go_wp2_with fail
  refine (cbelow cb cap a bs 60 _ C2 hl (by omega) (by omega)).mono ?_
  rintro e w3 ⟨y, rfl, y0, y1, C3, G3⟩
  go_wp2_with fail
  refine (cbelow cb cap a bs 12 _ C3 hl (by omega) (by omega)).mono ?_
  rintro e w4 ⟨z, rfl, z0, z1, C4, G4⟩
  have G14 := gtrans (gtrans G2 G3) G4
  have hbt := balloc w4 (.cells #[.int .i64 (10 * x), .int .i64 (5 * y), .slice none 0 0, .int .i64 (1 + z)] 27)
  have T0 := one_block w4 (.cells #[.int .i64 (10 * x), .int .i64 (5 * y), .slice none 0 0, .int .i64 (1 + z)] 27)
  have C5 := C4.below hbt
  have hOnT : ∀ k, OnCur cb a bs k → k < w4.heap.size := fun k hk => C4.lt hk
  have hs14 := G14.size
  have TT : Tt w1 (w4.alloc (.cells #[.int .i64 (10 * x), .int .i64 (5 * y), .slice none 0 0, .int .i64 (1 + z)] 27)) cb w4.heap.size (10 * x) (5 * y) (1 + z) (.slice none 0 0) [] := ⟨T0, World.ownsRow_nil _ _ _ _, by simp, gtrans G14 (gofr _ hbt)⟩
  clear C C2 C3 C4 G2 G3 G4 G14 hbt T0
  go_wp2_with fail
  generalize (w4.alloc (.cells #[.int .i64 (10 * x), .int .i64 (5 * y), .slice none 0 0, .int .i64 (1 + z)] 27)) = w5 at *
  generalize w4.heap.size = tb at *
  have hct : cb < tb := by omega
  have h1t : w1.heap.size ≤ tb := by omega
  have hOn1 : ∀ k, OnCur cb a bs k → k < tb := hOnT
  refine (cbelow cb cap a bs 9 _ C5 hl (by omega) (by omega)).mono ?_
  rintro e w6 ⟨n1, rfl, n10, n11, C6, G6⟩
  have TT6 := TT.cur hct G6
  clear TT C5 G6
  go_wp2
  go_loopw [8] (fun ii wr => ∃ (I : Int) (v : Value) (js : List Int), ii = .int .i64 I ∧ 0 ≤ I ∧ (js.length : Int) + I = n1 ∧ Tt w1 wr cb tb (10 * x) (5 * y) (1 + z) v js ∧ Cur wr cb a cap bs) (fun ii _ => (intOf ii).toNat)
  case atStart => exact ⟨n1, _, [], rfl, n10, by simp, TT6, C6⟩
  case round =>
    clear TT6 C6
    obtain ⟨I, v, js, rfl, I0, hLI, TT, C⟩ := hrel
    obtain ⟨va, vc, rfl⟩ := own_form TT.own
    replace hLI := hide hLI
    have hjl : js.length ≤ 9 := by have := hLI.out; omega
    have hI9 : I ≤ 9 := by have := hLI.out; omega
    by_cases hI : 0 < I
    · obtain ⟨⟨t0, t1, t2, t3⟩, m0, m1, m2, m3⟩ := blk4 TT.out
      have htl := lt_of_block TT.out
      have hD := (Below.refl wr.heap.size wr).drew
      have hA := balloc wr.drew (.cells #[.int .i64 0, .int .i64 0, .int .i64 15, .int .i64 240, .int .i64 7] 3)
      have C1 := (C.below hD).below hA
      have F1 := five wr.drew
      have T1 := (TT.below hD).below hA
      have hclr := C.lt (.inl rfl)
      have hnb : ∀ x, (some (⟨wr.drew.heap.size, 0, none⟩ : Addr)) = some x → x.block ≠ cb := fun x hx => by injection hx with hx; subst hx; show wr.heap.size ≠ cb; omega
      go_upto_region 6 with fail
      go_region_law (first
        | (go_simp; go_at_call 63; refine (cPick cb cap a bs _ 5 [0, 0, 15, 240, 7] _ C1 hl F1 hnb (by decide) (by decide)).mono ?_; rintro e w7 ⟨q, rfl, hq, C7, G7⟩; have T7 := T1.cur hct G7; obtain ⟨⟨u0, u1, u2, u3⟩, o0, o1, o2, o3⟩ := blk4 T7.out; have hl7 := lt_of_block T7.out; dsimp only)
        | (refine step_append_lies _ (by rfl) _ _ _ (by rfl) (tb + 1) 3 i0 (.int .i64 0) 1 8 Try.underlying22 hi hz0 hz1 hz2 rfl (by decide) (.slice va js.length vc) js.length (js.map (Value.int .i64)) (by rfl) (by exact T7.own.alloc _) ⟨w7.heap.size, 0, none⟩ 1 1 [.int .i64 q] rfl rfl (by intro i u hj; match i, hj with | 0, hj => simp at hj; subst hj; simp [Addr.add]) (by intro u hu; simp at hu; subst hu; rfl) (by decide) (by unfold maxLen; omega) (by omega) (by simp; omega) (w7.heap.size + 1) (by simp) ?_; intro g cap2 w9 hown hgrow hat hlt2; have hmid := far_blk hgrow (keepB (balloc w7 _) T7.out) (fun j hj => by have := own_from T7.own (Nat.le_refl _) j hj; omega); obtain ⟨⟨v0, v1, v2, v3⟩, x0, x1, x2, x3⟩ := blk4 hmid))
      all_goals (
        have T9 := T7.push h1t (five_in hq) (balloc w7 _) hown hgrow
        have C9 : Cur (w9.setCell ⟨tb, 2, none⟩ (.slice (some ⟨g, 0, none⟩) (js.length + 1) cap2)) cb a cap bs := ((C7.below (balloc w7 _)).grow hOn1 hgrow (fun k hk => by have := own_from T7.own (Nat.le_refl _) k hk; omega)).grow hOn1 (grown_set _ _ _ _) (fun k hk => by simp at hk; omega)
        have T10 : Tt w1 (w9.setCell ⟨tb, 2, none⟩ (.slice (some ⟨g, 0, none⟩) (js.length + 1) cap2)) cb tb (10 * x) (5 * y) (1 + z) (.slice (some ⟨g, 0, none⟩) (js.length + 1) cap2) (js ++ [q]) := T9
        clear T9 hown hgrow hat hlt2 hmid v0 v1 v2 v3 x0 x1 x2 x3 u0 u1 u2 u3 o0 o1 o2 o3 T7 C7 G7 T1 C1 F1 hA hD
        go_wp2
        go_roundw)
      all_goals first
        | exact ⟨I - 1, _, js ++ [q], by go_num, by omega, by have := hLI.out; simp; omega, T10, C9⟩
        | (simp [intOf]; omega)
    · obtain rfl : I = 0 := by omega
      have hvB := own_blk_lt TT.own
      have htB := lt_of_block TT.out
      have h1B := TT.gr.size
      have hOnB : ∀ k, OnCur cb a bs k → k < wr.heap.size := fun k hk => C.lt hk
      have A1 := balloc wr (.cells #[] 61)
      have C1 := C.below A1
      have T1 := TT.below A1
      have O0 : (wr.alloc (.cells #[] 61)).ownsRow wr.heap.size 61 4 (.slice (some ⟨wr.heap.size, 0, none⟩) 0 0) 0 (flatCards []) := World.ownsRow_made wr #[] 0 (Nat.le_refl _) (by unfold maxLen; omega) (by simp)
      have hcB : cb < wr.heap.size := C.lt (.inl rfl)
      clear TT C A1 hOn1 hLI hI9 I0 hI
      go_wp2_with fail
      refine (cbelow cb cap a bs 4 _ C1 hl (by omega) (by omega)).mono ?_
      rintro e wA ⟨n2, rfl, n20, n21, CA, GA⟩
      have TA := T1.cur hct GA
      have OA := own_far O0 GA (fun k hk e => by have := own_from O0 (Nat.le_refl _) k hk; simp at e; omega)
      have HWA : wr.heap.size ≤ wA.heap.size := Nat.le_trans (by rw [sz1]; omega) GA.size
      clear T1 C1 O0 GA
      generalize wr.heap.size = B1 at *
      go_wp2
      go_loopw [9, 10, 11] (fun o ii _ wr => ∃ (ms : List CardV) (I : Int), ii = .int .i64 I ∧ 0 ≤ I ∧ (ms.length : Int) + I = n2 ∧ (∀ y ∈ ms, cardB y = true) ∧ wr.ownsRow B1 61 4 o ms.length (flatCards ms) ∧ Tt w1 wr cb tb (10 * x) (5 * y) (1 + z) (.slice va js.length vc) js ∧ Cur wr cb a cap bs ∧ B1 ≤ wr.heap.size) (fun _ ii _ _ => (intOf ii).toNat)
      case atStart => exact ⟨[], n2, rfl, n20, by simp, (fun y hy => by simp at hy), OA, TA, CA, HWA⟩
      case round =>
        clear OA TA CA HWA
        obtain ⟨ms, I, rfl, I0, hLI, hall, O, TT, C, hBW⟩ := hrel
        obtain ⟨go, co, rfl⟩ := own_form O
        replace hLI := hide hLI
        have hml : ms.length ≤ 4 := by have := hLI.out; omega
        have hI4 : I ≤ 4 := by have := hLI.out; omega
        by_cases hI : 0 < I
        · go_wp2_with fail
          refine (cbelow cb cap a bs 900 _ C hl (by omega) (by omega)).mono ?_
          rintro e wa ⟨f, rfl, f0, f1, C', G'⟩
          replace TT := TT.cur hct G'
          replace O := own_far O G' (fun k hk e => by have := own_from O (Nat.le_refl _) k hk; simp at e; omega)
          replace hBW := Nat.le_trans hBW G'.size
          clear C G'
          have C := C'
          clear C'
          go_wp2_with fail
          refine (cbelow cb cap a bs 11 _ C hl (by omega) (by omega)).mono ?_
          rintro e wb ⟨p1, rfl, p10, p11, C', G'⟩
          replace TT := TT.cur hct G'
          replace O := own_far O G' (fun k hk e => by have := own_from O (Nat.le_refl _) k hk; simp at e; omega)
          replace hBW := Nat.le_trans hBW G'.size
          clear C G'
          have C := C'
          clear C'
          go_wp2_with fail
          refine (cbelow cb cap a bs 20 _ C hl (by omega) (by omega)).mono ?_
          rintro e wc ⟨p2, rfl, p20, p21, C', G'⟩
          replace TT := TT.cur hct G'
          replace O := own_far O G' (fun k hk e => by have := own_from O (Nat.le_refl _) k hk; simp at e; omega)
          replace hBW := Nat.le_trans hBW G'.size
          clear C G'
          have C := C'
          clear C'
          go_wp2_with fail
          refine (cbelow cb cap a bs 540 _ C hl (by omega) (by omega)).mono ?_
          rintro e wd ⟨p3, rfl, p30, p31, C', G'⟩
          replace TT := TT.cur hct G'
          replace O := own_far O G' (fun k hk e => by have := own_from O (Nat.le_refl _) k hk; simp at e; omega)
          replace hBW := Nat.le_trans hBW G'.size
          clear C G'
          have C := C'
          clear C'
          have hsz := hBW
          have hall2 : ∀ y ∈ ms ++ [(⟨10 * p1, 10 * p2, f, f + p3⟩ : CardV)], cardB y = true := by
            intro y hy
            rcases List.mem_append.1 hy with h | h
            · exact hall y h
            · rw [List.mem_singleton.1 h]
              simp only [cardB, feeB, inB, Bool.and_eq_true, decide_eq_true_eq]; omega
          replace hall2 := hide hall2
          clear hall
          have v1 : IntKind.i64.wrap (f + p3) = f + p3 := wrap_in _ (by omega) (by omega)
          go_wp2_with (at_builtin; refine wpList_append_own _ rfl _ _ 36 rfl B1 61 i1 _ 4 32 Try.underlying36 hi1 hy0 hy1 hy2 rfl (by decide) _ _ _ rfl (O.alloc _) ⟨wd.heap.size, 0, none⟩ 1 1 (CardV.vs ⟨10 * p1, 10 * p2, f, f + p3⟩) rfl rfl ?c1 ?c2 ?c3 ?c4 ?c5 ?_)
          case c1 => exact World.news_of_block (heap_alloc_new wd _)
          case c2 => simp [Value.oneCell', CardV.vs]
          case c3 => unfold maxLen; omega
          case c4 => omega
          case c5 => simp; omega
          intro v' w9 hown' hgrow _
          have hfrom := own_from O (Nat.le_refl _)
          have C9 := Cur.grow (C.below (balloc wd _)) hOnB hgrow hfrom
          have T9 := (TT.below (balloc wd _)).far hgrow hfrom htB hvB h1B
          have O9 : w9.ownsRow B1 61 4 v' (ms ++ [(⟨10 * p1, 10 * p2, f, f + p3⟩ : CardV)]).length (flatCards (ms ++ [(⟨10 * p1, 10 * p2, f, f + p3⟩ : CardV)])) := by
            rw [List.length_append, flatCards_app, show flatCards [(⟨10 * p1, 10 * p2, f, f + p3⟩ : CardV)] = CardV.vs ⟨10 * p1, 10 * p2, f, f + p3⟩ by simp [flatCards]]; exact hown'
          have hB9 : B1 ≤ w9.heap.size := by have := hgrow.size; rw [sz1] at this; omega
          clear O C TT hown' hgrow hfrom hBW
          go_wp2
          go_roundw
          case rel => exact ⟨ms ++ [(⟨10 * p1, 10 * p2, f, f + p3⟩ : CardV)], I - 1, by go_num, by omega, by have := hLI.out; simp; omega, hall2.out, O9, T9, C9, hB9⟩
          case measure => simp [intOf]; omega
        · obtain rfl : I = 0 := by omega
          have hcok : cardsB ms = true := by
            simp only [cardsB, Bool.and_eq_true, List.all_eq_true, decide_eq_true_eq]
            exact ⟨by omega, hall⟩
          replace hcok := hide hcok
          have hoB := own_blk_lt O
          have hvB2 : ∀ k, (Value.slice va js.length vc).ownBlock = some k → k < wr.heap.size := fun k hk => by have := hvB k hk; omega
          have htB2 : tb < wr.heap.size := by omega
          have hOn2 : ∀ k, OnCur cb a bs k → k < wr.heap.size := fun k hk => C.lt hk
          have A1 := balloc wr (.cells #[] 3)
          have C1 := C.below A1
          have T1 := TT.below A1
          have O1 := own_keep O A1
          have Z0 : (wr.alloc (.cells #[] 3)).ownsRow wr.heap.size 3 1 (.slice (some ⟨wr.heap.size, 0, none⟩) 0 0) 0 (([] : List Int).map (Value.int .i64)) := World.ownsRow_made wr #[] 0 (Nat.le_refl _) (by unfold maxLen; omega) (by simp)
          have HS : wr.heap.size ≤ (wr.alloc (.cells #[] 3)).heap.size := by rw [sz1]; omega
          have h1B2 : w1.heap.size ≤ wr.heap.size := by omega
          have hcB2 : cb < wr.heap.size := by omega
          clear TT C A1 O hall hLI hI4 I0 hI
          go_wp2_with fail
          refine (cbelow cb cap a bs 7 _ C1 hl (by omega) (by omega)).mono ?_
          rintro e wB ⟨n3, rfl, n30, n31, CB, GB⟩
          have TB := T1.cur hct GB
          have OB := own_far O1 GB (fun k hk e => by have := own_from O1 (Nat.le_refl _) k hk; simp at e; omega)
          have ZB := own_far Z0 GB (fun k hk e => by have := own_from Z0 (Nat.le_refl _) k hk; simp at e; omega)
          have HSB := Nat.le_trans HS GB.size
          clear T1 C1 O1 Z0 GB HS hBW
          generalize wr.heap.size = B2 at *
          go_wp2
          go_loopw [12, 13] (fun o ii wr => ∃ (zs : List Int) (I : Int), ii = .int .i64 I ∧ 0 ≤ I ∧ (zs.length : Int) + I = 2 + n3 ∧ (∀ y ∈ zs, zonB y = true) ∧ wr.ownsRow B2 3 1 o zs.length (zs.map (.int .i64)) ∧ wr.ownsRow B1 61 4 (.slice go ms.length co) ms.length (flatCards ms) ∧ Tt w1 wr cb tb (10 * x) (5 * y) (1 + z) (.slice va js.length vc) js ∧ Cur wr cb a cap bs ∧ B2 ≤ wr.heap.size) (fun _ ii _ => (intOf ii).toNat)
          case atStart => exact ⟨[], 2 + n3, rfl, by omega, by simp, (fun y hy => by simp at hy), ZB, OB, TB, CB, HSB⟩
          case round =>
            clear ZB OB TB CB HSB
            obtain ⟨zs, I, rfl, I0, hLI, hall, Z, O, TT, C, hBW⟩ := hrel
            obtain ⟨zo, zc, rfl⟩ := own_form Z
            replace hLI := hide hLI
            have hzl : zs.length ≤ 9 := by have := hLI.out; omega
            have hI9 : I ≤ 9 := by have := hLI.out; omega
            by_cases hI : 0 < I
            · go_wp2_with fail
              refine (cbelow cb cap a bs 20 _ C hl (by omega) (by omega)).mono ?_
              rintro e wd ⟨q, rfl, q0, q1, C', G'⟩
              replace TT := TT.cur hct G'
              replace O := own_far O G' (fun k hk e => by have := own_from O (Nat.le_refl _) k hk; simp at e; omega)
              replace Z := own_far Z G' (fun k hk e => by have := own_from Z (Nat.le_refl _) k hk; simp at e; omega)
              replace hBW := Nat.le_trans hBW G'.size
              clear C G'
              have hall2 : ∀ y ∈ zs ++ [q], zonB y = true := by
                intro y hy
                rcases List.mem_append.1 hy with h | h
                · exact hall y h
                · rw [List.mem_singleton.1 h]; exact inB_yes (by omega) (by omega)
              replace hall2 := hide hall2
              clear hall
              go_wp2_with (at_builtin; refine wpList_append_own _ rfl _ _ 22 rfl B2 3 i0 (.int .i64 0) 1 8 Try.underlying22 hi hz0 hz1 hz2 rfl (by decide) _ _ _ rfl (Z.alloc _) ⟨wd.heap.size, 0, none⟩ 1 1 [.int .i64 q] rfl rfl ?c1 ?c2 ?c3 ?c4 ?c5 ?_)
              case c1 => exact World.news_of_block (heap_alloc_new wd _)
              case c2 => intro u hu; simp at hu; subst hu; rfl
              case c3 => unfold maxLen; omega
              case c4 => omega
              case c5 => simp; omega
              intro v' w9 hown' hgrow _
              have hfrom := own_from Z (Nat.le_refl _)
              have C9 := Cur.grow (C'.below (balloc wd _)) hOn2 hgrow hfrom
              have T9 := (TT.below (balloc wd _)).far hgrow hfrom htB2 hvB2 h1B2
              have O9 := own_far (own_keep O (balloc wd _)) hgrow (fun k hk e => by have := hoB k hk; have := hfrom k e.symm; omega)
              have Z9 : w9.ownsRow B2 3 1 v' (zs ++ [q]).length ((zs ++ [q]).map (.int .i64)) := by rw [List.length_append, List.map_append]; exact hown'
              have hB9 : B2 ≤ w9.heap.size := by have := hgrow.size; rw [sz1] at this; omega
              clear O C' TT Z hown' hgrow hfrom hBW
              go_wp2
              go_roundw
              case rel => exact ⟨zs ++ [q], I - 1, by go_num, by omega, by have := hLI.out; simp; omega, hall2.out, Z9, O9, T9, C9, hB9⟩
              case measure => simp [intOf]; omega
            · obtain rfl : I = 0 := by omega
              have hzl2 := hLI.out
              have hsok : stopsB zs = true := by
                simp only [stopsB, Bool.and_eq_true, List.all_eq_true]
                exact ⟨inB_yes (by omega) (by omega), hall⟩
              have htok : tfB (10 * x) (5 * y) js (1 + z) = true := by
                simp only [tfB, Bool.and_eq_true, List.all_eq_true, decide_eq_true_eq]
                refine ⟨inB_yes (by omega) (by omega), inB_yes (by omega) (by omega), inB_yes (by omega) (by omega), by omega, fun y hy => ?_⟩
                have := TT.js y hy
                exact inB_yes (by omega) (by omega)
              replace hsok := hide hsok
              replace htok := hide htok
              clear hall hzl2 hLI hI9 I0 hI
              have R2 := far_blk TT.gr R1 (fun j hj => by simp at hj; omega)
              have hbw := hb1.grown TT.gr hb1.size (fun k hk => by simp at hk; omega)
              obtain ⟨⟨t0, t1, t2, t3⟩, -⟩ := blk4 TT.out
              have h0 : Below wr.heap.size wr wr.drew := (Below.refl _ _).drew
              have C0 := C.below h0
              have ntb : w.heap.size ≠ tb := by omega
              have ntb' : tb ≠ w.heap.size := by omega
              go_wp2_with fail
              go_region_held3 (fun w' => w'.cell? ⟨tb, 0, none⟩ = some (.int .i64 (10 * x)) ∧ w'.cell? ⟨tb, 1, none⟩ = some (.int .i64 (5 * y)) ∧ w'.cell? ⟨tb, 2, none⟩ = some (.slice va js.length vc) ∧ w'.cell? ⟨tb, 3, none⟩ = some (.int .i64 (1 + z))) (go_keep) (first
                | (go_at_call 62; refine (cbelow cb cap a bs 1440 _ C0 hl (by omega) (by omega)).mono ?_; rintro e wm ⟨mi, rfl, mi0, mi1, Cm, Gm⟩; have Gm2 := undrewG Gm; have Tm := TT.cur hct Gm2; obtain ⟨⟨v0, v1, v2, v3⟩, -⟩ := blk4 Tm.out; have R3 := far_blk Gm2 R2 (fun j hj => by simp at hj; omega); obtain ⟨⟨r0, r1, r2, r3⟩, s0, s1, s2, s3⟩ := blk4 R3; have rl3 := lt_of_block R3))
              have Om := own_far O Gm2 (fun k hk e => by have := own_from O (Nat.le_refl _) k hk; simp at e; omega)
              have Zm := own_far Z Gm2 (fun k hk e => by have := own_from Z (Nat.le_refl _) k hk; simp at e; omega)
              have hbm := hbw.grown Gm2 hbw.size (fun k hk => by simp at hk; omega)
              have hmok : Hid (minB mi = true) := hide (inB_yes (by omega) (by omega))
              have nJ : ∀ k, (Value.slice va js.length vc).ownBlock = some k → k ≠ w.heap.size := fun k hk => by have := own_from Tm.own (Nat.le_refl _) k hk; omega
              have nO : ∀ k, (Value.slice go ms.length co).ownBlock = some k → k ≠ w.heap.size := fun k hk => by have := own_from Om (Nat.le_refl _) k hk; omega
              have nZ : ∀ k, (Value.slice zo zs.length zc).ownBlock = some k → k ≠ w.heap.size := fun k hk => by have := own_from Zm (Nat.le_refl _) k hk; omega
              have Jo := Tm.own
              clear TT O Z C0 Cm Gm Gm2 h0 t0 t1 t2 t3
              go_wp2
              refine bodyPost_ret (v := .tuple #[.agg #[.int .i64 (10 * x), .int .i64 (5 * y), .slice va js.length vc, .int .i64 (1 + z)], .slice go ms.length co, .slice zo zs.length zc, .int .i64 mi]) (by simp [results, Try.results39, go_sem, r0, r1, r2, r3]) rfl ?_
              refine ⟨_, _, _, _, js, zs, ms, _, _, _, rfl, htok.out, hcok.out, hsok.out, hmok.out, ?_, ?_, ?_, ?_⟩
              · repeat' apply own_set (hne := nJ)
                exact own_base Jo (by omega)
              · repeat' apply own_set (hne := nO)
                exact own_base Om (by omega)
              · repeat' apply own_set (hne := nZ)
                exact own_base Zm (by omega)
              · repeat' apply below_set (Nat.le_refl _)
                exact hbm
end Go.Proofs.Ytepdnaahhkkdeaa
