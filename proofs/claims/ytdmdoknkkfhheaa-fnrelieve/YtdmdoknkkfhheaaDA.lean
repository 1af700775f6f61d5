/- Drawn work, its chain and its rule. -/
import Derived.Test.YtdmdoknkkfhheaaDK
import Derived.Test.YtdmdoknkkfhheaaMW
import Derived.Test.YtdmdoknkkfhheaaCI
namespace Go.Proofs.Ytdmdoknkkfhheaa
open Go.RowKit

/-- Two rows of elements of different types lie in different blocks. -/
theorem own_apart {w : World} {B B' e e' sz sz' n n' : Nat} {v v' : Value} {xs xs' : List Value} (h : w.ownsRow B e sz v n xs) (h' : w.ownsRow B' e' sz' v' n' xs') (hne : e ≠ e') : ∀ k, v.ownBlock = some k → some k ≠ v'.ownBlock := by
  intro k hk e1
  rcases h.2 with ⟨rfl, _⟩ | ⟨g, cap, cur, rfl, _, hh, _⟩
  · simp [Value.ownBlock] at hk
  · rcases h'.2 with ⟨rfl, _⟩ | ⟨g', cap', cur', rfl, _, hh', _⟩
    · simp [Value.ownBlock] at e1
    · simp [Value.ownBlock] at hk e1
      subst hk
      subst e1
      rw [hh] at hh'
      simp at hh'
      exact hne hh'.2
theorem flat_task (e : TaskV) : flatTasks [e] = e.vs := by simp [flatTasks]
/-- Drawn work. -/
def DrawnW (w : World) (cb : Nat) (a : Option Addr) (cap : Nat) (bs : List Int) (e : Ending) (w' : World) : Prop :=
  ∃ (ms : List TaskV) (M nd : Int) (v u : Value), e = .returned (.tuple #[v, u]) ∧ Wk ms M nd ∧ 1 ≤ ms.length ∧ ms.length ≤ 12 ∧ w'.ownsRow w.heap.size 37 5 v (ms ++ [endT]).length (flatTasks (ms ++ [endT])) ∧ w'.ownsRow w.heap.size 3 1 u ms.length ((rangeI ms.length).map (Value.int .i64)) ∧ Cur w' cb a cap bs ∧ w.grownBy w' (some cb)

set_option maxRecDepth 20000 in
set_option maxHeartbeats 6400000 in
theorem cDrawWork (cb cap : Nat) (a : Option Addr) (bs : List Int) (w : World) (hc : Cur w cb a cap bs) (hl : bs.length ≤ 1048576) :
    Calls Try.prog 37 #[.pointer (some ⟨cb, 0, none⟩), .slice a bs.length cap] w (DrawnW w cb a cap bs) := by
  obtain ⟨t0, t1, t2, t3, t4⟩ := info_parts infoTasks
  obtain ⟨n0, n1, n2, n3, n4⟩ := info_parts infoInts
  have hcl := hc.lt (.inl rfl)
  have hOn : ∀ k, OnCur cb a bs k → k < w.heap.size := fun k hk => hc.lt hk
  have A1 := balloc w (.cells #[] 37)
  have A2 := balloc (w.alloc (.cells #[] 37)) (.cells #[] 3)
  have C := (hc.below A1).below A2
  have O0 : (w.alloc (.cells #[] 37)).ownsRow w.heap.size 37 5 (.slice (some ⟨w.heap.size, 0, none⟩) 0 0) 0 (flatTasks []) := World.ownsRow_made w #[] 0 (Nat.le_refl _) (by unfold maxLen; omega) (by simp)
  have O := own_keep O0 A2
  have P : ((w.alloc (.cells #[] 37)).alloc (.cells #[] 3)).ownsRow w.heap.size 3 1 (.slice (some ⟨w.heap.size + 1, 0, none⟩) 0 0) 0 ((rangeI 0).map (Value.int .i64)) := by
    have := World.ownsRow_made (base := w.heap.size) (e := 3) (size := 1) (w.alloc (.cells #[] 37)) #[] 0 (by simp) (by unfold maxLen; omega) (by simp)
    rw [sz1] at this
    exact this
  have hG : w.grownBy ((w.alloc (.cells #[] 37)).alloc (.cells #[] 3)) (some cb) := gtrans (gof A1) (gof A2)
  clear A1 A2 hc O0
  go_enter Try.func37, Try.ntmps37
  go_wp2_with fail
  refine (cbelow cb cap a bs 60 _ C hl (by omega) (by omega)).mono ?_
  rintro e w1 ⟨M, rfl, M0, M1, C', G'⟩
  replace O := own_far O G' (fun k hk e => by have := own_from O (Nat.le_refl _) k hk; simp at e; omega)
  replace P := own_far P G' (fun k hk e => by have := own_from P (Nat.le_refl _) k hk; simp at e; omega)
  replace hG := gtrans hG G'
  clear C G'
  have C := C'
  clear C'
  go_wp2_with fail
  refine (cbelow cb cap a bs 3 _ C hl (by omega) (by omega)).mono ?_
  rintro e w2 ⟨nd, rfl, nd0, nd1, C', G'⟩
  replace O := own_far O G' (fun k hk e => by have := own_from O (Nat.le_refl _) k hk; simp at e; omega)
  replace P := own_far P G' (fun k hk e => by have := own_from P (Nat.le_refl _) k hk; simp at e; omega)
  replace hG := gtrans hG G'
  clear C G'
  have C := C'
  clear C'
  go_wp2_with fail
  refine (csize a bs.length cap 11 _ hl (by omega) (by omega)).mono ?_
  rintro e w3 ⟨r0, rfl, hr1, hr2, hw⟩
  subst w3
  go_wp2_with fail
  refine (cbelow cb cap a bs (1 + r0) _ C hl (by omega) (by omega)).mono ?_
  rintro e w3 ⟨x, rfl, x0, x1, C', G'⟩
  replace O := own_far O G' (fun k hk e => by have := own_from O (Nat.le_refl _) k hk; simp at e; omega)
  replace P := own_far P G' (fun k hk e => by have := own_from P (Nat.le_refl _) k hk; simp at e; omega)
  replace hG := gtrans hG G'
  clear C G'
  have C := C'
  clear C'
  have hW := Wk.nil M0 M1 nd0 nd1
  have e9 : IntKind.i64.wrap (1 + x) = 1 + x := wrap_in _ (by omega) (by omega)
  go_wp2
  go_loopw [6, 7, 8, 9, 10] (fun o u mm nn ii wr => ∃ (ms : List TaskV) (M nd I : Int), mm = .int .i64 M ∧ nn = .int .i64 nd ∧ ii = .int .i64 I ∧ 0 ≤ I ∧ Hid ((ms.length : Int) + I = 1 + x) ∧ Hid (Wk ms M nd) ∧ wr.ownsRow w.heap.size 37 5 o ms.length (flatTasks ms) ∧ wr.ownsRow w.heap.size 3 1 u ms.length ((rangeI ms.length).map (Value.int .i64)) ∧ Cur wr cb a cap bs ∧ w.grownBy wr (some cb)) (fun _ _ _ _ ii _ => (intOf ii).toNat)
  case atStart => exact ⟨[], M, nd, 1 + x, rfl, rfl, rfl, by omega, hide (by simp), hide hW, O, P, C, hG⟩
  case round =>
    clear O P C hG hW
    obtain ⟨ms, M, nd, I, rfl, rfl, rfl, I0, hLI, hW, O, P, C, hG⟩ := hrel
    obtain ⟨go, co, rfl⟩ := own_form O
    obtain ⟨gp, cp, rfl⟩ := own_form P
    have hml : ms.length ≤ 12 := by have := hLI.out; omega
    have hm0 := hW.out.m0
    have hm1 := hW.out.m1
    by_cases hI : 0 < I
    · have hI5 : I ≤ 12 := by have := hLI.out; omega
      have hml2 : ms.length ≤ 11 := by have := hLI.out; omega
      go_wp2_with fail
      refine (cbelow cb cap a bs 3 _ C hl (by omega) (by omega)).mono ?_
      rintro e w4 ⟨nx, rfl, nx0, nx1, C', G'⟩
      replace O := own_far O G' (fun k hk e => by have := own_from O (Nat.le_refl _) k hk; simp at e; omega)
      replace P := own_far P G' (fun k hk e => by have := own_from P (Nat.le_refl _) k hk; simp at e; omega)
      replace hG := gtrans hG G'
      clear C G'
      have C := C'
      clear C'
      have ea : IntKind.i64.wrap (M + 5) = M + 5 := wrap_in _ (by omega) (by omega)
      go_wp2_with fail
      refine (cbelow cb cap a bs 50 _ C hl (by omega) (by omega)).mono ?_
      rintro e w5 ⟨y, rfl, y0, y1, C', G'⟩
      replace O := own_far O G' (fun k hk e => by have := own_from O (Nat.le_refl _) k hk; simp at e; omega)
      replace P := own_far P G' (fun k hk e => by have := own_from P (Nat.le_refl _) k hk; simp at e; omega)
      replace hG := gtrans hG G'
      clear C G'
      have C := C'
      clear C'
      have eb : IntKind.i64.wrap (M + 5 + y) = M + 5 + y := wrap_in _ (by omega) (by omega)
      have hsz := hG.size
      have hNb := one_block w5 (.cells #[.int .i64 (ms.length : Int)] 3)
      have hb6 := balloc w5 (.cells #[.int .i64 (ms.length : Int)] 3)
      have P6 := own_keep P hb6
      have O6 := own_keep O hb6
      have C6 := C.below hb6
      have G6 := gtrans hG (gof (b := cb) hb6)
      clear O P C hG
      go_wp2_with (at_builtin; refine wpList_append_own _ rfl _ _ 25 rfl w.heap.size 3 n0 _ 1 8 Try.underlying25 n1 n2 n3 n4 rfl (by decide) _ _ _ rfl P6 ⟨w5.heap.size, 0, none⟩ 1 1 [.int .i64 (ms.length : Int)] rfl rfl ?c1 ?c2 ?c3 ?c4 ?c5 ?_)
      case c1 => exact World.news_of_block hNb
      case c2 => intro u hu; simp at hu; subst hu; rfl
      case c3 => unfold maxLen; omega
      case c4 => omega
      case c5 => simp; omega
      intro u' w7 hown hgrow _
      have hfrom := own_from P6 (Nat.le_refl _)
      have O := own_far O6 hgrow (own_apart O6 P6 (by decide))
      have C := Cur.grow C6 hOn hgrow hfrom
      have hG := grown_far G6 hgrow hfrom
      have P : w7.ownsRow w.heap.size 3 1 u' (ms.length + 1) ((rangeI (ms.length + 1)).map (Value.int .i64)) := by
        rw [rangeI_succ, List.map_append]; exact hown
      clear O6 P6 C6 G6 hown hgrow hfrom hNb hb6 hsz
      obtain ⟨gq, cq, rfl⟩ := own_form P
      have hsz := hG.size
      have hNb := one_block w7 (.cells #[.int .i64 nd, .int .i64 nx, .int .i64 M, .int .i64 (M + 5 + y), .int .i64 5] 37)
      have hb6 := balloc w7 (.cells #[.int .i64 nd, .int .i64 nx, .int .i64 M, .int .i64 (M + 5 + y), .int .i64 5] 37)
      have P6 := own_keep P hb6
      have O6 := own_keep O hb6
      have C6 := C.below hb6
      have G6 := gtrans hG (gof (b := cb) hb6)
      clear O P C hG
      go_wp2_with (at_builtin; refine wpList_append_own _ rfl _ _ 24 rfl w.heap.size 37 t0 _ 5 40 Try.underlying24 t1 t2 t3 t4 rfl (by decide) _ _ _ rfl O6 ⟨w7.heap.size, 0, none⟩ 1 1 [.int .i64 nd, .int .i64 nx, .int .i64 M, .int .i64 (M + 5 + y), .int .i64 5] rfl rfl ?c1 ?c2 ?c3 ?c4 ?c5 ?_)
      case c1 => exact World.news_of_block hNb
      case c2 => intro u hu; simp at hu; rcases hu with rfl | rfl | rfl | rfl | rfl <;> rfl
      case c3 => unfold maxLen; omega
      case c4 => omega
      case c5 => simp; omega
      intro v' w8 hown hgrow _
      have hfrom := own_from O6 (Nat.le_refl _)
      have P := own_far P6 hgrow (own_apart P6 O6 (by decide))
      have C := Cur.grow C6 hOn hgrow hfrom
      have hG := grown_far G6 hgrow hfrom
      have O : w8.ownsRow w.heap.size 37 5 v' (ms.length + 1) (flatTasks (ms ++ [(⟨nd, nx, M, M + 5 + y, 5⟩ : TaskV)])) := by
        rw [flatTasks_app, flat_task]; exact hown
      clear O6 P6 C6 G6 hown hgrow hfrom hNb hb6 hsz
      obtain ⟨gv, cv, rfl⟩ := own_form O
      go_wp2_with fail
      refine (cbelow cb cap a bs 40 _ C hl (by omega) (by omega)).mono ?_
      rintro e w9 ⟨g, rfl, g0, g1, C', G'⟩
      replace O := own_far O G' (fun k hk e => by have := own_from O (Nat.le_refl _) k hk; simp at e; omega)
      replace P := own_far P G' (fun k hk e => by have := own_from P (Nat.le_refl _) k hk; simp at e; omega)
      replace hG := gtrans hG G'
      clear C G'
      have C := C'
      clear C'
      have ec : IntKind.i64.wrap (M + 5 + y + g) = M + 5 + y + g := wrap_in _ (by omega) (by omega)
      have ed : IntKind.i64.wrap (I - 1) = I - 1 := wrap_in _ (by omega) (by omega)
      have W9 := hide (hW.out.snoc (nx := nx) (y := y) (g := g) hml nx0 nx1 y0 y1 g0 g1)
      have P9 : w9.ownsRow w.heap.size 3 1 (.slice gq (ms.length + 1) cq) (ms ++ [(⟨nd, nx, M, M + 5 + y, 5⟩ : TaskV)]).length ((rangeI (ms ++ [(⟨nd, nx, M, M + 5 + y, 5⟩ : TaskV)]).length).map (Value.int .i64)) := by
        rw [List.length_append]; exact P
      have hLI2 : Hid (((ms ++ [(⟨nd, nx, M, M + 5 + y, 5⟩ : TaskV)]).length : Int) + (I - 1) = 1 + x) := hide (by have := hLI.out; rw [List.length_append, List.length_singleton]; omega)
      clear P hW hLI
      go_wp2
      go_roundw
      case rel => exact ⟨ms ++ [(⟨nd, nx, M, M + 5 + y, 5⟩ : TaskV)], _, _, I - 1, rfl, rfl, rfl, by omega, hLI2, W9, (by rw [List.length_append]; exact O), P9, C, hG⟩
      case measure => simp [intOf]; omega
    · obtain rfl : I = 0 := by omega
      have hm1 : 1 ≤ ms.length := by have := hLI.out; omega
      have hsz := hG.size
      have hNb := one_block wr (.cells #[.int .i64 0, .int .i64 1, .int .i64 3, .int .i64 30, .int .i64 0] 37)
      have hb6 := balloc wr (.cells #[.int .i64 0, .int .i64 1, .int .i64 3, .int .i64 30, .int .i64 0] 37)
      have P6 := own_keep P hb6
      have O6 := own_keep O hb6
      have C6 := C.below hb6
      have G6 := gtrans hG (gof (b := cb) hb6)
      clear O P C hG hLI
      go_wp2_with (at_builtin; refine wpList_append_own _ rfl _ _ 24 rfl w.heap.size 37 t0 _ 5 40 Try.underlying24 t1 t2 t3 t4 rfl (by decide) _ _ _ rfl O6 ⟨wr.heap.size, 0, none⟩ 1 1 [.int .i64 0, .int .i64 1, .int .i64 3, .int .i64 30, .int .i64 0] rfl rfl (World.news_of_block hNb) (by intro u hu; simp at hu; rcases hu with rfl | rfl | rfl | rfl | rfl <;> rfl) (by unfold maxLen; omega) (by omega) (by simp; omega) ?_)
      intro v' w8 hown hgrow _
      have hfrom := own_from O6 (Nat.le_refl _)
      have P := own_far P6 hgrow (own_apart P6 O6 (by decide))
      have C := Cur.grow C6 hOn hgrow hfrom
      have hG := grown_far G6 hgrow hfrom
      have O : w8.ownsRow w.heap.size 37 5 v' (ms.length + 1) (flatTasks (ms ++ [endT])) := by
        rw [flatTasks_app, flat_task]; exact hown
      clear O6 P6 C6 G6 hown hgrow hfrom hNb hb6 hsz
      obtain ⟨gv, cv, rfl⟩ := own_form O
      go_wp2
      go_ret2
      exact ⟨ms, M, nd, _, _, rfl, hW.out, hm1, hml, (by rw [List.length_append]; exact O), P, C, hG⟩

/-- A drawn chain: tasks, their places, a rule. -/
def Drawn17 (w : World) (e : Ending) (w' : World) : Prop :=
  ∃ (ms : List TaskV) (M nd : Int) (r : RuleV) (v u : Value), e = .returned (.tuple #[v, u, r.val]) ∧ Wk ms M nd ∧ 1 ≤ ms.length ∧ ms.length ≤ 12 ∧ ruleB r = true ∧ w'.ownsRow w.heap.size 37 5 v (ms ++ [endT]).length (flatTasks (ms ++ [endT])) ∧ w'.ownsRow w.heap.size 3 1 u ms.length ((rangeI ms.length).map (Value.int .i64)) ∧ Below w.heap.size w w'
set_option maxRecDepth 20000 in
set_option maxHeartbeats 1600000 in
theorem cDraw17 (cap : Nat) (a : Option Addr) (bs : List Int) (w : World) (hz : Bytes w a bs) (hl : bs.length ≤ 1048576) :
    Calls Try.prog 12 #[.slice a bs.length cap] w (Drawn17 w) := by
  have hA := balloc w (.cells #[.int .i64 0, .int .i64 0, .int .i64 0, .int .i64 0] 27)
  have hX := one_block w (.cells #[.int .i64 0, .int .i64 0, .int .i64 0, .int .i64 0] 27)
  go_enter Try.func12, Try.ntmps12
  go_wp2_with fail
  refine (cnew a cap bs _ (hz.below hA) hl).mono ?_
  rintro e w1 ⟨cb, rfl, hcb, C, b1⟩
  rw [sz1] at hcb
  replace hX := blk_keep' b1 hX
  have b0 := btrans hA b1
  have hcl := C.lt (.inl rfl)
  clear hA b1
  go_wp2_with fail
  refine (cDrawWork cb cap a bs _ C hl).mono ?_
  rintro e w2 ⟨ms, M, nd, v, u, rfl, hW, l1, l2, O, P, C', G⟩
  clear C
  have C := C'
  clear C'
  have hB : Below w.heap.size w w2 := b0.grown G b0.size (fun k hk => by cases hk; omega)
  replace hX : w2.heap[w.heap.size]? = _ := (G.block _ (lt_of_block hX) (by simp; omega)).trans hX
  obtain ⟨va, vc, rfl⟩ := own_form O
  obtain ⟨ua, uc, rfl⟩ := own_form P
  replace hW := hide hW
  have hws := b0.size
  clear b0 G
  go_wp2_with fail
  refine (cbelow cb cap a bs 400 _ C hl (by omega) (by omega)).mono ?_
  rintro e w4 ⟨p, rfl, p0, p1, C', G⟩
  replace O := own_far O G (fun k hk e => by have := own_from O (Nat.le_refl _) k hk; cases e; omega)
  replace P := own_far P G (fun k hk e => by have := own_from P (Nat.le_refl _) k hk; cases e; omega)
  replace hB : Below w.heap.size w w4 := hB.grown G hB.size (fun k hk => by cases hk; omega)
  replace hX := (G.block _ (lt_of_block hX) (by simp; omega)).trans hX
  clear C G
  have C := C'
  clear C'
  have ep : IntKind.i64.wrap (80 + p) = 80 + p := wrap_in _ (by omega) (by omega)
  go_wp2_with fail
  refine (cbelow cb cap a bs 200 _ C hl (by omega) (by omega)).mono ?_
  rintro e w5 ⟨d, rfl, d0, d1, C', G⟩
  replace O := own_far O G (fun k hk e => by have := own_from O (Nat.le_refl _) k hk; cases e; omega)
  replace P := own_far P G (fun k hk e => by have := own_from P (Nat.le_refl _) k hk; cases e; omega)
  replace hB : Below w.heap.size w w5 := hB.grown G hB.size (fun k hk => by cases hk; omega)
  replace hX := (G.block _ (lt_of_block hX) (by simp; omega)).trans hX
  clear C G
  have C := C'
  clear C'
  have ed : IntKind.i64.wrap (40 + d) = 40 + d := wrap_in _ (by omega) (by omega)
  go_wp2_with fail
  refine (cbelow cb cap a bs 40 _ C hl (by omega) (by omega)).mono ?_
  rintro e w6 ⟨q, rfl, q0, q1, C', G⟩
  replace O := own_far O G (fun k hk e => by have := own_from O (Nat.le_refl _) k hk; cases e; omega)
  replace P := own_far P G (fun k hk e => by have := own_from P (Nat.le_refl _) k hk; cases e; omega)
  replace hB : Below w.heap.size w w6 := hB.grown G hB.size (fun k hk => by cases hk; omega)
  replace hX := (G.block _ (lt_of_block hX) (by simp; omega)).trans hX
  clear C G
  have C := C'
  clear C'
  have eq : IntKind.i64.wrap (5 + q) = 5 + q := wrap_in _ (by omega) (by omega)
  go_wp2_with fail
  refine (cbelow cb cap a bs 150 _ C hl (by omega) (by omega)).mono ?_
  rintro e w7 ⟨s, rfl, s0, s1, C', G⟩
  replace O := own_far O G (fun k hk e => by have := own_from O (Nat.le_refl _) k hk; cases e; omega)
  replace P := own_far P G (fun k hk e => by have := own_from P (Nat.le_refl _) k hk; cases e; omega)
  replace hB : Below w.heap.size w w7 := hB.grown G hB.size (fun k hk => by cases hk; omega)
  replace hX := (G.block _ (lt_of_block hX) (by simp; omega)).trans hX
  clear C G
  have C := C'
  clear C'
  have es : IntKind.i64.wrap (30 + s) = 30 + s := wrap_in _ (by omega) (by omega)
  have x0 := Go.Joins.unfrozen_of_block hX 0
  have x1 := Go.Joins.unfrozen_of_block hX 1
  have x2 := Go.Joins.unfrozen_of_block hX 2
  have x3 := Go.Joins.unfrozen_of_block hX 3
  have y0 := blk_cell hX 0
  have y1 := blk_cell hX 1
  have y2 := blk_cell hX 2
  have y3 := blk_cell hX 3
  simp only [List.getElem?_toArray, List.getElem?_cons_zero, List.getElem?_cons_succ] at y0 y1 y2 y3
  have hX4 := blk_set (i := 3) (v := .int .i64 (30 + s)) (blk_set (i := 2) (v := .int .i64 (5 + q)) (blk_set (i := 1) (v := .int .i64 (40 + d)) (blk_set (i := 0) (v := .int .i64 (80 + p)) hX)))
  simp only [List.setIfInBounds_toArray, List.set_cons_zero, List.set_cons_succ] at hX4
  have hB4 := below_set (o := 3) (v := .int .i64 (30 + s)) (Nat.le_refl w.heap.size) (below_set (o := 2) (v := .int .i64 (5 + q)) (Nat.le_refl w.heap.size) (below_set (o := 1) (v := .int .i64 (40 + d)) (Nat.le_refl w.heap.size) (below_set (o := 0) (v := .int .i64 (80 + p)) (Nat.le_refl w.heap.size) hB)))
  have hfO : ∀ k, (Value.slice va (ms ++ [endT]).length vc).ownBlock = some k → k ≠ w.heap.size := fun k hk => by have := own_from O (Nat.le_refl _) k hk; omega
  have hfP : ∀ k, (Value.slice ua ms.length uc).ownBlock = some k → k ≠ w.heap.size := fun k hk => by have := own_from P (Nat.le_refl _) k hk; omega
  have O4 := own_base (own_set (b := w.heap.size) (i := 3) (u := .int .i64 (30 + s)) (own_set (b := w.heap.size) (i := 2) (u := .int .i64 (5 + q)) (own_set (b := w.heap.size) (i := 1) (u := .int .i64 (40 + d)) (own_set (b := w.heap.size) (i := 0) (u := .int .i64 (80 + p)) O hfO) hfO) hfO) hfO) hws
  have P4 := own_base (own_set (b := w.heap.size) (i := 3) (u := .int .i64 (30 + s)) (own_set (b := w.heap.size) (i := 2) (u := .int .i64 (5 + q)) (own_set (b := w.heap.size) (i := 1) (u := .int .i64 (40 + d)) (own_set (b := w.heap.size) (i := 0) (u := .int .i64 (80 + p)) P hfP) hfP) hfP) hfP) hws
  clear hfO hfP O P C hB
  go_wp2
  clear x0 x1 x2 x3 y0 y1 y2 y3 hX
  generalize ((((w7.setCell ⟨w.heap.size, 0, none⟩ (.int .i64 (80 + p))).setCell ⟨w.heap.size, 1, none⟩ (.int .i64 (40 + d))).setCell ⟨w.heap.size, 2, none⟩ (.int .i64 (5 + q))).setCell ⟨w.heap.size, 3, none⟩ (.int .i64 (30 + s))) = W8 at *
  have y0 := blk_cell hX4 0
  have y1 := blk_cell hX4 1
  have y2 := blk_cell hX4 2
  have y3 := blk_cell hX4 3
  simp only [List.getElem?_toArray, List.getElem?_cons_zero, List.getElem?_cons_succ] at y0 y1 y2 y3
  refine bodyPost_ret (v := .tuple #[.slice va (ms.length + 1) vc, .slice ua ms.length uc, .agg #[.int .i64 (80 + p), .int .i64 (40 + d), .int .i64 (5 + q), .int .i64 (30 + s)]]) (by simp [results, Try.results12, go_sem, y0, y1, y2, y3]) rfl ?_
  exact ⟨ms, M, nd, ⟨80 + p, 40 + d, 5 + q, 30 + s⟩, _, _, rfl, hW.out, l1, l2, ruleB_iff.2 (by dsimp only; omega), (by rw [List.length_append] at O4 ⊢; exact O4), P4, hB4⟩
end Go.Proofs.Ytdmdoknkkfhheaa
