/- Drawn right tasks, and a turn. -/
import Derived.Test.YtbnhkkaiohmllaaDK
import Derived.Test.YtbnhkkaiohmllaaMT
namespace Go.Proofs.Ytbnhkkaiohmllaa
open Go.RowKit Go.Lib

/-- A drawn right task. -/
def RightD (x : TaskV) : Prop := 0 ≤ x.e ∧ x.e ≤ 2 ∧ 0 ≤ x.d ∧ x.d ≤ 2 ∧ 0 ≤ x.f ∧ x.f ≤ 299 ∧ x.f < x.t ∧ x.t ≤ x.f + 50 ∧ 0 ≤ x.p ∧ x.p ≤ 89
def RightL (ts : List TaskV) : Prop := ∀ x ∈ ts, RightD x
theorem RightL.snoc {ts : List TaskV} {x : TaskV} (h : RightL ts) (g : RightD x) : RightL (ts ++ [x]) := by
  intro y hy
  rcases List.mem_append.1 hy with hy | hy
  · exact h y hy
  · simp at hy; subst hy; exact g
theorem RightL.at {ts : List TaskV} (h : RightL ts) {i : Nat} (hi : i < ts.length) : RightD (ts.getD i TaskV.zero) := by
  rw [show ts.getD i TaskV.zero = ts[i] by simp [List.getD, hi]]
  exact h _ (List.getElem_mem hi)
theorem RightL.ok {ts : List TaskV} (h : RightL ts) (hl : ts.length ≤ 40) : tasksB ts = true := by
  simp only [tasksB, Bool.and_eq_true, decide_eq_true_eq, List.all_eq_true]
  refine ⟨hl, fun x hx => taskB_iff.2 ?_⟩
  have := h x hx
  unfold RightD at this
  omega
theorem one_block1 (w : World) (o1 o2 : Obj) : ((w.alloc o1).alloc o2).heap[w.heap.size + 1]? = some o2 := by
  have := one_block (w.alloc o1) o2
  rwa [sz1] at this
theorem new_set (w : World) (b i : Nat) (v : Value) (o : Obj) : ((w.setCell ⟨b, i, none⟩ v).alloc o).heap[w.heap.size]? = some o := by
  have := one_block (w.setCell ⟨b, i, none⟩ v) o
  rwa [World.size_setCell] at this
theorem flat_task (e : TaskV) : flatTasks [e] = e.vs := by simp [flatTasks]
/-- Tasks that are drawn. -/
def DrawnT (w : World) (cb : Nat) (a : Option Addr) (cap : Nat) (bs : List Int) (e : Ending) (w' : World) : Prop :=
  ∃ (ts : List TaskV) (v : Value), e = .returned v ∧ RightL ts ∧ ts.length ≤ 20 ∧ w'.ownsRow w.heap.size 32 5 v ts.length (flatTasks ts) ∧ Cur w' cb a cap bs ∧ w.grownBy w' (some cb)

set_option maxRecDepth 20000 in
set_option maxHeartbeats 6400000 in
theorem cDrawT (cb cap : Nat) (a : Option Addr) (bs : List Int) (w : World) (hc : Cur w cb a cap bs) (hl : bs.length ≤ 1048576) :
    Calls Try.prog 50 #[.pointer (some ⟨cb, 0, none⟩), .slice a bs.length cap, .int .i64 14] w (DrawnT w cb a cap bs) := by
  obtain ⟨i1, hi1, hy0, hy1, hy2⟩ := info_parts infoTasks
  have hcl := hc.lt (.inl rfl)
  have hOn : ∀ k, OnCur cb a bs k → k < w.heap.size := fun k hk => hc.lt hk
  have A1 := balloc w (.cells #[] 32)
  have C := hc.below A1
  have O : (w.alloc (.cells #[] 32)).ownsRow w.heap.size 32 5 (.slice (some ⟨w.heap.size, 0, none⟩) 0 0) 0 (flatTasks []) := World.ownsRow_made w #[] 0 (Nat.le_refl _) (by unfold maxLen; omega) (by simp)
  have hG : w.grownBy (w.alloc (.cells #[] 32)) (some cb) := gof A1
  clear A1 hc
  go_enter Try.func50, Try.ntmps50
  go_wp2_with fail
  refine (csize a bs.length cap 14 _ hl (by omega) (by omega)).mono ?_
  rintro e w0 ⟨r0, rfl, hr1, hr2, hw⟩
  subst w0
  go_wp2_with fail
  refine (cbelow cb cap a bs (2 + r0) _ C hl (by omega) (by omega)).mono ?_
  rintro e w1 ⟨x, rfl, x0, x1, C', G'⟩
  replace O := own_far O G' (fun k hk e => by have := own_from O (Nat.le_refl _) k hk; simp at e; omega)
  replace hG := gtrans hG G'
  clear C G'
  have C := C'
  clear C'
  go_wp2
  go_loopw [7, 8] (fun o ii wr => ∃ (ms : List TaskV) (I : Int), ii = .int .i64 I ∧ 0 ≤ I ∧ (ms.length : Int) + I = x ∧ RightL ms ∧ wr.ownsRow w.heap.size 32 5 o ms.length (flatTasks ms) ∧ Cur wr cb a cap bs ∧ w.grownBy wr (some cb)) (fun _ ii _ => (intOf ii).toNat)
  case atStart => exact ⟨[], x, rfl, x0, by simp, fun y hy => by simp at hy, O, C, hG⟩
  case round =>
    clear O C hG
    obtain ⟨ms, I, rfl, I0, hLI, hR, O, C, hG⟩ := hrel
    obtain ⟨go, co, rfl⟩ := own_form O
    replace hR := hide hR
    by_cases hI : 0 < I
    · have hI5 : I ≤ 16 := by omega
      have hml : ms.length ≤ 16 := by omega
      replace hLI := hide hLI
      go_wp2_with fail
      refine (cbelow cb cap a bs 300 _ C hl (by omega) (by omega)).mono ?_
      rintro e w2 ⟨f, rfl, f0, f1, C', G'⟩
      replace O := own_far O G' (fun k hk e => by have := own_from O (Nat.le_refl _) k hk; simp at e; omega)
      replace hG := gtrans hG G'
      clear C G'
      have C := C'
      clear C'
      go_wp2_with fail
      refine (cbelow cb cap a bs 3 _ C hl (by omega) (by omega)).mono ?_
      rintro e w3 ⟨ee, rfl, ee0, ee1, C', G'⟩
      replace O := own_far O G' (fun k hk e => by have := own_from O (Nat.le_refl _) k hk; simp at e; omega)
      replace hG := gtrans hG G'
      clear C G'
      have C := C'
      clear C'
      go_wp2_with fail
      refine (cbelow cb cap a bs 3 _ C hl (by omega) (by omega)).mono ?_
      rintro e w4 ⟨d, rfl, d0, d1, C', G'⟩
      replace O := own_far O G' (fun k hk e => by have := own_from O (Nat.le_refl _) k hk; simp at e; omega)
      replace hG := gtrans hG G'
      clear C G'
      have C := C'
      clear C'
      have hwa : IntKind.i64.wrap (f + 1) = f + 1 := wrap_in _ (by omega) (by omega)
      go_wp2_with fail
      refine (cbelow cb cap a bs 50 _ C hl (by omega) (by omega)).mono ?_
      rintro e w5 ⟨y, rfl, y0, y1, C', G'⟩
      replace O := own_far O G' (fun k hk e => by have := own_from O (Nat.le_refl _) k hk; simp at e; omega)
      replace hG := gtrans hG G'
      clear C G'
      have C := C'
      clear C'
      have hwb : IntKind.i64.wrap (f + 1 + y) = f + 1 + y := wrap_in _ (by omega) (by omega)
      go_wp2_with fail
      refine (cbelow cb cap a bs 90 _ C hl (by omega) (by omega)).mono ?_
      rintro e w6 ⟨p, rfl, p0, p1, C', G'⟩
      replace O := own_far O G' (fun k hk e => by have := own_from O (Nat.le_refl _) k hk; simp at e; omega)
      replace hG := gtrans hG G'
      clear C G'
      have C := C'
      clear C'
      have hX := one_block w6 (.cells #[.int .i64 ee, .int .i64 d, .int .i64 f, .int .i64 (f + 1 + y), .int .i64 p] 32)
      have hbA := balloc w6 (.cells #[.int .i64 ee, .int .i64 d, .int .i64 f, .int .i64 (f + 1 + y), .int .i64 p] 32)
      have OB := own_keep O hbA
      have CB := C.below hbA
      have GB := gtrans hG (gof (b := cb) hbA)
      have hcb6 : cb ≠ w6.heap.size := by have := hG.size; omega
      have hob := fun k (hk : (Value.slice go ms.length co).ownBlock = some k) => (show k ≠ w6.heap.size from by have := own_blk_lt O k hk; omega)
      have hG6 : w.heap.size ≤ w6.heap.size := hG.size
      clear O C hG hbA
      have O := OB
      have C := CB
      have hG := GB
      clear OB CB GB
      by_cases hm0 : ms.length = 0
      · have hmsn : ms = [] := List.length_eq_zero_iff.1 hm0
        subst hmsn
        clear hm0
        have hsz := hG.size
        have R9 := hide (hR.out.snoc (x := (⟨ee, d, f, f + 1 + y, p⟩ : TaskV)) (by unfold RightD; dsimp only; omega))
        go_wp2_with (at_builtin; refine wpList_append_own _ rfl _ _ 24 rfl w.heap.size 32 i1 _ 5 40 Try.underlying24 hi1 hy0 hy1 hy2 rfl (by decide) _ _ _ rfl (O.alloc _) ⟨w6.heap.size + 1, 0, none⟩ 1 1 (TaskV.vs ⟨ee, d, f, f + 1 + y, p⟩) rfl rfl (World.news_of_block (cs := #[.int .i64 ee, .int .i64 d, .int .i64 f, .int .i64 (f + 1 + y), .int .i64 p]) (one_block1 w6 _ _)) (by simp [Value.oneCell', TaskV.vs]) (by unfold maxLen; omega) (by omega) (by simp; omega) ?_)
        intro v' w9 hown' hgrow _
        have hfrom := own_from O (Nat.le_refl _)
        have C9 := Cur.grow (C.below (balloc _ _)) hOn hgrow hfrom
        have O9 : w9.ownsRow w.heap.size 32 5 v' ([] ++ [(⟨ee, d, f, f + 1 + y, p⟩ : TaskV)]).length (flatTasks ([] ++ [(⟨ee, d, f, f + 1 + y, p⟩ : TaskV)])) := by
          rw [List.length_append, flatTasks_app, flat_task]; exact hown'
        have G9 : w.grownBy w9 (some cb) := grown_far (gtrans hG (gof (balloc _ _))) hgrow hfrom
        obtain ⟨v9a, v9c, rfl⟩ := own_form O9
        clear O C hown' hgrow hfrom hG hX
        go_wp2
        go_roundw
        case rel => exact ⟨[] ++ [(⟨ee, d, f, f + 1 + y, p⟩ : TaskV)], I - 1, by go_num, by omega, by have h9 := hLI.out; simp only [List.length_append, List.length_cons, List.length_nil] at h9 ⊢; omega, R9.out, O9, C9, G9⟩
        case measure => simp [intOf]; omega
      · have hm0' : (0 : Int) < (ms.length : Int) := by omega
        replace hm0 := hide hm0
        go_wp2_with fail
        refine (conce cb cap a bs 3 _ C hl (by omega) (by omega)).mono ?_
        rintro e w7 ⟨bk, rfl, C', G'⟩
        replace O := own_far O G' (fun k hk e => by have := own_from O (Nat.le_refl _) k hk; simp at e; omega)
        replace hG := gtrans hG G'
        replace hX := blk_far G' hX (by simp; omega)
        clear C G'
        have C := C'
        clear C'
        obtain ⟨z0, z1, z2, z3, z4⟩ := (Bx5.parts (x := ⟨ee, d, f, f + 1 + y, p⟩) ⟨blk_at hX 0, blk_at hX 1, blk_at hX 2, blk_at hX 3, blk_at hX 4⟩)
        dsimp only at z0 z1 z2 z3 z4
        have hbx := lt_of_block hX
        cases bk
        rotate_left
        · have hsz := hG.size
          have R9 := hide (hR.out.snoc (x := (⟨ee, d, f, f + 1 + y, p⟩ : TaskV)) (by unfold RightD; dsimp only; omega))
          go_wp2_with (at_builtin; refine wpList_append_own _ rfl _ _ 24 rfl w.heap.size 32 i1 _ 5 40 Try.underlying24 hi1 hy0 hy1 hy2 rfl (by decide) _ _ _ rfl (O.alloc _) ⟨w7.heap.size, 0, none⟩ 1 1 (TaskV.vs ⟨ee, d, f, f + 1 + y, p⟩) rfl rfl (World.news_of_block (cs := #[.int .i64 ee, .int .i64 d, .int .i64 f, .int .i64 (f + 1 + y), .int .i64 p]) (heap_alloc_new w7 _)) (by simp [Value.oneCell', TaskV.vs]) (by unfold maxLen; omega) (by omega) (by simp; omega) ?_)
          intro v' w9 hown' hgrow _
          have hfrom := own_from O (Nat.le_refl _)
          have C9 := Cur.grow (C.below (balloc _ _)) hOn hgrow hfrom
          have O9 : w9.ownsRow w.heap.size 32 5 v' (ms ++ [(⟨ee, d, f, f + 1 + y, p⟩ : TaskV)]).length (flatTasks (ms ++ [(⟨ee, d, f, f + 1 + y, p⟩ : TaskV)])) := by
            rw [List.length_append, flatTasks_app, flat_task]; exact hown'
          have G9 : w.grownBy w9 (some cb) := grown_far (gtrans hG (gof (balloc _ _))) hgrow hfrom
          obtain ⟨v9a, v9c, rfl⟩ := own_form O9
          clear O C hown' hgrow hfrom hG hX
          go_wp2
          go_roundw
          case rel => exact ⟨ms ++ [(⟨ee, d, f, f + 1 + y, p⟩ : TaskV)], I - 1, by go_num, by omega, by have h9 := hLI.out; simp only [List.length_append, List.length_cons, List.length_nil] at h9 ⊢; omega, R9.out, O9, C9, G9⟩
          case measure => simp [intOf]; omega
        · clear z0 z1 z2 z3 z4
          go_wp2_with fail
          refine (cbelow cb cap a bs (ms.length : Int) _ C hl (by omega) (by omega)).mono ?_
          rintro e w8 ⟨q, rfl, q0, q1, C', G'⟩
          replace O := own_far O G' (fun k hk e => by have := own_from O (Nat.le_refl _) k hk; simp at e; omega)
          replace hG := gtrans hG G'
          replace hX := blk_far G' hX (by simp; omega)
          clear C G'
          have C := C'
          clear C'
          obtain ⟨qn, rfl⟩ : ∃ qn : Nat, q = qn := ⟨q.toNat, by omega⟩
          have hqn : qn < ms.length := by omega
          have hTq := hR.out.at hqn
          rcases Tasks.own O with h9 | ⟨tb, tof, rfl, hct⟩
          · simp [h9] at hqn
          have t1 := (hct qn hqn).2.1
          obtain ⟨z0, z1, z2, z3, z4⟩ := (Bx5.parts (x := ⟨ee, d, f, f + 1 + y, p⟩) ⟨blk_at hX 0, blk_at hX 1, blk_at hX 2, blk_at hX 3, blk_at hX 4⟩)
          dsimp only at z0 z1 z2 z3 z4
          have fz : w8.frozen? ⟨w6.heap.size, 0, none⟩ = false := by simp [World.frozen?, hX]
          have hbx := lt_of_block hX
          unfold RightD at hTq
          generalize (ms.getD qn TaskV.zero).d = te at *
          have hX2 := blk_set (i := 0) (v := .int .i64 te) hX
          have hne : ∀ k, (Value.slice (some ⟨tb, tof, none⟩) ms.length co).ownBlock = some k → k ≠ w6.heap.size := hob
          have OS := own_set (b := w6.heap.size) (i := 0) (u := .int .i64 te) O hne
          have CS : Cur (w8.setCell ⟨w6.heap.size, 0, none⟩ (.int .i64 te)) cb a cap bs := C.keep (fun k hk => Below.heap_setCell _ _ _ _ (fun e => by have := hOn k hk; have := hG6; simp at e; omega))
          have GS : w.grownBy (w8.setCell ⟨w6.heap.size, 0, none⟩ (.int .i64 te)) (some cb) := grown_far hG (grown_set w8 w6.heap.size 0 (.int .i64 te)) (fun k hk => by cases hk; omega)
          clear O C hG hX hct
          have O := OS
          have C := CS
          have hG := GS
          have hX := hX2
          clear OS CS GS hX2
          have hsz := hG.size
          have R9 := hide (hR.out.snoc (x := (⟨te, d, f, f + 1 + y, p⟩ : TaskV)) (by unfold RightD; dsimp only; omega))
          go_wp2_with (at_builtin; refine wpList_append_own _ rfl _ _ 24 rfl w.heap.size 32 i1 _ 5 40 Try.underlying24 hi1 hy0 hy1 hy2 rfl (by decide) _ _ _ rfl (O.alloc _) ⟨w8.heap.size, 0, none⟩ 1 1 (TaskV.vs ⟨te, d, f, f + 1 + y, p⟩) rfl rfl (World.news_of_block (cs := #[.int .i64 te, .int .i64 d, .int .i64 f, .int .i64 (f + 1 + y), .int .i64 p]) (new_set w8 _ _ _ _)) (by simp [Value.oneCell', TaskV.vs]) (by unfold maxLen; omega) (by omega) (by simp; omega) ?_)
          intro v' w9 hown' hgrow _
          have hfrom := own_from O (Nat.le_refl _)
          have C9 := Cur.grow (C.below (balloc _ _)) hOn hgrow hfrom
          have O9 : w9.ownsRow w.heap.size 32 5 v' (ms ++ [(⟨te, d, f, f + 1 + y, p⟩ : TaskV)]).length (flatTasks (ms ++ [(⟨te, d, f, f + 1 + y, p⟩ : TaskV)])) := by
            rw [List.length_append, flatTasks_app, flat_task]; exact hown'
          have G9 : w.grownBy w9 (some cb) := grown_far (gtrans hG (gof (balloc _ _))) hgrow hfrom
          obtain ⟨v9a, v9c, rfl⟩ := own_form O9
          clear O C hown' hgrow hfrom hG hX
          go_wp2
          go_roundw
          case rel => exact ⟨ms ++ [(⟨te, d, f, f + 1 + y, p⟩ : TaskV)], I - 1, by go_num, by omega, by have h9 := hLI.out; simp only [List.length_append, List.length_cons, List.length_nil] at h9 ⊢; omega, R9.out, O9, C9, G9⟩
          case measure => simp [intOf]; omega
    · obtain rfl : I = 0 := by omega
      have hml : ms.length ≤ 20 := by omega
      go_wp2
      go_ret
      exact ⟨ms, _, rfl, hR.out, hml, O, C, hG⟩

/-- What is drawn: right tasks in a row of their own, and a turn. -/
def Drawn16 (w : World) (e : Ending) (w' : World) : Prop :=
  ∃ (v : Value) (ts : List TaskV) (n : Int), e = .returned (.tuple #[v, .int .i64 n]) ∧ RightL ts ∧ ts.length ≤ 20 ∧ 0 ≤ n ∧ n ≤ 15 ∧ w'.ownsRow w.heap.size 32 5 v ts.length (flatTasks ts) ∧ Below w.heap.size w w'
set_option maxRecDepth 20000 in
set_option maxHeartbeats 1600000 in
theorem cDraw16 (cap : Nat) (a : Option Addr) (bs : List Int) (w : World) (hz : Bytes w a bs) (hl : bs.length ≤ 1048576) :
    Calls Try.prog 17 #[.slice a bs.length cap] w (Drawn16 w) := by
  go_enter Try.func17, Try.ntmps17
  go_wp2_with fail
  refine (cnew a cap bs _ hz hl).mono ?_
  rintro e w1 ⟨cb, rfl, hcb, C1, b1⟩
  have hcl := C1.lt (.inl rfl)
  go_wp2_with fail
  refine (cDrawT cb cap a bs _ C1 hl).mono ?_
  rintro e w2 ⟨ts, v, rfl, hR, hl2, O2, C2, G2⟩
  have b2 : Below w.heap.size w w2 := b1.grown G2 b1.size (fun k hk => by cases hk; exact hcb)
  obtain ⟨ua, uc, rfl⟩ := own_form O2
  go_wp2_with fail
  refine (cbelow cb cap a bs 16 _ C2 hl (by omega) (by omega)).mono ?_
  rintro e w4 ⟨x, rfl, x0, x1, C4, G4⟩
  have b4 : Below w.heap.size w w4 := b2.grown G4 b2.size (fun k hk => by cases hk; exact hcb)
  have O4 := Go.Joins.ownsRow_le (own_far O2 G4 (fun k hk e => by have := own_from O2 (Nat.le_refl _) k hk; cases e; omega)) b1.size
  clear O2
  replace hR := hide hR
  go_wp2
  go_ret2
  exact ⟨_, ts, x, rfl, hR.out, hl2, x0, by omega, O4, b4⟩
end Go.Proofs.Ytbnhkkaiohmllaa
