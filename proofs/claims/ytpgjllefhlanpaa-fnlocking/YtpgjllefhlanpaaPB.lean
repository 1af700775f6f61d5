/- What is played: the locking and the codes behind k ops. -/
import Derived.Test.YtpgjllefhlanpaaPA
import Derived.Test.YtpgjllefhlanpaaIB
import Derived.Test.YtpgjllefhlanpaaIQ
import Derived.Test.YtpgjllefhlanpaaGT
import Derived.Deep.Cut
namespace Go.Proofs.Ytpgjllefhlanpaa
open Go.RowKit

/-- The locking behind the first k ops; the code of op k; the codes of the first k, the rest nought. -/
def lk (p : PlantV) (os : List OpV) (k : Nat) : LockV := runL p (bareOf p) (os.take k)
def cd (p : PlantV) (os : List OpV) (k : Nat) : Int := opC (kindOf (os.getD k OpV.zero).kind) p (lk p os k) (os.getD k OpV.zero).what
def cl (p : PlantV) (os : List OpV) (k : Nat) : List Int := codesL p (bareOf p) (os.take k)
def cs (p : PlantV) (os : List OpV) (k : Nat) : Array Value := ((cl p os k ++ List.replicate (os.length - k) (0 : Int)).map (Value.int .i64)).toArray
theorem getD_eq {os : List OpV} {k : Nat} (h : k < os.length) : os.getD k OpV.zero = os[k] := by simp [List.getD, h]
theorem lk_step {p : PlantV} {os : List OpV} {k : Nat} (h : k < os.length) : opL (kindOf (os.getD k OpV.zero).kind) p (lk p os k) (os.getD k OpV.zero).what = lk p os (k + 1) := by
  unfold lk
  rw [getD_eq h, List.take_succ_eq_append_getElem h, runL_snoc]; rfl
theorem cl_step {p : PlantV} {os : List OpV} {k : Nat} (h : k < os.length) : cl p os (k + 1) = cl p os k ++ [cd p os k] := by
  unfold cl cd
  rw [getD_eq h, List.take_succ_eq_append_getElem h, codesL_snoc]; rfl
theorem cl_len {p : PlantV} {os : List OpV} {k : Nat} (h : k ≤ os.length) : (cl p os k).length = k := by
  unfold cl; rw [codesL_len]; simp; omega
theorem cs_size {p : PlantV} {os : List OpV} {k : Nat} : (cs p os k).size = os.length ∨ os.length < k := by
  by_cases h : k ≤ os.length
  · left; unfold cs; simp [cl_len h]; omega
  · right; omega
theorem cs_step {p : PlantV} {os : List OpV} {k : Nat} (h : k < os.length) : (cs p os k).setIfInBounds k (.int .i64 (cd p os k)) = cs p os (k + 1) := by
  unfold cs
  have e1 : os.length - k = (os.length - (k + 1)) + 1 := by omega
  have e2 : (cl p os k).length = k := cl_len (by omega)
  rw [cl_step h, List.setIfInBounds_toArray, e1, List.replicate_succ, List.map_append, List.set_append_right _ _ (by simp [e2])]
  simp [e2]
theorem lk_small {p : PlantV} {os : List OpV} (hk : plantOk p = true) (h : Small p) (k : Nat) : LSmall (lk p os k) := by
  have := (right_of hk).b24
  obtain ⟨a, b, c⟩ := runL_len p (os.take k) (bareOf p)
  unfold lk
  refine ⟨?_, ?_, ?_⟩
  · rw [a]; simpa [bareOf] using h.under
  · rw [b]; simpa [bareOf] using h.routes
  · rw [c]; simp [bareOf]; omega
theorem blkA {w : World} {g k : Nat} {M : Array Value} {t : TypeId} (h : w.heap[g]? = some (.cells M t (0, 0))) (hk : k < M.size) : ∃ v, w.cell? ⟨g, k, none⟩ = some v ∧ w.frozen? ⟨g, k, none⟩ = false :=
  ⟨M[k], by rw [Go.Joins.cell_of_block h k]; simp [hk], Go.Joins.unfrozen_of_block h k⟩
theorem ownBlk {w : World} {g n base T : Nat} {M : Array Value} (h : w.heap[g]? = some (.cells M T (0, 0))) (hb : base ≤ g) (hn : n ≤ maxLen) (hs : M.size = n) : w.ownsRow base T 1 (.slice (some ⟨g, 0, none⟩) n n) n M.toList :=
  ⟨by simp [hs], .inr ⟨g, n, M, rfl, hb, h, Nat.le_refl _, hn, by simp [hs], by rw [Nat.mul_one]; exact List.take_of_length_le (by simp [hs])⟩⟩
theorem play_no {p : PlantV} {os : List OpV} (h : playOk p os = false) : playL p os = ⟨[], [], []⟩ ∧ playC p os = [] := by
  unfold playL playC; rw [h]; exact ⟨rfl, rfl⟩
theorem play_yes {p : PlantV} {os : List OpV} (h : plantOk p = true) (g : os.length ≤ 300) : playL p os = lk p os os.length ∧ playC p os = cl p os os.length := by
  have : playOk p os = true := by simp [playOk, h, g]
  unfold playL playC lk cl; rw [this, List.take_length]; exact ⟨rfl, rfl⟩
theorem bare_lk {p : PlantV} (os : List OpV) (h : plantOk p = true) : bareL p = lk p os 0 := by
  unfold bareL lk; rw [h]; simp [runL]
/-- Where the statement has laid the locking and the codes. -/
structure GotP (W : World) (p : PlantV) (os : List OpV) (sv cv : Value) (wc : World) : Prop where
  ex : ∃ bl x cx y cy z cz lo hi bc, sv = .pointer (some ⟨bl, 0, none⟩) ∧ cv = .slice (some ⟨bc, 0, none⟩) os.length os.length ∧ wc.heap[bl]? = some (.cells #[.slice x (lk p os 0).pos.length cx, .slice y (lk p os 0).set.length cy, .slice z (lk p os 0).taken.length cz] 33 (0, 0)) ∧
    wc.heap[bc]? = some (.cells (cs p os 0) 3 (0, 0)) ∧ LockOwn wc lo hi x cx y cy z cz (lk p os 0) ∧ Plain x cx ∧ Plain y cy ∧ Plain z cz ∧
    (W.heap.size ≤ bl ∧ W.heap.size ≤ bc ∧ bl ≠ bc ∧ W.heap.size ≤ lo ∧ hi ≤ wc.heap.size ∧ (bl < lo ∨ hi ≤ bl) ∧ (bc < lo ∨ hi ≤ bc) ∧ bc < wc.heap.size)
  bel : Below W.heap.size W wc
/-- What a play answers, in memory. -/
def Played (w w' : World) (p : PlantV) (os : List OpV) (e : Ending) : Prop :=
  ∃ x cx y cy z cz g cg lo hi clo chi, e = .returned (.tuple #[lockVal x cx y cy z cz (playL p os), .slice g (playC p os).length cg]) ∧ LockOwn w' lo hi x cx y cy z cz (playL p os) ∧
    RowZ w' clo chi 3 (.slice g (playC p os).length cg) ((playC p os).map (.int .i64)) ∧ (hi ≤ clo ∨ chi ≤ lo) ∧ w.heap.size ≤ lo ∧ w.heap.size ≤ clo ∧ hi ≤ w'.heap.size ∧ chi ≤ w'.heap.size ∧ Below w.heap.size w w'
set_option maxRecDepth 20000 in
set_option maxHeartbeats 12800000 in
theorem cPlayI (a b q : Option Addr) (ca cb cq : Nat) (p : PlantV) (os : List OpV) (w : World) (hP : PlantIn w a b p) (hO : Ops w q os) (hS : Small p) :
    Calls Try.prog 8 #[plantVal a ca b cb p, .slice q os.length cq] w fun e w' => Played w w' p os e := by
  have CP := fun w hP => cPlantOkI a b ca cb p w hP hS
  have CB := fun (h : plantOk p = true) w hP => (show Calls Try.prog 7 #[plantVal a ca b cb p] w _ from (bare_lk os h) ▸ cBareI a b ca cb p w hP hS)
  have CS := fun ek ew w => cStepOf ek ew w
  have CD : ∀ k, k < os.length → ∀ (x y z : Option Addr) (cx cy cz : Nat) (w : World), PlantIn w a b p → LockIn w x y z (lk p os k) → Plain x cx → Plain y cy → Plain z cz → LSmall (lk p os k) → Calls Try.prog 23 #[plantVal a ca b cb p, lockVal x cx y cy z cz (lk p os k), stepVal (kindOf (os.getD k OpV.zero).kind) (os.getD k OpV.zero).what] w fun e w' => ∃ x' cx' y' cy' z' cz', e = .returned (.tuple #[lockVal x' cx' y' cy' z' cz' (lk p os (k + 1)), .int .i64 (cd p os k)]) ∧
      LockOwn w' w.heap.size w'.heap.size x' cx' y' cy' z' cz' (lk p os (k + 1)) ∧ Plain x' cx' ∧ Plain y' cy' ∧ Plain z' cz' ∧ Below w.heap.size w w' := by
    intro k hk x y z cx cy cz w hP hL hx hy hz hT
    have := cDone (kindOf (os.getD k OpV.zero).kind) (os.getD k OpV.zero).what a b x y z ca cb cx cy cz p (lk p os k) w hP hL hx hy hz hS hT
    rw [lk_step hk] at this
    exact this
  unfold Played
  unfold plantVal lockVal at *
  have HB := btrans (balloc w (.cells #[.slice a p.under.length ca, .int .i64 p.blocks, .slice b p.routes.length cb] 27)) (balloc _ (.cells #[.slice none 0 0, .slice none 0 0, .slice none 0 0] 33))
  have K0 : ((w.alloc (.cells #[.slice a p.under.length ca, .int .i64 p.blocks, .slice b p.routes.length cb] 27)).alloc (.cells #[.slice none 0 0, .slice none 0 0, .slice none 0 0] 33)).heap[w.heap.size]? = some (.cells #[.slice a p.under.length ca, .int .i64 p.blocks, .slice b p.routes.length cb] 27 (0, 0)) := two_blocks1 _ _ _
  have K1 : ((w.alloc (.cells #[.slice a p.under.length ca, .int .i64 p.blocks, .slice b p.routes.length cb] 27)).alloc (.cells #[.slice none 0 0, .slice none 0 0, .slice none 0 0] 33)).heap[w.heap.size + 1]? = some (.cells #[.slice none 0 0, .slice none 0 0, .slice none 0 0] 33 (0, 0)) := two_blocks2 _ _ _
  go_enter Try.func8, Try.ntmps8
  go_wp2_with fail
  refine (CP _ (hP.below HB)).mono ?_
  rintro e w1 ⟨rfl, hb⟩
  replace K0 := blk_keep hb K0
  replace K1 := blk_keep hb K1
  replace HB := btrans HB hb
  clear hb CP
  cases hok : plantOk p
  · have hQ := hide (play_no (os := os) (show playOk p os = false by unfold playOk; rw [hok]; rfl))
    replace hok := hide hok
    obtain ⟨⟨z0, z1, z2⟩, y0, y1, y2⟩ := blk3 K1
    have mB := below_set (o := 2) (v := .slice none 0 0) (b := w.heap.size + 1) (by omega) (below_set (o := 1) (v := .slice none 0 0) (b := w.heap.size + 1) (by omega) (below_set (o := 0) (v := .slice none 0 0) (b := w.heap.size + 1) (by omega) HB))
    have sB := mB.size
    go_wp2_with fail
    refine bodyPost_ret (v := .tuple #[.agg #[.slice none 0 0, .slice none 0 0, .slice none 0 0], .slice none 0 0]) (by simp [results, Try.results8, go_sem, z0, z1, z2]) rfl ?_
    refine ⟨none, 0, none, 0, none, 0, none, 0, w.heap.size, w.heap.size, w.heap.size, w.heap.size, by rw [hQ.out.1, hQ.out.2]; rfl, by rw [hQ.out.1]; exact ⟨.inl ⟨rfl, _, _, rfl⟩, .inl ⟨rfl, _, _, rfl⟩, .inl ⟨rfl, _, _, rfl⟩, (fun h => absurd rfl h), (fun h => absurd rfl h), (fun h => absurd rfl h)⟩, by rw [hQ.out.2]; exact .inl ⟨rfl, _, _, rfl⟩, .inl (Nat.le_refl _), Nat.le_refl _, Nat.le_refl _, sB, sB, mB⟩
  by_cases hle : os.length ≤ 300
  case neg =>
    have hQ := hide (play_no (p := p) (os := os) (show playOk p os = false by unfold playOk; simp [hle]))
    have hg : (300 : Int) < (os.length : Int) := by omega
    replace hok := hide hok
    clear hle
    obtain ⟨⟨z0, z1, z2⟩, y0, y1, y2⟩ := blk3 K1
    have mB := below_set (o := 2) (v := .slice none 0 0) (b := w.heap.size + 1) (by omega) (below_set (o := 1) (v := .slice none 0 0) (b := w.heap.size + 1) (by omega) (below_set (o := 0) (v := .slice none 0 0) (b := w.heap.size + 1) (by omega) HB))
    have sB := mB.size
    go_wp2_with fail
    refine bodyPost_ret (v := .tuple #[.agg #[.slice none 0 0, .slice none 0 0, .slice none 0 0], .slice none 0 0]) (by simp [results, Try.results8, go_sem, z0, z1, z2]) rfl ?_
    refine ⟨none, 0, none, 0, none, 0, none, 0, w.heap.size, w.heap.size, w.heap.size, w.heap.size, by rw [hQ.out.1, hQ.out.2]; rfl, by rw [hQ.out.1]; exact ⟨.inl ⟨rfl, _, _, rfl⟩, .inl ⟨rfl, _, _, rfl⟩, .inl ⟨rfl, _, _, rfl⟩, (fun h => absurd rfl h), (fun h => absurd rfl h), (fun h => absurd rfl h)⟩, by rw [hQ.out.2]; exact .inl ⟨rfl, _, _, rfl⟩, .inl (Nat.le_refl _), Nat.le_refl _, Nat.le_refl _, sB, sB, mB⟩
  have hQ := hide (play_yes hok hle)
  have hg : ¬ ((300 : Int) < (os.length : Int)) := by omega
  have hg2 : (os.length : Int) ≤ 300 := by omega
  replace CB := fun w hP => CB hok w hP
  have hT := lk_small (os := os) hok hS
  replace hok := hide hok
  have hK1 := lt_of_block K1
  replace CD := fun k hk x y z cx cy cz w hP hL hx hy hz => CD k hk x y z cx cy cz w hP hL hx hy hz (hT k)
  obtain ⟨i0, hi, hz0, hz1, hz2⟩ := info_parts2 infoInts
  have k1 : ∀ w', (Instr.makeSlice 24 (.int .i64 (os.length : Int)) (.int .i64 (os.length : Int))).run Try.prog w' = .ok (.slice (some ⟨w'.heap.size, 0, none⟩) os.length os.length) (w'.alloc (.cells (cs p os 0) 3)) := by
    intro w'
    have := run_make (P := Try.prog) w' 24 3 i0 (.int .i64 0) Try.underlying24 hi hz0 .i64 .i64 (os.length : Int) (os.length : Int) (by omega) (by omega) (by rw [hz2]; omega) (by omega)
    rw [hz1] at this
    have hm : madeCells #[.int .i64 0] os.length = cs p os 0 := by
      apply Array.toList_inj.1
      rw [toList_madeCells_one]; simp [cs, cl, codesL]
    rw [← hm]
    simpa [Value.cells] using this
  clear hi hz0 hz1 hz2
  obtain ⟨⟨z0, z1, z2⟩, -⟩ := blk3 K0
  go_upto_region 3 with fail
  go_cut [6, 7] from 24 (fun sv cv wc => GotP w1 p os sv cv wc)
  case first =>
    refine wp_region_held_drew (S := (fun w' => w'.cell? ⟨w.heap.size, 0, none⟩ = some (.slice a p.under.length ca) ∧ w'.cell? ⟨w.heap.size, 1, none⟩ = some (.int .i64 p.blocks) ∧ w'.cell? ⟨w.heap.size, 2, none⟩ = some (.slice b p.routes.length cb))) (by kernel_rfl) ?_ (fun hHeld => ?_)
    · go_keep
    have B0 : Below w1.heap.size w1 w1.drew := (Below.refl _ _).drew
    refine wpAnyH_take (i := 0) (v := .agg #[.slice a p.under.length ca, .int .i64 p.blocks, .slice b p.routes.length cb]) rfl (by kernel_rfl) (by kernel_rfl) (by kernel_rfl) (fun _ _ _ h => h) (Or.inl ⟨by kernel_rfl, fun w hS => by (obtain ⟨hS0, hS1, hS2⟩ := hS; go_simp)⟩) hHeld ?_
    change wpAnyH _ _ _ _ _ _ _ { tmps := #[_, _, _, _, _, _, _, _, _, _, _, _, _, _, _, _, _, _, _, .agg #[.slice a p.under.length ca, .int .i64 p.blocks, .slice b p.routes.length cb], _, _, _, _, _, _, _, _, _, _, _, _, _, _, _, _, _, _, _, _, _, _, _, _, _], defers := [] } _
    refine wpAnyH_take (i := 2) (v := .slice q os.length cq) rfl (by kernel_rfl) (by kernel_rfl) (by kernel_rfl) (fun _ _ _ h => h) (Or.inl ⟨by kernel_rfl, fun w hS => by (obtain ⟨hS0, hS1, hS2⟩ := hS; go_simp)⟩) hHeld ?_
    change wpAnyH _ _ _ _ _ _ _ { tmps := #[_, _, _, _, _, _, _, _, _, _, _, _, _, _, _, _, _, _, _, .agg #[.slice a p.under.length ca, .int .i64 p.blocks, .slice b p.routes.length cb], _, .slice q os.length cq, _, _, _, _, _, _, _, _, _, _, _, _, _, _, _, _, _, _, _, _, _, _, _], defers := [] } _
    refine wpAnyH_take (i := 3) (v := .int .i64 (os.length : Int)) rfl (by kernel_rfl) (by kernel_rfl) (by kernel_rfl) (fun _ _ _ h => h) (Or.inl ⟨by kernel_rfl, fun w hS => by (obtain ⟨hS0, hS1, hS2⟩ := hS; go_simp)⟩) hHeld ?_
    change wpAnyH _ _ _ _ _ _ _ { tmps := #[_, _, _, _, _, _, _, _, _, _, _, _, _, _, _, _, _, _, _, .agg #[.slice a p.under.length ca, .int .i64 p.blocks, .slice b p.routes.length cb], _, .slice q os.length cq, .int .i64 (os.length : Int), _, _, _, _, _, _, _, _, _, _, _, _, _, _, _, _, _, _, _, _, _, _], defers := [] } _
    change wpAnyH _ _ _ _ _ _ _ { tmps := #[_, _, _, _, _, _, _, _, _, _, _, _, _, _, _, _, _, _, _, .agg #[.slice a p.under.length ca, .int .i64 p.blocks, .slice b p.routes.length cb], _, .slice q os.length cq, .int .i64 (os.length : Int), _, _, _, _, _, _, _, _, _, _, _, _, _, _, _, _, _, _, _, _, _, _], defers := [] } w1.drew
    have t0 : w1.heap.size ≤ w1.drew.heap.size := Nat.le_refl _
    generalize w1.drew = v0 at *
    refine wpAnyH_ready (rs := [1, 4, 5]) (by kernel_rfl) (by simp) ?_
    refine (AllReadyH.cons rfl (fun K hK => ?_) (AllReadyH.cons rfl (fun K hK => ?_) (AllReadyH.cons rfl (fun K hK => ?_) AllReadyH.nil)))
    · skip
      go_simp
      refine (CB _ (hP.below (btrans HB B0))).mono ?_
      rintro e v1 ⟨x8, cx8, y8, cy8, z8, cz8, rfl, O8, hx8, hy8, hz8, hb⟩
      have B1 := btrans B0 hb
      have t1 := hb.size
      try rw [szd] at t1 O8
      clear hb hHeld
      go_wp2_with fail
      refine hK.out _ _ (by obtain ⟨⟨k0, k1, k2⟩, -⟩ := blk3 (blk_keep B1 K0); exact ⟨k0, k1, k2⟩) (fun hHeld => ?_)
      clear hK K
      change wpAnyH _ _ _ _ _ _ _ { tmps := #[_, _, _, _, _, _, _, _, _, _, _, _, _, _, _, _, _, _, _, .agg #[.slice a p.under.length ca, .int .i64 p.blocks, .slice b p.routes.length cb], .agg #[.slice x8 (lk p os 0).pos.length cx8, .slice y8 (lk p os 0).set.length cy8, .slice z8 (lk p os 0).taken.length cz8], .slice q os.length cq, .int .i64 (os.length : Int), _, _, _, _, _, _, _, _, _, _, _, _, _, _, _, _, _, _, _, _, _, _], defers := [] } _
      refine wpAnyH_ready (rs := [4, 5]) (by kernel_rfl) (by simp) ?_
      refine (AllReadyH.cons rfl (fun K hK => ?_) (AllReadyH.cons rfl (fun K hK => ?_) AllReadyH.nil))
      · skip
        go_simp
        have hb := balloc v1 (.cells (cs p os 0) 3)
        have B2 := btrans B1 hb
        have t2 := Nat.le_of_eq (sz1 v1 (.cells (cs p os 0) 3)).symm
        replace O8 := O8.below hb
        have mB : (v1.alloc (.cells (cs p os 0) 3)).heap[v1.heap.size]? = some (.cells (cs p os 0) 3 (0, 0)) := new1
        try rw [szd] at t2
        clear hb hHeld
        refine hK.out _ _ (by obtain ⟨⟨k0, k1, k2⟩, -⟩ := blk3 (blk_keep B2 K0); exact ⟨k0, k1, k2⟩) (fun hHeld => ?_)
        clear hK K
        change wpAnyH _ _ _ _ _ _ _ { tmps := #[_, _, _, _, _, _, _, _, _, _, _, _, _, _, _, _, _, _, _, .agg #[.slice a p.under.length ca, .int .i64 p.blocks, .slice b p.routes.length cb], .agg #[.slice x8 (lk p os 0).pos.length cx8, .slice y8 (lk p os 0).set.length cy8, .slice z8 (lk p os 0).taken.length cz8], .slice q os.length cq, .int .i64 (os.length : Int), .slice (some ⟨v1.heap.size, 0, none⟩) os.length os.length, _, _, _, _, _, _, _, _, _, _, _, _, _, _, _, _, _, _, _, _, _], defers := [] } (v1.alloc (.cells (cs p os 0) 3))
        generalize v1.alloc (.cells (cs p os 0) 3) = v2 at *
        refine wpAnyH_ready (rs := [5]) (by kernel_rfl) (by simp) ?_
        refine (AllReadyH.cons rfl (fun K hK => ?_) AllReadyH.nil)
        go_simp
        have hb := balloc v2 (.cells #[.slice none 0 0, .slice none 0 0, .slice none 0 0] 33)
        have B3 := btrans B2 hb
        have t3 := Nat.le_of_eq (sz1 v2 (.cells #[.slice none 0 0, .slice none 0 0, .slice none 0 0] 33)).symm
        replace mB := blk_keep hb mB
        replace O8 := O8.below hb
        have zB : (v2.alloc (.cells #[.slice none 0 0, .slice none 0 0, .slice none 0 0] 33)).heap[v2.heap.size]? = some (.cells #[.slice none 0 0, .slice none 0 0, .slice none 0 0] 33 (0, 0)) := new1
        try rw [szd] at t3
        clear hb hHeld
        refine hK.out _ _ (by obtain ⟨⟨k0, k1, k2⟩, -⟩ := blk3 (blk_keep B3 K0); exact ⟨k0, k1, k2⟩) (fun hHeld => ?_)
        clear hK K
        change wpAnyH _ _ _ _ _ _ _ { tmps := #[_, _, _, _, _, _, .pointer (some ⟨v2.heap.size, 0, none⟩), _, _, _, _, _, _, _, _, _, _, _, _, .agg #[.slice a p.under.length ca, .int .i64 p.blocks, .slice b p.routes.length cb], .agg #[.slice x8 (lk p os 0).pos.length cx8, .slice y8 (lk p os 0).set.length cy8, .slice z8 (lk p os 0).taken.length cz8], .slice q os.length cq, .int .i64 (os.length : Int), .slice (some ⟨v1.heap.size, 0, none⟩) os.length os.length, _, _, _, _, _, _, _, _, _, _, _, _, _, _, _, _, _, _, _, _, _], defers := [] } (v2.alloc (.cells #[.slice none 0 0, .slice none 0 0, .slice none 0 0] 33))
        generalize v2.alloc (.cells #[.slice none 0 0, .slice none 0 0, .slice none 0 0] 33) = v3 at *
        refine wpAnyH_ready (rs := [6]) (by kernel_rfl) (by simp) ?_
        refine (AllReadyH.cons rfl (fun K hK => ?_) AllReadyH.nil)
        obtain ⟨⟨z0, z1, z2⟩, yy0, yy1, yy2⟩ := blk3 zB
        go_simp
        have q1 := lt_of_block zB
        have qb : w1.heap.size ≤ v2.heap.size := by omega
        have B4 : Below w1.heap.size w1 (((v3.setCell ⟨v2.heap.size, 0, none⟩ (.slice x8 (lk p os 0).pos.length cx8)).setCell ⟨v2.heap.size, 1, none⟩ (.slice y8 (lk p os 0).set.length cy8)).setCell ⟨v2.heap.size, 2, none⟩ (.slice z8 (lk p os 0).taken.length cz8)) := stB B3 qb
        have t4 : v3.heap.size ≤ (((v3.setCell ⟨v2.heap.size, 0, none⟩ (.slice x8 (lk p os 0).pos.length cx8)).setCell ⟨v2.heap.size, 1, none⟩ (.slice y8 (lk p os 0).set.length cy8)).setCell ⟨v2.heap.size, 2, none⟩ (.slice z8 (lk p os 0).taken.length cz8)).heap.size := by simp only [World.size_setCell]; exact Nat.le_refl _
        replace mB := blk_other (b := v2.heap.size) (i := 2) (v := .slice z8 (lk p os 0).taken.length cz8) (blk_other (b := v2.heap.size) (i := 1) (v := .slice y8 (lk p os 0).set.length cy8) (blk_other (b := v2.heap.size) (i := 0) (v := .slice x8 (lk p os 0).pos.length cx8) mB (by omega)) (by omega)) (by omega)
        replace O8 := ((O8.setOut (g := v2.heap.size) (i := 0) (u := .slice x8 (lk p os 0).pos.length cx8) (by omega)).setOut (g := v2.heap.size) (i := 1) (u := .slice y8 (lk p os 0).set.length cy8) (by omega)).setOut (g := v2.heap.size) (i := 2) (u := .slice z8 (lk p os 0).taken.length cz8) (by omega)
        replace zB := blk_set (i := 2) (v := .slice z8 (lk p os 0).taken.length cz8) (blk_set (i := 1) (v := .slice y8 (lk p os 0).set.length cy8) (blk_set (i := 0) (v := .slice x8 (lk p os 0).pos.length cx8) zB))
        simp only [List.setIfInBounds_toArray, List.set_cons_zero, List.set_cons_succ] at zB
        clear hHeld z0 z1 z2 yy0 yy1 yy2
        refine hK.out _ _ (by obtain ⟨⟨k0, k1, k2⟩, -⟩ := blk3 (blk_keep B4 K0); exact ⟨k0, k1, k2⟩) (fun hHeld => ?_)
        clear hK K
        change wpAnyH _ _ _ _ _ _ _ { tmps := #[_, _, _, _, _, _, .pointer (some ⟨v2.heap.size, 0, none⟩), _, _, _, _, _, _, _, _, _, _, _, _, .agg #[.slice a p.under.length ca, .int .i64 p.blocks, .slice b p.routes.length cb], .agg #[.slice x8 (lk p os 0).pos.length cx8, .slice y8 (lk p os 0).set.length cy8, .slice z8 (lk p os 0).taken.length cz8], .slice q os.length cq, .int .i64 (os.length : Int), .slice (some ⟨v1.heap.size, 0, none⟩) os.length os.length, _, _, _, _, _, _, _, _, _, _, _, _, _, _, _, _, _, _, _, _, _], defers := [] } (((v3.setCell ⟨v2.heap.size, 0, none⟩ (.slice x8 (lk p os 0).pos.length cx8)).setCell ⟨v2.heap.size, 1, none⟩ (.slice y8 (lk p os 0).set.length cy8)).setCell ⟨v2.heap.size, 2, none⟩ (.slice z8 (lk p os 0).taken.length cz8))
        generalize (((v3.setCell ⟨v2.heap.size, 0, none⟩ (.slice x8 (lk p os 0).pos.length cx8)).setCell ⟨v2.heap.size, 1, none⟩ (.slice y8 (lk p os 0).set.length cy8)).setCell ⟨v2.heap.size, 2, none⟩ (.slice z8 (lk p os 0).taken.length cz8)) = v4 at *
        refine wpAnyH_take (i := 7) (v := .slice (some ⟨v1.heap.size, 0, none⟩) os.length os.length) rfl (by kernel_rfl) (by kernel_rfl) (by kernel_rfl) (fun _ _ _ h => h) (Or.inl ⟨by kernel_rfl, fun w hS => by (obtain ⟨hS0, hS1, hS2⟩ := hS; go_simp)⟩) hHeld ?_
        change wpAnyH _ _ _ _ _ _ _ { tmps := #[_, _, _, _, _, _, .pointer (some ⟨v2.heap.size, 0, none⟩), .slice (some ⟨v1.heap.size, 0, none⟩) os.length os.length, _, _, _, _, _, _, _, _, _, _, _, .agg #[.slice a p.under.length ca, .int .i64 p.blocks, .slice b p.routes.length cb], .agg #[.slice x8 (lk p os 0).pos.length cx8, .slice y8 (lk p os 0).set.length cy8, .slice z8 (lk p os 0).taken.length cz8], .slice q os.length cq, .int .i64 (os.length : Int), .slice (some ⟨v1.heap.size, 0, none⟩) os.length os.length, _, _, _, _, _, _, _, _, _, _, _, _, _, _, _, _, _, _, _, _, _], defers := [] } _
        refine wpAnyH_done (by kernel_rfl) ?_ _
        go_wp2_with fail
        go_meet
        have q1 := lt_of_block zB
        have q2 := lt_of_block mB
        exact ⟨⟨_, x8, cx8, y8, cy8, z8, cz8, _, _, _, rfl, rfl, zB, mB, O8, hx8, hy8, hz8, ⟨by omega, by omega, by omega, by omega, by omega, by omega, by omega, by omega⟩⟩, B4⟩
      · skip
        go_simp
        have hb := balloc v1 (.cells #[.slice none 0 0, .slice none 0 0, .slice none 0 0] 33)
        have B2 := btrans B1 hb
        have t2 := Nat.le_of_eq (sz1 v1 (.cells #[.slice none 0 0, .slice none 0 0, .slice none 0 0] 33)).symm
        replace O8 := O8.below hb
        have zB : (v1.alloc (.cells #[.slice none 0 0, .slice none 0 0, .slice none 0 0] 33)).heap[v1.heap.size]? = some (.cells #[.slice none 0 0, .slice none 0 0, .slice none 0 0] 33 (0, 0)) := new1
        try rw [szd] at t2
        clear hb hHeld
        refine hK.out _ _ (by obtain ⟨⟨k0, k1, k2⟩, -⟩ := blk3 (blk_keep B2 K0); exact ⟨k0, k1, k2⟩) (fun hHeld => ?_)
        clear hK K
        change wpAnyH _ _ _ _ _ _ _ { tmps := #[_, _, _, _, _, _, .pointer (some ⟨v1.heap.size, 0, none⟩), _, _, _, _, _, _, _, _, _, _, _, _, .agg #[.slice a p.under.length ca, .int .i64 p.blocks, .slice b p.routes.length cb], .agg #[.slice x8 (lk p os 0).pos.length cx8, .slice y8 (lk p os 0).set.length cy8, .slice z8 (lk p os 0).taken.length cz8], .slice q os.length cq, .int .i64 (os.length : Int), _, _, _, _, _, _, _, _, _, _, _, _, _, _, _, _, _, _, _, _, _, _], defers := [] } (v1.alloc (.cells #[.slice none 0 0, .slice none 0 0, .slice none 0 0] 33))
        generalize v1.alloc (.cells #[.slice none 0 0, .slice none 0 0, .slice none 0 0] 33) = v2 at *
        refine wpAnyH_ready (rs := [4, 6]) (by kernel_rfl) (by simp) ?_
        refine (AllReadyH.cons rfl (fun K hK => ?_) (AllReadyH.cons rfl (fun K hK => ?_) AllReadyH.nil))
        · skip
          go_simp
          have hb := balloc v2 (.cells (cs p os 0) 3)
          have B3 := btrans B2 hb
          have t3 := Nat.le_of_eq (sz1 v2 (.cells (cs p os 0) 3)).symm
          replace zB := blk_keep hb zB
          replace O8 := O8.below hb
          have mB : (v2.alloc (.cells (cs p os 0) 3)).heap[v2.heap.size]? = some (.cells (cs p os 0) 3 (0, 0)) := new1
          try rw [szd] at t3
          clear hb hHeld
          refine hK.out _ _ (by obtain ⟨⟨k0, k1, k2⟩, -⟩ := blk3 (blk_keep B3 K0); exact ⟨k0, k1, k2⟩) (fun hHeld => ?_)
          clear hK K
          change wpAnyH _ _ _ _ _ _ _ { tmps := #[_, _, _, _, _, _, .pointer (some ⟨v1.heap.size, 0, none⟩), _, _, _, _, _, _, _, _, _, _, _, _, .agg #[.slice a p.under.length ca, .int .i64 p.blocks, .slice b p.routes.length cb], .agg #[.slice x8 (lk p os 0).pos.length cx8, .slice y8 (lk p os 0).set.length cy8, .slice z8 (lk p os 0).taken.length cz8], .slice q os.length cq, .int .i64 (os.length : Int), .slice (some ⟨v2.heap.size, 0, none⟩) os.length os.length, _, _, _, _, _, _, _, _, _, _, _, _, _, _, _, _, _, _, _, _, _], defers := [] } (v2.alloc (.cells (cs p os 0) 3))
          generalize v2.alloc (.cells (cs p os 0) 3) = v3 at *
          refine wpAnyH_ready (rs := [6]) (by kernel_rfl) (by simp) ?_
          refine (AllReadyH.cons rfl (fun K hK => ?_) AllReadyH.nil)
          obtain ⟨⟨z0, z1, z2⟩, yy0, yy1, yy2⟩ := blk3 zB
          go_simp
          have q1 := lt_of_block zB
          have qb : w1.heap.size ≤ v1.heap.size := by omega
          have B4 : Below w1.heap.size w1 (((v3.setCell ⟨v1.heap.size, 0, none⟩ (.slice x8 (lk p os 0).pos.length cx8)).setCell ⟨v1.heap.size, 1, none⟩ (.slice y8 (lk p os 0).set.length cy8)).setCell ⟨v1.heap.size, 2, none⟩ (.slice z8 (lk p os 0).taken.length cz8)) := stB B3 qb
          have t4 : v3.heap.size ≤ (((v3.setCell ⟨v1.heap.size, 0, none⟩ (.slice x8 (lk p os 0).pos.length cx8)).setCell ⟨v1.heap.size, 1, none⟩ (.slice y8 (lk p os 0).set.length cy8)).setCell ⟨v1.heap.size, 2, none⟩ (.slice z8 (lk p os 0).taken.length cz8)).heap.size := by simp only [World.size_setCell]; exact Nat.le_refl _
          replace mB := blk_other (b := v1.heap.size) (i := 2) (v := .slice z8 (lk p os 0).taken.length cz8) (blk_other (b := v1.heap.size) (i := 1) (v := .slice y8 (lk p os 0).set.length cy8) (blk_other (b := v1.heap.size) (i := 0) (v := .slice x8 (lk p os 0).pos.length cx8) mB (by omega)) (by omega)) (by omega)
          replace O8 := ((O8.setOut (g := v1.heap.size) (i := 0) (u := .slice x8 (lk p os 0).pos.length cx8) (by omega)).setOut (g := v1.heap.size) (i := 1) (u := .slice y8 (lk p os 0).set.length cy8) (by omega)).setOut (g := v1.heap.size) (i := 2) (u := .slice z8 (lk p os 0).taken.length cz8) (by omega)
          replace zB := blk_set (i := 2) (v := .slice z8 (lk p os 0).taken.length cz8) (blk_set (i := 1) (v := .slice y8 (lk p os 0).set.length cy8) (blk_set (i := 0) (v := .slice x8 (lk p os 0).pos.length cx8) zB))
          simp only [List.setIfInBounds_toArray, List.set_cons_zero, List.set_cons_succ] at zB
          clear hHeld z0 z1 z2 yy0 yy1 yy2
          refine hK.out _ _ (by obtain ⟨⟨k0, k1, k2⟩, -⟩ := blk3 (blk_keep B4 K0); exact ⟨k0, k1, k2⟩) (fun hHeld => ?_)
          clear hK K
          change wpAnyH _ _ _ _ _ _ _ { tmps := #[_, _, _, _, _, _, .pointer (some ⟨v1.heap.size, 0, none⟩), _, _, _, _, _, _, _, _, _, _, _, _, .agg #[.slice a p.under.length ca, .int .i64 p.blocks, .slice b p.routes.length cb], .agg #[.slice x8 (lk p os 0).pos.length cx8, .slice y8 (lk p os 0).set.length cy8, .slice z8 (lk p os 0).taken.length cz8], .slice q os.length cq, .int .i64 (os.length : Int), .slice (some ⟨v2.heap.size, 0, none⟩) os.length os.length, _, _, _, _, _, _, _, _, _, _, _, _, _, _, _, _, _, _, _, _, _], defers := [] } (((v3.setCell ⟨v1.heap.size, 0, none⟩ (.slice x8 (lk p os 0).pos.length cx8)).setCell ⟨v1.heap.size, 1, none⟩ (.slice y8 (lk p os 0).set.length cy8)).setCell ⟨v1.heap.size, 2, none⟩ (.slice z8 (lk p os 0).taken.length cz8))
          generalize (((v3.setCell ⟨v1.heap.size, 0, none⟩ (.slice x8 (lk p os 0).pos.length cx8)).setCell ⟨v1.heap.size, 1, none⟩ (.slice y8 (lk p os 0).set.length cy8)).setCell ⟨v1.heap.size, 2, none⟩ (.slice z8 (lk p os 0).taken.length cz8)) = v4 at *
          refine wpAnyH_take (i := 7) (v := .slice (some ⟨v2.heap.size, 0, none⟩) os.length os.length) rfl (by kernel_rfl) (by kernel_rfl) (by kernel_rfl) (fun _ _ _ h => h) (Or.inl ⟨by kernel_rfl, fun w hS => by (obtain ⟨hS0, hS1, hS2⟩ := hS; go_simp)⟩) hHeld ?_
          change wpAnyH _ _ _ _ _ _ _ { tmps := #[_, _, _, _, _, _, .pointer (some ⟨v1.heap.size, 0, none⟩), .slice (some ⟨v2.heap.size, 0, none⟩) os.length os.length, _, _, _, _, _, _, _, _, _, _, _, .agg #[.slice a p.under.length ca, .int .i64 p.blocks, .slice b p.routes.length cb], .agg #[.slice x8 (lk p os 0).pos.length cx8, .slice y8 (lk p os 0).set.length cy8, .slice z8 (lk p os 0).taken.length cz8], .slice q os.length cq, .int .i64 (os.length : Int), .slice (some ⟨v2.heap.size, 0, none⟩) os.length os.length, _, _, _, _, _, _, _, _, _, _, _, _, _, _, _, _, _, _, _, _, _], defers := [] } _
          refine wpAnyH_done (by kernel_rfl) ?_ _
          go_wp2_with fail
          go_meet
          have q1 := lt_of_block zB
          have q2 := lt_of_block mB
          exact ⟨⟨_, x8, cx8, y8, cy8, z8, cz8, _, _, _, rfl, rfl, zB, mB, O8, hx8, hy8, hz8, ⟨by omega, by omega, by omega, by omega, by omega, by omega, by omega, by omega⟩⟩, B4⟩
        · skip
          obtain ⟨⟨z0, z1, z2⟩, yy0, yy1, yy2⟩ := blk3 zB
          go_simp
          have q1 := lt_of_block zB
          have qb : w1.heap.size ≤ v1.heap.size := by omega
          have B3 : Below w1.heap.size w1 (((v2.setCell ⟨v1.heap.size, 0, none⟩ (.slice x8 (lk p os 0).pos.length cx8)).setCell ⟨v1.heap.size, 1, none⟩ (.slice y8 (lk p os 0).set.length cy8)).setCell ⟨v1.heap.size, 2, none⟩ (.slice z8 (lk p os 0).taken.length cz8)) := stB B2 qb
          have t3 : v2.heap.size ≤ (((v2.setCell ⟨v1.heap.size, 0, none⟩ (.slice x8 (lk p os 0).pos.length cx8)).setCell ⟨v1.heap.size, 1, none⟩ (.slice y8 (lk p os 0).set.length cy8)).setCell ⟨v1.heap.size, 2, none⟩ (.slice z8 (lk p os 0).taken.length cz8)).heap.size := by simp only [World.size_setCell]; exact Nat.le_refl _
          replace O8 := ((O8.setOut (g := v1.heap.size) (i := 0) (u := .slice x8 (lk p os 0).pos.length cx8) (by omega)).setOut (g := v1.heap.size) (i := 1) (u := .slice y8 (lk p os 0).set.length cy8) (by omega)).setOut (g := v1.heap.size) (i := 2) (u := .slice z8 (lk p os 0).taken.length cz8) (by omega)
          replace zB := blk_set (i := 2) (v := .slice z8 (lk p os 0).taken.length cz8) (blk_set (i := 1) (v := .slice y8 (lk p os 0).set.length cy8) (blk_set (i := 0) (v := .slice x8 (lk p os 0).pos.length cx8) zB))
          simp only [List.setIfInBounds_toArray, List.set_cons_zero, List.set_cons_succ] at zB
          clear hHeld z0 z1 z2 yy0 yy1 yy2
          refine hK.out _ _ (by obtain ⟨⟨k0, k1, k2⟩, -⟩ := blk3 (blk_keep B3 K0); exact ⟨k0, k1, k2⟩) (fun hHeld => ?_)
          clear hK K
          change wpAnyH _ _ _ _ _ _ _ { tmps := #[_, _, _, _, _, _, .pointer (some ⟨v1.heap.size, 0, none⟩), _, _, _, _, _, _, _, _, _, _, _, _, .agg #[.slice a p.under.length ca, .int .i64 p.blocks, .slice b p.routes.length cb], .agg #[.slice x8 (lk p os 0).pos.length cx8, .slice y8 (lk p os 0).set.length cy8, .slice z8 (lk p os 0).taken.length cz8], .slice q os.length cq, .int .i64 (os.length : Int), _, _, _, _, _, _, _, _, _, _, _, _, _, _, _, _, _, _, _, _, _, _], defers := [] } (((v2.setCell ⟨v1.heap.size, 0, none⟩ (.slice x8 (lk p os 0).pos.length cx8)).setCell ⟨v1.heap.size, 1, none⟩ (.slice y8 (lk p os 0).set.length cy8)).setCell ⟨v1.heap.size, 2, none⟩ (.slice z8 (lk p os 0).taken.length cz8))
          generalize (((v2.setCell ⟨v1.heap.size, 0, none⟩ (.slice x8 (lk p os 0).pos.length cx8)).setCell ⟨v1.heap.size, 1, none⟩ (.slice y8 (lk p os 0).set.length cy8)).setCell ⟨v1.heap.size, 2, none⟩ (.slice z8 (lk p os 0).taken.length cz8)) = v3 at *
          refine wpAnyH_ready (rs := [4]) (by kernel_rfl) (by simp) ?_
          refine (AllReadyH.cons rfl (fun K hK => ?_) AllReadyH.nil)
          go_simp
          have hb := balloc v3 (.cells (cs p os 0) 3)
          have B4 := btrans B3 hb
          have t4 := Nat.le_of_eq (sz1 v3 (.cells (cs p os 0) 3)).symm
          replace zB := blk_keep hb zB
          replace O8 := O8.below hb
          have mB : (v3.alloc (.cells (cs p os 0) 3)).heap[v3.heap.size]? = some (.cells (cs p os 0) 3 (0, 0)) := new1
          try rw [szd] at t4
          clear hb hHeld
          refine hK.out _ _ (by obtain ⟨⟨k0, k1, k2⟩, -⟩ := blk3 (blk_keep B4 K0); exact ⟨k0, k1, k2⟩) (fun hHeld => ?_)
          clear hK K
          change wpAnyH _ _ _ _ _ _ _ { tmps := #[_, _, _, _, _, _, .pointer (some ⟨v1.heap.size, 0, none⟩), _, _, _, _, _, _, _, _, _, _, _, _, .agg #[.slice a p.under.length ca, .int .i64 p.blocks, .slice b p.routes.length cb], .agg #[.slice x8 (lk p os 0).pos.length cx8, .slice y8 (lk p os 0).set.length cy8, .slice z8 (lk p os 0).taken.length cz8], .slice q os.length cq, .int .i64 (os.length : Int), .slice (some ⟨v3.heap.size, 0, none⟩) os.length os.length, _, _, _, _, _, _, _, _, _, _, _, _, _, _, _, _, _, _, _, _, _], defers := [] } (v3.alloc (.cells (cs p os 0) 3))
          generalize v3.alloc (.cells (cs p os 0) 3) = v4 at *
          refine wpAnyH_take (i := 7) (v := .slice (some ⟨v3.heap.size, 0, none⟩) os.length os.length) rfl (by kernel_rfl) (by kernel_rfl) (by kernel_rfl) (fun _ _ _ h => h) (Or.inl ⟨by kernel_rfl, fun w hS => by (obtain ⟨hS0, hS1, hS2⟩ := hS; go_simp)⟩) hHeld ?_
          change wpAnyH _ _ _ _ _ _ _ { tmps := #[_, _, _, _, _, _, .pointer (some ⟨v1.heap.size, 0, none⟩), .slice (some ⟨v3.heap.size, 0, none⟩) os.length os.length, _, _, _, _, _, _, _, _, _, _, _, .agg #[.slice a p.under.length ca, .int .i64 p.blocks, .slice b p.routes.length cb], .agg #[.slice x8 (lk p os 0).pos.length cx8, .slice y8 (lk p os 0).set.length cy8, .slice z8 (lk p os 0).taken.length cz8], .slice q os.length cq, .int .i64 (os.length : Int), .slice (some ⟨v3.heap.size, 0, none⟩) os.length os.length, _, _, _, _, _, _, _, _, _, _, _, _, _, _, _, _, _, _, _, _, _], defers := [] } _
          refine wpAnyH_done (by kernel_rfl) ?_ _
          go_wp2_with fail
          go_meet
          have q1 := lt_of_block zB
          have q2 := lt_of_block mB
          exact ⟨⟨_, x8, cx8, y8, cy8, z8, cz8, _, _, _, rfl, rfl, zB, mB, O8, hx8, hy8, hz8, ⟨by omega, by omega, by omega, by omega, by omega, by omega, by omega, by omega⟩⟩, B4⟩
    · skip
      go_simp
      have hb := balloc v0 (.cells (cs p os 0) 3)
      have B1 := btrans B0 hb
      have t1 := Nat.le_of_eq (sz1 v0 (.cells (cs p os 0) 3)).symm
      have mB : (v0.alloc (.cells (cs p os 0) 3)).heap[v0.heap.size]? = some (.cells (cs p os 0) 3 (0, 0)) := new1
      try rw [szd] at t1
      clear hb hHeld
      refine hK.out _ _ (by obtain ⟨⟨k0, k1, k2⟩, -⟩ := blk3 (blk_keep B1 K0); exact ⟨k0, k1, k2⟩) (fun hHeld => ?_)
      clear hK K
      change wpAnyH _ _ _ _ _ _ _ { tmps := #[_, _, _, _, _, _, _, _, _, _, _, _, _, _, _, _, _, _, _, .agg #[.slice a p.under.length ca, .int .i64 p.blocks, .slice b p.routes.length cb], _, .slice q os.length cq, .int .i64 (os.length : Int), .slice (some ⟨v0.heap.size, 0, none⟩) os.length os.length, _, _, _, _, _, _, _, _, _, _, _, _, _, _, _, _, _, _, _, _, _], defers := [] } (v0.alloc (.cells (cs p os 0) 3))
      generalize v0.alloc (.cells (cs p os 0) 3) = v1 at *
      refine wpAnyH_ready (rs := [1, 5]) (by kernel_rfl) (by simp) ?_
      refine (AllReadyH.cons rfl (fun K hK => ?_) (AllReadyH.cons rfl (fun K hK => ?_) AllReadyH.nil))
      · skip
        go_simp
        refine (CB _ (hP.below (btrans HB B1))).mono ?_
        rintro e v2 ⟨x8, cx8, y8, cy8, z8, cz8, rfl, O8, hx8, hy8, hz8, hb⟩
        have B2 := btrans B1 hb
        have t2 := hb.size
        try rw [szd] at t2 O8
        replace mB := blk_keep hb mB
        clear hb hHeld
        go_wp2_with fail
        refine hK.out _ _ (by obtain ⟨⟨k0, k1, k2⟩, -⟩ := blk3 (blk_keep B2 K0); exact ⟨k0, k1, k2⟩) (fun hHeld => ?_)
        clear hK K
        change wpAnyH _ _ _ _ _ _ _ { tmps := #[_, _, _, _, _, _, _, _, _, _, _, _, _, _, _, _, _, _, _, .agg #[.slice a p.under.length ca, .int .i64 p.blocks, .slice b p.routes.length cb], .agg #[.slice x8 (lk p os 0).pos.length cx8, .slice y8 (lk p os 0).set.length cy8, .slice z8 (lk p os 0).taken.length cz8], .slice q os.length cq, .int .i64 (os.length : Int), .slice (some ⟨v0.heap.size, 0, none⟩) os.length os.length, _, _, _, _, _, _, _, _, _, _, _, _, _, _, _, _, _, _, _, _, _], defers := [] } _
        refine wpAnyH_ready (rs := [5]) (by kernel_rfl) (by simp) ?_
        refine (AllReadyH.cons rfl (fun K hK => ?_) AllReadyH.nil)
        go_simp
        have hb := balloc v2 (.cells #[.slice none 0 0, .slice none 0 0, .slice none 0 0] 33)
        have B3 := btrans B2 hb
        have t3 := Nat.le_of_eq (sz1 v2 (.cells #[.slice none 0 0, .slice none 0 0, .slice none 0 0] 33)).symm
        replace mB := blk_keep hb mB
        replace O8 := O8.below hb
        have zB : (v2.alloc (.cells #[.slice none 0 0, .slice none 0 0, .slice none 0 0] 33)).heap[v2.heap.size]? = some (.cells #[.slice none 0 0, .slice none 0 0, .slice none 0 0] 33 (0, 0)) := new1
        try rw [szd] at t3
        clear hb hHeld
        refine hK.out _ _ (by obtain ⟨⟨k0, k1, k2⟩, -⟩ := blk3 (blk_keep B3 K0); exact ⟨k0, k1, k2⟩) (fun hHeld => ?_)
        clear hK K
        change wpAnyH _ _ _ _ _ _ _ { tmps := #[_, _, _, _, _, _, .pointer (some ⟨v2.heap.size, 0, none⟩), _, _, _, _, _, _, _, _, _, _, _, _, .agg #[.slice a p.under.length ca, .int .i64 p.blocks, .slice b p.routes.length cb], .agg #[.slice x8 (lk p os 0).pos.length cx8, .slice y8 (lk p os 0).set.length cy8, .slice z8 (lk p os 0).taken.length cz8], .slice q os.length cq, .int .i64 (os.length : Int), .slice (some ⟨v0.heap.size, 0, none⟩) os.length os.length, _, _, _, _, _, _, _, _, _, _, _, _, _, _, _, _, _, _, _, _, _], defers := [] } (v2.alloc (.cells #[.slice none 0 0, .slice none 0 0, .slice none 0 0] 33))
        generalize v2.alloc (.cells #[.slice none 0 0, .slice none 0 0, .slice none 0 0] 33) = v3 at *
        refine wpAnyH_ready (rs := [6]) (by kernel_rfl) (by simp) ?_
        refine (AllReadyH.cons rfl (fun K hK => ?_) AllReadyH.nil)
        obtain ⟨⟨z0, z1, z2⟩, yy0, yy1, yy2⟩ := blk3 zB
        go_simp
        have q1 := lt_of_block zB
        have qb : w1.heap.size ≤ v2.heap.size := by omega
        have B4 : Below w1.heap.size w1 (((v3.setCell ⟨v2.heap.size, 0, none⟩ (.slice x8 (lk p os 0).pos.length cx8)).setCell ⟨v2.heap.size, 1, none⟩ (.slice y8 (lk p os 0).set.length cy8)).setCell ⟨v2.heap.size, 2, none⟩ (.slice z8 (lk p os 0).taken.length cz8)) := stB B3 qb
        have t4 : v3.heap.size ≤ (((v3.setCell ⟨v2.heap.size, 0, none⟩ (.slice x8 (lk p os 0).pos.length cx8)).setCell ⟨v2.heap.size, 1, none⟩ (.slice y8 (lk p os 0).set.length cy8)).setCell ⟨v2.heap.size, 2, none⟩ (.slice z8 (lk p os 0).taken.length cz8)).heap.size := by simp only [World.size_setCell]; exact Nat.le_refl _
        replace mB := blk_other (b := v2.heap.size) (i := 2) (v := .slice z8 (lk p os 0).taken.length cz8) (blk_other (b := v2.heap.size) (i := 1) (v := .slice y8 (lk p os 0).set.length cy8) (blk_other (b := v2.heap.size) (i := 0) (v := .slice x8 (lk p os 0).pos.length cx8) mB (by omega)) (by omega)) (by omega)
        replace O8 := ((O8.setOut (g := v2.heap.size) (i := 0) (u := .slice x8 (lk p os 0).pos.length cx8) (by omega)).setOut (g := v2.heap.size) (i := 1) (u := .slice y8 (lk p os 0).set.length cy8) (by omega)).setOut (g := v2.heap.size) (i := 2) (u := .slice z8 (lk p os 0).taken.length cz8) (by omega)
        replace zB := blk_set (i := 2) (v := .slice z8 (lk p os 0).taken.length cz8) (blk_set (i := 1) (v := .slice y8 (lk p os 0).set.length cy8) (blk_set (i := 0) (v := .slice x8 (lk p os 0).pos.length cx8) zB))
        simp only [List.setIfInBounds_toArray, List.set_cons_zero, List.set_cons_succ] at zB
        clear hHeld z0 z1 z2 yy0 yy1 yy2
        refine hK.out _ _ (by obtain ⟨⟨k0, k1, k2⟩, -⟩ := blk3 (blk_keep B4 K0); exact ⟨k0, k1, k2⟩) (fun hHeld => ?_)
        clear hK K
        change wpAnyH _ _ _ _ _ _ _ { tmps := #[_, _, _, _, _, _, .pointer (some ⟨v2.heap.size, 0, none⟩), _, _, _, _, _, _, _, _, _, _, _, _, .agg #[.slice a p.under.length ca, .int .i64 p.blocks, .slice b p.routes.length cb], .agg #[.slice x8 (lk p os 0).pos.length cx8, .slice y8 (lk p os 0).set.length cy8, .slice z8 (lk p os 0).taken.length cz8], .slice q os.length cq, .int .i64 (os.length : Int), .slice (some ⟨v0.heap.size, 0, none⟩) os.length os.length, _, _, _, _, _, _, _, _, _, _, _, _, _, _, _, _, _, _, _, _, _], defers := [] } (((v3.setCell ⟨v2.heap.size, 0, none⟩ (.slice x8 (lk p os 0).pos.length cx8)).setCell ⟨v2.heap.size, 1, none⟩ (.slice y8 (lk p os 0).set.length cy8)).setCell ⟨v2.heap.size, 2, none⟩ (.slice z8 (lk p os 0).taken.length cz8))
        generalize (((v3.setCell ⟨v2.heap.size, 0, none⟩ (.slice x8 (lk p os 0).pos.length cx8)).setCell ⟨v2.heap.size, 1, none⟩ (.slice y8 (lk p os 0).set.length cy8)).setCell ⟨v2.heap.size, 2, none⟩ (.slice z8 (lk p os 0).taken.length cz8)) = v4 at *
        refine wpAnyH_take (i := 7) (v := .slice (some ⟨v0.heap.size, 0, none⟩) os.length os.length) rfl (by kernel_rfl) (by kernel_rfl) (by kernel_rfl) (fun _ _ _ h => h) (Or.inl ⟨by kernel_rfl, fun w hS => by (obtain ⟨hS0, hS1, hS2⟩ := hS; go_simp)⟩) hHeld ?_
        change wpAnyH _ _ _ _ _ _ _ { tmps := #[_, _, _, _, _, _, .pointer (some ⟨v2.heap.size, 0, none⟩), .slice (some ⟨v0.heap.size, 0, none⟩) os.length os.length, _, _, _, _, _, _, _, _, _, _, _, .agg #[.slice a p.under.length ca, .int .i64 p.blocks, .slice b p.routes.length cb], .agg #[.slice x8 (lk p os 0).pos.length cx8, .slice y8 (lk p os 0).set.length cy8, .slice z8 (lk p os 0).taken.length cz8], .slice q os.length cq, .int .i64 (os.length : Int), .slice (some ⟨v0.heap.size, 0, none⟩) os.length os.length, _, _, _, _, _, _, _, _, _, _, _, _, _, _, _, _, _, _, _, _, _], defers := [] } _
        refine wpAnyH_done (by kernel_rfl) ?_ _
        go_wp2_with fail
        go_meet
        have q1 := lt_of_block zB
        have q2 := lt_of_block mB
        exact ⟨⟨_, x8, cx8, y8, cy8, z8, cz8, _, _, _, rfl, rfl, zB, mB, O8, hx8, hy8, hz8, ⟨by omega, by omega, by omega, by omega, by omega, by omega, by omega, by omega⟩⟩, B4⟩
      · skip
        go_simp
        have hb := balloc v1 (.cells #[.slice none 0 0, .slice none 0 0, .slice none 0 0] 33)
        have B2 := btrans B1 hb
        have t2 := Nat.le_of_eq (sz1 v1 (.cells #[.slice none 0 0, .slice none 0 0, .slice none 0 0] 33)).symm
        replace mB := blk_keep hb mB
        have zB : (v1.alloc (.cells #[.slice none 0 0, .slice none 0 0, .slice none 0 0] 33)).heap[v1.heap.size]? = some (.cells #[.slice none 0 0, .slice none 0 0, .slice none 0 0] 33 (0, 0)) := new1
        try rw [szd] at t2
        clear hb hHeld
        refine hK.out _ _ (by obtain ⟨⟨k0, k1, k2⟩, -⟩ := blk3 (blk_keep B2 K0); exact ⟨k0, k1, k2⟩) (fun hHeld => ?_)
        clear hK K
        change wpAnyH _ _ _ _ _ _ _ { tmps := #[_, _, _, _, _, _, .pointer (some ⟨v1.heap.size, 0, none⟩), _, _, _, _, _, _, _, _, _, _, _, _, .agg #[.slice a p.under.length ca, .int .i64 p.blocks, .slice b p.routes.length cb], _, .slice q os.length cq, .int .i64 (os.length : Int), .slice (some ⟨v0.heap.size, 0, none⟩) os.length os.length, _, _, _, _, _, _, _, _, _, _, _, _, _, _, _, _, _, _, _, _, _], defers := [] } (v1.alloc (.cells #[.slice none 0 0, .slice none 0 0, .slice none 0 0] 33))
        generalize v1.alloc (.cells #[.slice none 0 0, .slice none 0 0, .slice none 0 0] 33) = v2 at *
        refine wpAnyH_ready (rs := [1]) (by kernel_rfl) (by simp) ?_
        refine (AllReadyH.cons rfl (fun K hK => ?_) AllReadyH.nil)
        go_simp
        refine (CB _ (hP.below (btrans HB B2))).mono ?_
        rintro e v3 ⟨x8, cx8, y8, cy8, z8, cz8, rfl, O8, hx8, hy8, hz8, hb⟩
        have B3 := btrans B2 hb
        have t3 := hb.size
        try rw [szd] at t3 O8
        replace zB := blk_keep hb zB
        replace mB := blk_keep hb mB
        clear hb hHeld
        go_wp2_with fail
        refine hK.out _ _ (by obtain ⟨⟨k0, k1, k2⟩, -⟩ := blk3 (blk_keep B3 K0); exact ⟨k0, k1, k2⟩) (fun hHeld => ?_)
        clear hK K
        change wpAnyH _ _ _ _ _ _ _ { tmps := #[_, _, _, _, _, _, .pointer (some ⟨v1.heap.size, 0, none⟩), _, _, _, _, _, _, _, _, _, _, _, _, .agg #[.slice a p.under.length ca, .int .i64 p.blocks, .slice b p.routes.length cb], .agg #[.slice x8 (lk p os 0).pos.length cx8, .slice y8 (lk p os 0).set.length cy8, .slice z8 (lk p os 0).taken.length cz8], .slice q os.length cq, .int .i64 (os.length : Int), .slice (some ⟨v0.heap.size, 0, none⟩) os.length os.length, _, _, _, _, _, _, _, _, _, _, _, _, _, _, _, _, _, _, _, _, _], defers := [] } _
        refine wpAnyH_ready (rs := [6]) (by kernel_rfl) (by simp) ?_
        refine (AllReadyH.cons rfl (fun K hK => ?_) AllReadyH.nil)
        obtain ⟨⟨z0, z1, z2⟩, yy0, yy1, yy2⟩ := blk3 zB
        go_simp
        have q1 := lt_of_block zB
        have qb : w1.heap.size ≤ v1.heap.size := by omega
        have B4 : Below w1.heap.size w1 (((v3.setCell ⟨v1.heap.size, 0, none⟩ (.slice x8 (lk p os 0).pos.length cx8)).setCell ⟨v1.heap.size, 1, none⟩ (.slice y8 (lk p os 0).set.length cy8)).setCell ⟨v1.heap.size, 2, none⟩ (.slice z8 (lk p os 0).taken.length cz8)) := stB B3 qb
        have t4 : v3.heap.size ≤ (((v3.setCell ⟨v1.heap.size, 0, none⟩ (.slice x8 (lk p os 0).pos.length cx8)).setCell ⟨v1.heap.size, 1, none⟩ (.slice y8 (lk p os 0).set.length cy8)).setCell ⟨v1.heap.size, 2, none⟩ (.slice z8 (lk p os 0).taken.length cz8)).heap.size := by simp only [World.size_setCell]; exact Nat.le_refl _
        replace mB := blk_other (b := v1.heap.size) (i := 2) (v := .slice z8 (lk p os 0).taken.length cz8) (blk_other (b := v1.heap.size) (i := 1) (v := .slice y8 (lk p os 0).set.length cy8) (blk_other (b := v1.heap.size) (i := 0) (v := .slice x8 (lk p os 0).pos.length cx8) mB (by omega)) (by omega)) (by omega)
        replace O8 := ((O8.setOut (g := v1.heap.size) (i := 0) (u := .slice x8 (lk p os 0).pos.length cx8) (by omega)).setOut (g := v1.heap.size) (i := 1) (u := .slice y8 (lk p os 0).set.length cy8) (by omega)).setOut (g := v1.heap.size) (i := 2) (u := .slice z8 (lk p os 0).taken.length cz8) (by omega)
        replace zB := blk_set (i := 2) (v := .slice z8 (lk p os 0).taken.length cz8) (blk_set (i := 1) (v := .slice y8 (lk p os 0).set.length cy8) (blk_set (i := 0) (v := .slice x8 (lk p os 0).pos.length cx8) zB))
        simp only [List.setIfInBounds_toArray, List.set_cons_zero, List.set_cons_succ] at zB
        clear hHeld z0 z1 z2 yy0 yy1 yy2
        refine hK.out _ _ (by obtain ⟨⟨k0, k1, k2⟩, -⟩ := blk3 (blk_keep B4 K0); exact ⟨k0, k1, k2⟩) (fun hHeld => ?_)
        clear hK K
        change wpAnyH _ _ _ _ _ _ _ { tmps := #[_, _, _, _, _, _, .pointer (some ⟨v1.heap.size, 0, none⟩), _, _, _, _, _, _, _, _, _, _, _, _, .agg #[.slice a p.under.length ca, .int .i64 p.blocks, .slice b p.routes.length cb], .agg #[.slice x8 (lk p os 0).pos.length cx8, .slice y8 (lk p os 0).set.length cy8, .slice z8 (lk p os 0).taken.length cz8], .slice q os.length cq, .int .i64 (os.length : Int), .slice (some ⟨v0.heap.size, 0, none⟩) os.length os.length, _, _, _, _, _, _, _, _, _, _, _, _, _, _, _, _, _, _, _, _, _], defers := [] } (((v3.setCell ⟨v1.heap.size, 0, none⟩ (.slice x8 (lk p os 0).pos.length cx8)).setCell ⟨v1.heap.size, 1, none⟩ (.slice y8 (lk p os 0).set.length cy8)).setCell ⟨v1.heap.size, 2, none⟩ (.slice z8 (lk p os 0).taken.length cz8))
        generalize (((v3.setCell ⟨v1.heap.size, 0, none⟩ (.slice x8 (lk p os 0).pos.length cx8)).setCell ⟨v1.heap.size, 1, none⟩ (.slice y8 (lk p os 0).set.length cy8)).setCell ⟨v1.heap.size, 2, none⟩ (.slice z8 (lk p os 0).taken.length cz8)) = v4 at *
        refine wpAnyH_take (i := 7) (v := .slice (some ⟨v0.heap.size, 0, none⟩) os.length os.length) rfl (by kernel_rfl) (by kernel_rfl) (by kernel_rfl) (fun _ _ _ h => h) (Or.inl ⟨by kernel_rfl, fun w hS => by (obtain ⟨hS0, hS1, hS2⟩ := hS; go_simp)⟩) hHeld ?_
        change wpAnyH _ _ _ _ _ _ _ { tmps := #[_, _, _, _, _, _, .pointer (some ⟨v1.heap.size, 0, none⟩), .slice (some ⟨v0.heap.size, 0, none⟩) os.length os.length, _, _, _, _, _, _, _, _, _, _, _, .agg #[.slice a p.under.length ca, .int .i64 p.blocks, .slice b p.routes.length cb], .agg #[.slice x8 (lk p os 0).pos.length cx8, .slice y8 (lk p os 0).set.length cy8, .slice z8 (lk p os 0).taken.length cz8], .slice q os.length cq, .int .i64 (os.length : Int), .slice (some ⟨v0.heap.size, 0, none⟩) os.length os.length, _, _, _, _, _, _, _, _, _, _, _, _, _, _, _, _, _, _, _, _, _], defers := [] } _
        refine wpAnyH_done (by kernel_rfl) ?_ _
        go_wp2_with fail
        go_meet
        have q1 := lt_of_block zB
        have q2 := lt_of_block mB
        exact ⟨⟨_, x8, cx8, y8, cy8, z8, cz8, _, _, _, rfl, rfl, zB, mB, O8, hx8, hy8, hz8, ⟨by omega, by omega, by omega, by omega, by omega, by omega, by omega, by omega⟩⟩, B4⟩
    · skip
      go_simp
      have hb := balloc v0 (.cells #[.slice none 0 0, .slice none 0 0, .slice none 0 0] 33)
      have B1 := btrans B0 hb
      have t1 := Nat.le_of_eq (sz1 v0 (.cells #[.slice none 0 0, .slice none 0 0, .slice none 0 0] 33)).symm
      have zB : (v0.alloc (.cells #[.slice none 0 0, .slice none 0 0, .slice none 0 0] 33)).heap[v0.heap.size]? = some (.cells #[.slice none 0 0, .slice none 0 0, .slice none 0 0] 33 (0, 0)) := new1
      try rw [szd] at t1
      clear hb hHeld
      refine hK.out _ _ (by obtain ⟨⟨k0, k1, k2⟩, -⟩ := blk3 (blk_keep B1 K0); exact ⟨k0, k1, k2⟩) (fun hHeld => ?_)
      clear hK K
      change wpAnyH _ _ _ _ _ _ _ { tmps := #[_, _, _, _, _, _, .pointer (some ⟨v0.heap.size, 0, none⟩), _, _, _, _, _, _, _, _, _, _, _, _, .agg #[.slice a p.under.length ca, .int .i64 p.blocks, .slice b p.routes.length cb], _, .slice q os.length cq, .int .i64 (os.length : Int), _, _, _, _, _, _, _, _, _, _, _, _, _, _, _, _, _, _, _, _, _, _], defers := [] } (v0.alloc (.cells #[.slice none 0 0, .slice none 0 0, .slice none 0 0] 33))
      generalize v0.alloc (.cells #[.slice none 0 0, .slice none 0 0, .slice none 0 0] 33) = v1 at *
      refine wpAnyH_ready (rs := [1, 4]) (by kernel_rfl) (by simp) ?_
      refine (AllReadyH.cons rfl (fun K hK => ?_) (AllReadyH.cons rfl (fun K hK => ?_) AllReadyH.nil))
      · skip
        go_simp
        refine (CB _ (hP.below (btrans HB B1))).mono ?_
        rintro e v2 ⟨x8, cx8, y8, cy8, z8, cz8, rfl, O8, hx8, hy8, hz8, hb⟩
        have B2 := btrans B1 hb
        have t2 := hb.size
        try rw [szd] at t2 O8
        replace zB := blk_keep hb zB
        clear hb hHeld
        go_wp2_with fail
        refine hK.out _ _ (by obtain ⟨⟨k0, k1, k2⟩, -⟩ := blk3 (blk_keep B2 K0); exact ⟨k0, k1, k2⟩) (fun hHeld => ?_)
        clear hK K
        change wpAnyH _ _ _ _ _ _ _ { tmps := #[_, _, _, _, _, _, .pointer (some ⟨v0.heap.size, 0, none⟩), _, _, _, _, _, _, _, _, _, _, _, _, .agg #[.slice a p.under.length ca, .int .i64 p.blocks, .slice b p.routes.length cb], .agg #[.slice x8 (lk p os 0).pos.length cx8, .slice y8 (lk p os 0).set.length cy8, .slice z8 (lk p os 0).taken.length cz8], .slice q os.length cq, .int .i64 (os.length : Int), _, _, _, _, _, _, _, _, _, _, _, _, _, _, _, _, _, _, _, _, _, _], defers := [] } _
        refine wpAnyH_ready (rs := [4, 6]) (by kernel_rfl) (by simp) ?_
        refine (AllReadyH.cons rfl (fun K hK => ?_) (AllReadyH.cons rfl (fun K hK => ?_) AllReadyH.nil))
        · skip
          go_simp
          have hb := balloc v2 (.cells (cs p os 0) 3)
          have B3 := btrans B2 hb
          have t3 := Nat.le_of_eq (sz1 v2 (.cells (cs p os 0) 3)).symm
          replace zB := blk_keep hb zB
          replace O8 := O8.below hb
          have mB : (v2.alloc (.cells (cs p os 0) 3)).heap[v2.heap.size]? = some (.cells (cs p os 0) 3 (0, 0)) := new1
          try rw [szd] at t3
          clear hb hHeld
          refine hK.out _ _ (by obtain ⟨⟨k0, k1, k2⟩, -⟩ := blk3 (blk_keep B3 K0); exact ⟨k0, k1, k2⟩) (fun hHeld => ?_)
          clear hK K
          change wpAnyH _ _ _ _ _ _ _ { tmps := #[_, _, _, _, _, _, .pointer (some ⟨v0.heap.size, 0, none⟩), _, _, _, _, _, _, _, _, _, _, _, _, .agg #[.slice a p.under.length ca, .int .i64 p.blocks, .slice b p.routes.length cb], .agg #[.slice x8 (lk p os 0).pos.length cx8, .slice y8 (lk p os 0).set.length cy8, .slice z8 (lk p os 0).taken.length cz8], .slice q os.length cq, .int .i64 (os.length : Int), .slice (some ⟨v2.heap.size, 0, none⟩) os.length os.length, _, _, _, _, _, _, _, _, _, _, _, _, _, _, _, _, _, _, _, _, _], defers := [] } (v2.alloc (.cells (cs p os 0) 3))
          generalize v2.alloc (.cells (cs p os 0) 3) = v3 at *
          refine wpAnyH_ready (rs := [6]) (by kernel_rfl) (by simp) ?_
          refine (AllReadyH.cons rfl (fun K hK => ?_) AllReadyH.nil)
          obtain ⟨⟨z0, z1, z2⟩, yy0, yy1, yy2⟩ := blk3 zB
          go_simp
          have q1 := lt_of_block zB
          have qb : w1.heap.size ≤ v0.heap.size := by omega
          have B4 : Below w1.heap.size w1 (((v3.setCell ⟨v0.heap.size, 0, none⟩ (.slice x8 (lk p os 0).pos.length cx8)).setCell ⟨v0.heap.size, 1, none⟩ (.slice y8 (lk p os 0).set.length cy8)).setCell ⟨v0.heap.size, 2, none⟩ (.slice z8 (lk p os 0).taken.length cz8)) := stB B3 qb
          have t4 : v3.heap.size ≤ (((v3.setCell ⟨v0.heap.size, 0, none⟩ (.slice x8 (lk p os 0).pos.length cx8)).setCell ⟨v0.heap.size, 1, none⟩ (.slice y8 (lk p os 0).set.length cy8)).setCell ⟨v0.heap.size, 2, none⟩ (.slice z8 (lk p os 0).taken.length cz8)).heap.size := by simp only [World.size_setCell]; exact Nat.le_refl _
          replace mB := blk_other (b := v0.heap.size) (i := 2) (v := .slice z8 (lk p os 0).taken.length cz8) (blk_other (b := v0.heap.size) (i := 1) (v := .slice y8 (lk p os 0).set.length cy8) (blk_other (b := v0.heap.size) (i := 0) (v := .slice x8 (lk p os 0).pos.length cx8) mB (by omega)) (by omega)) (by omega)
          replace O8 := ((O8.setOut (g := v0.heap.size) (i := 0) (u := .slice x8 (lk p os 0).pos.length cx8) (by omega)).setOut (g := v0.heap.size) (i := 1) (u := .slice y8 (lk p os 0).set.length cy8) (by omega)).setOut (g := v0.heap.size) (i := 2) (u := .slice z8 (lk p os 0).taken.length cz8) (by omega)
          replace zB := blk_set (i := 2) (v := .slice z8 (lk p os 0).taken.length cz8) (blk_set (i := 1) (v := .slice y8 (lk p os 0).set.length cy8) (blk_set (i := 0) (v := .slice x8 (lk p os 0).pos.length cx8) zB))
          simp only [List.setIfInBounds_toArray, List.set_cons_zero, List.set_cons_succ] at zB
          clear hHeld z0 z1 z2 yy0 yy1 yy2
          refine hK.out _ _ (by obtain ⟨⟨k0, k1, k2⟩, -⟩ := blk3 (blk_keep B4 K0); exact ⟨k0, k1, k2⟩) (fun hHeld => ?_)
          clear hK K
          change wpAnyH _ _ _ _ _ _ _ { tmps := #[_, _, _, _, _, _, .pointer (some ⟨v0.heap.size, 0, none⟩), _, _, _, _, _, _, _, _, _, _, _, _, .agg #[.slice a p.under.length ca, .int .i64 p.blocks, .slice b p.routes.length cb], .agg #[.slice x8 (lk p os 0).pos.length cx8, .slice y8 (lk p os 0).set.length cy8, .slice z8 (lk p os 0).taken.length cz8], .slice q os.length cq, .int .i64 (os.length : Int), .slice (some ⟨v2.heap.size, 0, none⟩) os.length os.length, _, _, _, _, _, _, _, _, _, _, _, _, _, _, _, _, _, _, _, _, _], defers := [] } (((v3.setCell ⟨v0.heap.size, 0, none⟩ (.slice x8 (lk p os 0).pos.length cx8)).setCell ⟨v0.heap.size, 1, none⟩ (.slice y8 (lk p os 0).set.length cy8)).setCell ⟨v0.heap.size, 2, none⟩ (.slice z8 (lk p os 0).taken.length cz8))
          generalize (((v3.setCell ⟨v0.heap.size, 0, none⟩ (.slice x8 (lk p os 0).pos.length cx8)).setCell ⟨v0.heap.size, 1, none⟩ (.slice y8 (lk p os 0).set.length cy8)).setCell ⟨v0.heap.size, 2, none⟩ (.slice z8 (lk p os 0).taken.length cz8)) = v4 at *
          refine wpAnyH_take (i := 7) (v := .slice (some ⟨v2.heap.size, 0, none⟩) os.length os.length) rfl (by kernel_rfl) (by kernel_rfl) (by kernel_rfl) (fun _ _ _ h => h) (Or.inl ⟨by kernel_rfl, fun w hS => by (obtain ⟨hS0, hS1, hS2⟩ := hS; go_simp)⟩) hHeld ?_
          change wpAnyH _ _ _ _ _ _ _ { tmps := #[_, _, _, _, _, _, .pointer (some ⟨v0.heap.size, 0, none⟩), .slice (some ⟨v2.heap.size, 0, none⟩) os.length os.length, _, _, _, _, _, _, _, _, _, _, _, .agg #[.slice a p.under.length ca, .int .i64 p.blocks, .slice b p.routes.length cb], .agg #[.slice x8 (lk p os 0).pos.length cx8, .slice y8 (lk p os 0).set.length cy8, .slice z8 (lk p os 0).taken.length cz8], .slice q os.length cq, .int .i64 (os.length : Int), .slice (some ⟨v2.heap.size, 0, none⟩) os.length os.length, _, _, _, _, _, _, _, _, _, _, _, _, _, _, _, _, _, _, _, _, _], defers := [] } _
          refine wpAnyH_done (by kernel_rfl) ?_ _
          go_wp2_with fail
          go_meet
          have q1 := lt_of_block zB
          have q2 := lt_of_block mB
          exact ⟨⟨_, x8, cx8, y8, cy8, z8, cz8, _, _, _, rfl, rfl, zB, mB, O8, hx8, hy8, hz8, ⟨by omega, by omega, by omega, by omega, by omega, by omega, by omega, by omega⟩⟩, B4⟩
        · skip
          obtain ⟨⟨z0, z1, z2⟩, yy0, yy1, yy2⟩ := blk3 zB
          go_simp
          have q1 := lt_of_block zB
          have qb : w1.heap.size ≤ v0.heap.size := by omega
          have B3 : Below w1.heap.size w1 (((v2.setCell ⟨v0.heap.size, 0, none⟩ (.slice x8 (lk p os 0).pos.length cx8)).setCell ⟨v0.heap.size, 1, none⟩ (.slice y8 (lk p os 0).set.length cy8)).setCell ⟨v0.heap.size, 2, none⟩ (.slice z8 (lk p os 0).taken.length cz8)) := stB B2 qb
          have t3 : v2.heap.size ≤ (((v2.setCell ⟨v0.heap.size, 0, none⟩ (.slice x8 (lk p os 0).pos.length cx8)).setCell ⟨v0.heap.size, 1, none⟩ (.slice y8 (lk p os 0).set.length cy8)).setCell ⟨v0.heap.size, 2, none⟩ (.slice z8 (lk p os 0).taken.length cz8)).heap.size := by simp only [World.size_setCell]; exact Nat.le_refl _
          replace O8 := ((O8.setOut (g := v0.heap.size) (i := 0) (u := .slice x8 (lk p os 0).pos.length cx8) (by omega)).setOut (g := v0.heap.size) (i := 1) (u := .slice y8 (lk p os 0).set.length cy8) (by omega)).setOut (g := v0.heap.size) (i := 2) (u := .slice z8 (lk p os 0).taken.length cz8) (by omega)
          replace zB := blk_set (i := 2) (v := .slice z8 (lk p os 0).taken.length cz8) (blk_set (i := 1) (v := .slice y8 (lk p os 0).set.length cy8) (blk_set (i := 0) (v := .slice x8 (lk p os 0).pos.length cx8) zB))
          simp only [List.setIfInBounds_toArray, List.set_cons_zero, List.set_cons_succ] at zB
          clear hHeld z0 z1 z2 yy0 yy1 yy2
          refine hK.out _ _ (by obtain ⟨⟨k0, k1, k2⟩, -⟩ := blk3 (blk_keep B3 K0); exact ⟨k0, k1, k2⟩) (fun hHeld => ?_)
          clear hK K
          change wpAnyH _ _ _ _ _ _ _ { tmps := #[_, _, _, _, _, _, .pointer (some ⟨v0.heap.size, 0, none⟩), _, _, _, _, _, _, _, _, _, _, _, _, .agg #[.slice a p.under.length ca, .int .i64 p.blocks, .slice b p.routes.length cb], .agg #[.slice x8 (lk p os 0).pos.length cx8, .slice y8 (lk p os 0).set.length cy8, .slice z8 (lk p os 0).taken.length cz8], .slice q os.length cq, .int .i64 (os.length : Int), _, _, _, _, _, _, _, _, _, _, _, _, _, _, _, _, _, _, _, _, _, _], defers := [] } (((v2.setCell ⟨v0.heap.size, 0, none⟩ (.slice x8 (lk p os 0).pos.length cx8)).setCell ⟨v0.heap.size, 1, none⟩ (.slice y8 (lk p os 0).set.length cy8)).setCell ⟨v0.heap.size, 2, none⟩ (.slice z8 (lk p os 0).taken.length cz8))
          generalize (((v2.setCell ⟨v0.heap.size, 0, none⟩ (.slice x8 (lk p os 0).pos.length cx8)).setCell ⟨v0.heap.size, 1, none⟩ (.slice y8 (lk p os 0).set.length cy8)).setCell ⟨v0.heap.size, 2, none⟩ (.slice z8 (lk p os 0).taken.length cz8)) = v3 at *
          refine wpAnyH_ready (rs := [4]) (by kernel_rfl) (by simp) ?_
          refine (AllReadyH.cons rfl (fun K hK => ?_) AllReadyH.nil)
          go_simp
          have hb := balloc v3 (.cells (cs p os 0) 3)
          have B4 := btrans B3 hb
          have t4 := Nat.le_of_eq (sz1 v3 (.cells (cs p os 0) 3)).symm
          replace zB := blk_keep hb zB
          replace O8 := O8.below hb
          have mB : (v3.alloc (.cells (cs p os 0) 3)).heap[v3.heap.size]? = some (.cells (cs p os 0) 3 (0, 0)) := new1
          try rw [szd] at t4
          clear hb hHeld
          refine hK.out _ _ (by obtain ⟨⟨k0, k1, k2⟩, -⟩ := blk3 (blk_keep B4 K0); exact ⟨k0, k1, k2⟩) (fun hHeld => ?_)
          clear hK K
          change wpAnyH _ _ _ _ _ _ _ { tmps := #[_, _, _, _, _, _, .pointer (some ⟨v0.heap.size, 0, none⟩), _, _, _, _, _, _, _, _, _, _, _, _, .agg #[.slice a p.under.length ca, .int .i64 p.blocks, .slice b p.routes.length cb], .agg #[.slice x8 (lk p os 0).pos.length cx8, .slice y8 (lk p os 0).set.length cy8, .slice z8 (lk p os 0).taken.length cz8], .slice q os.length cq, .int .i64 (os.length : Int), .slice (some ⟨v3.heap.size, 0, none⟩) os.length os.length, _, _, _, _, _, _, _, _, _, _, _, _, _, _, _, _, _, _, _, _, _], defers := [] } (v3.alloc (.cells (cs p os 0) 3))
          generalize v3.alloc (.cells (cs p os 0) 3) = v4 at *
          refine wpAnyH_take (i := 7) (v := .slice (some ⟨v3.heap.size, 0, none⟩) os.length os.length) rfl (by kernel_rfl) (by kernel_rfl) (by kernel_rfl) (fun _ _ _ h => h) (Or.inl ⟨by kernel_rfl, fun w hS => by (obtain ⟨hS0, hS1, hS2⟩ := hS; go_simp)⟩) hHeld ?_
          change wpAnyH _ _ _ _ _ _ _ { tmps := #[_, _, _, _, _, _, .pointer (some ⟨v0.heap.size, 0, none⟩), .slice (some ⟨v3.heap.size, 0, none⟩) os.length os.length, _, _, _, _, _, _, _, _, _, _, _, .agg #[.slice a p.under.length ca, .int .i64 p.blocks, .slice b p.routes.length cb], .agg #[.slice x8 (lk p os 0).pos.length cx8, .slice y8 (lk p os 0).set.length cy8, .slice z8 (lk p os 0).taken.length cz8], .slice q os.length cq, .int .i64 (os.length : Int), .slice (some ⟨v3.heap.size, 0, none⟩) os.length os.length, _, _, _, _, _, _, _, _, _, _, _, _, _, _, _, _, _, _, _, _, _], defers := [] } _
          refine wpAnyH_done (by kernel_rfl) ?_ _
          go_wp2_with fail
          go_meet
          have q1 := lt_of_block zB
          have q2 := lt_of_block mB
          exact ⟨⟨_, x8, cx8, y8, cy8, z8, cz8, _, _, _, rfl, rfl, zB, mB, O8, hx8, hy8, hz8, ⟨by omega, by omega, by omega, by omega, by omega, by omega, by omega, by omega⟩⟩, B4⟩
      · skip
        go_simp
        have hb := balloc v1 (.cells (cs p os 0) 3)
        have B2 := btrans B1 hb
        have t2 := Nat.le_of_eq (sz1 v1 (.cells (cs p os 0) 3)).symm
        replace zB := blk_keep hb zB
        have mB : (v1.alloc (.cells (cs p os 0) 3)).heap[v1.heap.size]? = some (.cells (cs p os 0) 3 (0, 0)) := new1
        try rw [szd] at t2
        clear hb hHeld
        refine hK.out _ _ (by obtain ⟨⟨k0, k1, k2⟩, -⟩ := blk3 (blk_keep B2 K0); exact ⟨k0, k1, k2⟩) (fun hHeld => ?_)
        clear hK K
        change wpAnyH _ _ _ _ _ _ _ { tmps := #[_, _, _, _, _, _, .pointer (some ⟨v0.heap.size, 0, none⟩), _, _, _, _, _, _, _, _, _, _, _, _, .agg #[.slice a p.under.length ca, .int .i64 p.blocks, .slice b p.routes.length cb], _, .slice q os.length cq, .int .i64 (os.length : Int), .slice (some ⟨v1.heap.size, 0, none⟩) os.length os.length, _, _, _, _, _, _, _, _, _, _, _, _, _, _, _, _, _, _, _, _, _], defers := [] } (v1.alloc (.cells (cs p os 0) 3))
        generalize v1.alloc (.cells (cs p os 0) 3) = v2 at *
        refine wpAnyH_ready (rs := [1]) (by kernel_rfl) (by simp) ?_
        refine (AllReadyH.cons rfl (fun K hK => ?_) AllReadyH.nil)
        go_simp
        refine (CB _ (hP.below (btrans HB B2))).mono ?_
        rintro e v3 ⟨x8, cx8, y8, cy8, z8, cz8, rfl, O8, hx8, hy8, hz8, hb⟩
        have B3 := btrans B2 hb
        have t3 := hb.size
        try rw [szd] at t3 O8
        replace zB := blk_keep hb zB
        replace mB := blk_keep hb mB
        clear hb hHeld
        go_wp2_with fail
        refine hK.out _ _ (by obtain ⟨⟨k0, k1, k2⟩, -⟩ := blk3 (blk_keep B3 K0); exact ⟨k0, k1, k2⟩) (fun hHeld => ?_)
        clear hK K
        change wpAnyH _ _ _ _ _ _ _ { tmps := #[_, _, _, _, _, _, .pointer (some ⟨v0.heap.size, 0, none⟩), _, _, _, _, _, _, _, _, _, _, _, _, .agg #[.slice a p.under.length ca, .int .i64 p.blocks, .slice b p.routes.length cb], .agg #[.slice x8 (lk p os 0).pos.length cx8, .slice y8 (lk p os 0).set.length cy8, .slice z8 (lk p os 0).taken.length cz8], .slice q os.length cq, .int .i64 (os.length : Int), .slice (some ⟨v1.heap.size, 0, none⟩) os.length os.length, _, _, _, _, _, _, _, _, _, _, _, _, _, _, _, _, _, _, _, _, _], defers := [] } _
        refine wpAnyH_ready (rs := [6]) (by kernel_rfl) (by simp) ?_
        refine (AllReadyH.cons rfl (fun K hK => ?_) AllReadyH.nil)
        obtain ⟨⟨z0, z1, z2⟩, yy0, yy1, yy2⟩ := blk3 zB
        go_simp
        have q1 := lt_of_block zB
        have qb : w1.heap.size ≤ v0.heap.size := by omega
        have B4 : Below w1.heap.size w1 (((v3.setCell ⟨v0.heap.size, 0, none⟩ (.slice x8 (lk p os 0).pos.length cx8)).setCell ⟨v0.heap.size, 1, none⟩ (.slice y8 (lk p os 0).set.length cy8)).setCell ⟨v0.heap.size, 2, none⟩ (.slice z8 (lk p os 0).taken.length cz8)) := stB B3 qb
        have t4 : v3.heap.size ≤ (((v3.setCell ⟨v0.heap.size, 0, none⟩ (.slice x8 (lk p os 0).pos.length cx8)).setCell ⟨v0.heap.size, 1, none⟩ (.slice y8 (lk p os 0).set.length cy8)).setCell ⟨v0.heap.size, 2, none⟩ (.slice z8 (lk p os 0).taken.length cz8)).heap.size := by simp only [World.size_setCell]; exact Nat.le_refl _
        replace mB := blk_other (b := v0.heap.size) (i := 2) (v := .slice z8 (lk p os 0).taken.length cz8) (blk_other (b := v0.heap.size) (i := 1) (v := .slice y8 (lk p os 0).set.length cy8) (blk_other (b := v0.heap.size) (i := 0) (v := .slice x8 (lk p os 0).pos.length cx8) mB (by omega)) (by omega)) (by omega)
        replace O8 := ((O8.setOut (g := v0.heap.size) (i := 0) (u := .slice x8 (lk p os 0).pos.length cx8) (by omega)).setOut (g := v0.heap.size) (i := 1) (u := .slice y8 (lk p os 0).set.length cy8) (by omega)).setOut (g := v0.heap.size) (i := 2) (u := .slice z8 (lk p os 0).taken.length cz8) (by omega)
        replace zB := blk_set (i := 2) (v := .slice z8 (lk p os 0).taken.length cz8) (blk_set (i := 1) (v := .slice y8 (lk p os 0).set.length cy8) (blk_set (i := 0) (v := .slice x8 (lk p os 0).pos.length cx8) zB))
        simp only [List.setIfInBounds_toArray, List.set_cons_zero, List.set_cons_succ] at zB
        clear hHeld z0 z1 z2 yy0 yy1 yy2
        refine hK.out _ _ (by obtain ⟨⟨k0, k1, k2⟩, -⟩ := blk3 (blk_keep B4 K0); exact ⟨k0, k1, k2⟩) (fun hHeld => ?_)
        clear hK K
        change wpAnyH _ _ _ _ _ _ _ { tmps := #[_, _, _, _, _, _, .pointer (some ⟨v0.heap.size, 0, none⟩), _, _, _, _, _, _, _, _, _, _, _, _, .agg #[.slice a p.under.length ca, .int .i64 p.blocks, .slice b p.routes.length cb], .agg #[.slice x8 (lk p os 0).pos.length cx8, .slice y8 (lk p os 0).set.length cy8, .slice z8 (lk p os 0).taken.length cz8], .slice q os.length cq, .int .i64 (os.length : Int), .slice (some ⟨v1.heap.size, 0, none⟩) os.length os.length, _, _, _, _, _, _, _, _, _, _, _, _, _, _, _, _, _, _, _, _, _], defers := [] } (((v3.setCell ⟨v0.heap.size, 0, none⟩ (.slice x8 (lk p os 0).pos.length cx8)).setCell ⟨v0.heap.size, 1, none⟩ (.slice y8 (lk p os 0).set.length cy8)).setCell ⟨v0.heap.size, 2, none⟩ (.slice z8 (lk p os 0).taken.length cz8))
        generalize (((v3.setCell ⟨v0.heap.size, 0, none⟩ (.slice x8 (lk p os 0).pos.length cx8)).setCell ⟨v0.heap.size, 1, none⟩ (.slice y8 (lk p os 0).set.length cy8)).setCell ⟨v0.heap.size, 2, none⟩ (.slice z8 (lk p os 0).taken.length cz8)) = v4 at *
        refine wpAnyH_take (i := 7) (v := .slice (some ⟨v1.heap.size, 0, none⟩) os.length os.length) rfl (by kernel_rfl) (by kernel_rfl) (by kernel_rfl) (fun _ _ _ h => h) (Or.inl ⟨by kernel_rfl, fun w hS => by (obtain ⟨hS0, hS1, hS2⟩ := hS; go_simp)⟩) hHeld ?_
        change wpAnyH _ _ _ _ _ _ _ { tmps := #[_, _, _, _, _, _, .pointer (some ⟨v0.heap.size, 0, none⟩), .slice (some ⟨v1.heap.size, 0, none⟩) os.length os.length, _, _, _, _, _, _, _, _, _, _, _, .agg #[.slice a p.under.length ca, .int .i64 p.blocks, .slice b p.routes.length cb], .agg #[.slice x8 (lk p os 0).pos.length cx8, .slice y8 (lk p os 0).set.length cy8, .slice z8 (lk p os 0).taken.length cz8], .slice q os.length cq, .int .i64 (os.length : Int), .slice (some ⟨v1.heap.size, 0, none⟩) os.length os.length, _, _, _, _, _, _, _, _, _, _, _, _, _, _, _, _, _, _, _, _, _], defers := [] } _
        refine wpAnyH_done (by kernel_rfl) ?_ _
        go_wp2_with fail
        go_meet
        have q1 := lt_of_block zB
        have q2 := lt_of_block mB
        exact ⟨⟨_, x8, cx8, y8, cy8, z8, cz8, _, _, _, rfl, rfl, zB, mB, O8, hx8, hy8, hz8, ⟨by omega, by omega, by omega, by omega, by omega, by omega, by omega, by omega⟩⟩, B4⟩
  case rest =>
    clear z0 z1 z2 CB k1
    obtain ⟨⟨bl, x0, cx0, y0, cy0, z0, cz0, lo0, hi0, bc, rfl, rfl, kl0, kc0, O0, hx0, hy0, hz0, ⟨j1, j2, j3, j4, j5, j6, j7, j8⟩⟩, Bc⟩ := hcut
    replace K0 := blk_keep Bc K0
    replace K1 := blk_keep Bc K1
    replace HB := btrans HB Bc
    clear Bc
    go_wp2_with fail
    go_loopw [26] (fun i wr => ∃ (k : Nat) (x : Option Addr) (cx : Nat) (y : Option Addr) (cy : Nat) (z : Option Addr) (cz lo hi : Nat), k ≤ os.length ∧ i = .int .i64 k ∧ wr.heap[w.heap.size]? = some (.cells #[.slice a p.under.length ca, .int .i64 p.blocks, .slice b p.routes.length cb] 27 (0, 0)) ∧ wr.heap[w.heap.size + 1]? = some (.cells #[.slice none 0 0, .slice none 0 0, .slice none 0 0] 33 (0, 0)) ∧ wr.heap[bl]? = some (.cells #[.slice x (lk p os k).pos.length cx, .slice y (lk p os k).set.length cy, .slice z (lk p os k).taken.length cz] 33 (0, 0)) ∧ wr.heap[bc]? = some (.cells (cs p os k) 3 (0, 0)) ∧ LockOwn wr lo hi x cx y cy z cz (lk p os k) ∧ Plain x cx ∧ Plain y cy ∧ Plain z cz ∧ (w1.heap.size ≤ lo ∧ hi ≤ wr.heap.size ∧ (bl < lo ∨ hi ≤ bl) ∧ (bc < lo ∨ hi ≤ bc)) ∧ Below w.heap.size w wr) (fun i _ => os.length - (intOf i).toNat)
    case atStart => exact ⟨0, x0, cx0, y0, cy0, z0, cz0, lo0, hi0, Nat.zero_le _, rfl, K0, K1, kl0, kc0, O0, hx0, hy0, hz0, ⟨j4, j5, j6, j7⟩, HB⟩
    case round =>
    clear K0 K1 kl0 kc0 O0 hx0 hy0 hz0 HB j4 j5 j6 j7 j8
    obtain ⟨k, x, cx, y, cy, z, cz, lo, hi, hk, rfl, k0, k1, kl, kc, O, hx, hy, hz, ⟨j4, j5, j6, j7⟩, HB⟩ := hrel
    by_cases hlt : k < os.length
    · have hlt' : (k : Int) < (os.length : Int) := by omega
      rcases hO with hO | ⟨bq, off, rfl, hc⟩
      · simp [hO] at hlt
      obtain ⟨q0, q1⟩ := hc k hlt
      have CDk := CD k hlt
      generalize (os.getD k OpV.zero).kind = ek at *
      generalize (os.getD k OpV.zero).what = ew at *
      replace q0 := ble HB q0
      replace q1 := ble HB q1
      have hbs := cell_lt q0
      have t0 := Nat.le_of_eq (sz1 wr (.cells #[.int .i64 ek, .int .i64 ew] 39)).symm
      have ko : (wr.alloc (.cells #[.int .i64 ek, .int .i64 ew] 39)).heap[wr.heap.size]? = some (.cells #[.int .i64 ek, .int .i64 ew] 39 (0, 0)) := new1
      have hba := balloc wr (.cells #[.int .i64 ek, .int .i64 ew] 39)
      clear hc
      obtain ⟨⟨p0, p1, p2⟩, -⟩ := blk3 k0
      go_wp2_with fail
      clear q0 q1 hbs p0 p1 p2
      have hbl := lt_of_block kl
      have hbc := lt_of_block kc
      replace k0 := blk_keep hba k0
      replace k1 := blk_keep hba k1
      replace kl := blk_keep hba kl
      replace kc := blk_keep hba kc
      replace O := O.below hba
      replace HB := btrans HB hba
      clear hba
      generalize wr.alloc (.cells #[.int .i64 ek, .int .i64 ew] 39) = wo at *
      generalize hbo : wr.heap.size = bo at *
      replace hbo := Nat.le_of_eq hbo
      obtain ⟨⟨p0, p1, p2⟩, -⟩ := blk3 k0
      obtain ⟨⟨p3, p4⟩, -⟩ := blk2 ko
      refine wp_region_held_drew (S := (fun w' => w'.cell? ⟨w.heap.size, 0, none⟩ = some (.slice a p.under.length ca) ∧ w'.cell? ⟨w.heap.size, 1, none⟩ = some (.int .i64 p.blocks) ∧ w'.cell? ⟨w.heap.size, 2, none⟩ = some (.slice b p.routes.length cb) ∧ w'.cell? ⟨bo, 0, none⟩ = some (.int .i64 ek) ∧ w'.cell? ⟨bo, 1, none⟩ = some (.int .i64 ew))) (by kernel_rfl) ?_ (fun hHeld => ?_)
      · go_keep
      have Bd : Below wo.heap.size wo wo.drew := (Below.refl _ _).drew
      refine wpAnyH_take (i := 0) (v := .slice (some ⟨bc, 0, none⟩) os.length os.length) rfl (by kernel_rfl) (by kernel_rfl) (by kernel_rfl) (fun _ _ _ h => h) (Or.inl ⟨by kernel_rfl, fun w hS => by (obtain ⟨hS0, hS1, hS2, hS3, hS4⟩ := hS; go_simp)⟩) hHeld ?_
      change wpAnyH _ _ _ _ _ _ _ { tmps := #[_, _, _, _, _, _, _, _, _, _, _, _, _, _, _, _, _, _, _, _, _, _, _, _, _, _, _, _, _, _, _, _, .slice (some ⟨bc, 0, none⟩) os.length os.length, _, _, _, _, _, _, _, _, _, _, _, _], defers := [] } _
      refine wpAnyH_take (i := 1) (v := .int .i64 (k : Int)) rfl (by kernel_rfl) (by kernel_rfl) (by kernel_rfl) (fun _ _ _ h => h) (Or.inl ⟨by kernel_rfl, fun w hS => by (obtain ⟨hS0, hS1, hS2, hS3, hS4⟩ := hS; go_simp)⟩) hHeld ?_
      change wpAnyH _ _ _ _ _ _ _ { tmps := #[_, _, _, _, _, _, _, _, _, _, _, _, _, _, _, _, _, _, _, _, _, _, _, _, _, _, _, _, _, _, _, _, .slice (some ⟨bc, 0, none⟩) os.length os.length, .int .i64 (k : Int), _, _, _, _, _, _, _, _, _, _, _], defers := [] } _
      refine wpAnyH_take (i := 2) (v := .agg #[.slice a p.under.length ca, .int .i64 p.blocks, .slice b p.routes.length cb]) rfl (by kernel_rfl) (by kernel_rfl) (by kernel_rfl) (fun _ _ _ h => h) (Or.inl ⟨by kernel_rfl, fun w hS => by (obtain ⟨hS0, hS1, hS2, hS3, hS4⟩ := hS; go_simp)⟩) hHeld ?_
      change wpAnyH _ _ _ _ _ _ _ { tmps := #[_, _, _, _, _, _, _, _, _, _, _, _, _, _, _, _, _, _, _, _, _, _, _, _, _, _, _, _, _, _, _, _, .slice (some ⟨bc, 0, none⟩) os.length os.length, .int .i64 (k : Int), .agg #[.slice a p.under.length ca, .int .i64 p.blocks, .slice b p.routes.length cb], _, _, _, _, _, _, _, _, _, _], defers := [] } _
      refine wpAnyH_take (i := 4) (v := .agg #[.int .i64 ek, .int .i64 ew]) rfl (by kernel_rfl) (by kernel_rfl) (by kernel_rfl) (fun _ _ _ h => h) (Or.inl ⟨by kernel_rfl, fun w hS => by (obtain ⟨hS0, hS1, hS2, hS3, hS4⟩ := hS; go_simp)⟩) hHeld ?_
      change wpAnyH _ _ _ _ _ _ _ { tmps := #[_, _, _, _, _, _, _, _, _, _, _, _, _, _, _, _, _, _, _, _, _, _, _, _, _, _, _, _, _, _, _, _, .slice (some ⟨bc, 0, none⟩) os.length os.length, .int .i64 (k : Int), .agg #[.slice a p.under.length ca, .int .i64 p.blocks, .slice b p.routes.length cb], _, .agg #[.int .i64 ek, .int .i64 ew], _, _, _, _, _, _, _, _], defers := [] } _
      refine wpAnyH_ready (rs := [3, 5]) (by kernel_rfl) (by simp) ?_
      refine (AllReadyH.cons rfl (fun K hK => ?_) (AllReadyH.cons rfl (fun K hK => ?_) AllReadyH.nil))
      · skip
        obtain ⟨⟨l0, l1, l2⟩, -⟩ := blk3 kl
        go_simp
        clear hHeld
        refine hK.out _ _ (by obtain ⟨⟨k0, k1, k2⟩, -⟩ := blk3 (blk_keep Bd k0); obtain ⟨⟨k3, k4⟩, -⟩ := blk2 (blk_keep Bd ko); exact ⟨k0, k1, k2, k3, k4⟩) (fun hHeld => ?_)
        clear hK K l0 l1 l2
        change wpAnyH _ _ _ _ _ _ _ { tmps := #[_, _, _, _, _, _, _, _, _, _, _, _, _, _, _, _, _, _, _, _, _, _, _, _, _, _, _, _, _, _, _, _, .slice (some ⟨bc, 0, none⟩) os.length os.length, .int .i64 (k : Int), .agg #[.slice a p.under.length ca, .int .i64 p.blocks, .slice b p.routes.length cb], .agg #[.slice x (lk p os k).pos.length cx, .slice y (lk p os k).set.length cy, .slice z (lk p os k).taken.length cz], .agg #[.int .i64 ek, .int .i64 ew], _, _, _, _, _, _, _, _], defers := [] } _
        refine wpAnyH_ready (rs := [5]) (by kernel_rfl) (by simp) ?_
        refine (AllReadyH.cons rfl (fun K hK => ?_) AllReadyH.nil)
        go_simp
        refine (CS ek ew _).mono ?_
        rintro e ws ⟨rfl, hb⟩
        replace hb := btrans Bd hb
        replace k0 := blk_keep hb k0
        replace k1 := blk_keep hb k1
        replace kl := blk_keep hb kl
        replace kc := blk_keep hb kc
        replace ko := blk_keep hb ko
        replace O := O.below hb
        replace HB := btrans HB hb
        have t1 := hb.size
        clear hb hHeld
        go_wp2_with fail
        refine hK.out _ _ (by obtain ⟨⟨k0, k1, k2⟩, -⟩ := blk3 k0; obtain ⟨⟨k3, k4⟩, -⟩ := blk2 ko; exact ⟨k0, k1, k2, k3, k4⟩) (fun hHeld => ?_)
        clear hK K
        change wpAnyH _ _ _ _ _ _ _ { tmps := #[_, _, _, _, _, _, _, _, _, _, _, _, _, _, _, _, _, _, _, _, _, _, _, _, _, _, _, _, _, _, _, _, .slice (some ⟨bc, 0, none⟩) os.length os.length, .int .i64 (k : Int), .agg #[.slice a p.under.length ca, .int .i64 p.blocks, .slice b p.routes.length cb], .agg #[.slice x (lk p os k).pos.length cx, .slice y (lk p os k).set.length cy, .slice z (lk p os k).taken.length cz], .agg #[.int .i64 ek, .int .i64 ew], stepVal (kindOf ek) ew, _, _, _, _, _, _, _], defers := [] } _
        refine wpAnyH_ready (rs := [6]) (by kernel_rfl) (by simp) ?_
        refine (AllReadyH.cons rfl (fun K hK => ?_) AllReadyH.nil)
        go_simp
        refine (CDk _ _ _ _ _ _ _ (hP.below HB) O.read hx hy hz).mono ?_
        rintro e wd ⟨x8, cx8, y8, cy8, z8, cz8, rfl, O8, hx8, hy8, hz8, hb⟩
        replace k0 := blk_keep hb k0
        replace k1 := blk_keep hb k1
        replace kl := blk_keep hb kl
        replace kc := blk_keep hb kc
        replace ko := blk_keep hb ko
        replace HB := btrans HB hb
        have t2 := hb.size
        clear hb hHeld O
        go_wp2_with fail
        refine hK.out _ _ (by obtain ⟨⟨k0, k1, k2⟩, -⟩ := blk3 k0; obtain ⟨⟨k3, k4⟩, -⟩ := blk2 ko; exact ⟨k0, k1, k2, k3, k4⟩) (fun hHeld => ?_)
        clear hK K
        change wpAnyH _ _ _ _ _ _ _ { tmps := #[_, _, _, _, _, _, _, _, _, _, _, _, _, _, _, _, _, _, _, _, _, _, _, _, _, _, _, _, _, _, _, _, .slice (some ⟨bc, 0, none⟩) os.length os.length, .int .i64 (k : Int), .agg #[.slice a p.under.length ca, .int .i64 p.blocks, .slice b p.routes.length cb], .agg #[.slice x (lk p os k).pos.length cx, .slice y (lk p os k).set.length cy, .slice z (lk p os k).taken.length cz], .agg #[.int .i64 ek, .int .i64 ew], stepVal (kindOf ek) ew, .tuple #[.agg #[.slice x8 (lk p os (k + 1)).pos.length cx8, .slice y8 (lk p os (k + 1)).set.length cy8, .slice z8 (lk p os (k + 1)).taken.length cz8], .int .i64 (cd p os k)], _, _, _, _, _, _], defers := [] } _
        refine wpAnyH_take (i := 7) (v := .tuple #[.agg #[.slice x8 (lk p os (k + 1)).pos.length cx8, .slice y8 (lk p os (k + 1)).set.length cy8, .slice z8 (lk p os (k + 1)).taken.length cz8], .int .i64 (cd p os k)]) rfl (by kernel_rfl) (by kernel_rfl) (by kernel_rfl) (fun _ _ _ h => h) (Or.inl ⟨by kernel_rfl, fun w hS => by (obtain ⟨hS0, hS1, hS2, hS3, hS4⟩ := hS; go_simp)⟩) hHeld ?_
        change wpAnyH _ _ _ _ _ _ _ { tmps := #[_, _, _, _, _, _, _, _, _, _, _, _, _, _, _, _, _, _, _, _, _, _, _, _, _, _, _, _, _, _, _, .tuple #[.agg #[.slice x8 (lk p os (k + 1)).pos.length cx8, .slice y8 (lk p os (k + 1)).set.length cy8, .slice z8 (lk p os (k + 1)).taken.length cz8], .int .i64 (cd p os k)], .slice (some ⟨bc, 0, none⟩) os.length os.length, .int .i64 (k : Int), .agg #[.slice a p.under.length ca, .int .i64 p.blocks, .slice b p.routes.length cb], .agg #[.slice x (lk p os k).pos.length cx, .slice y (lk p os k).set.length cy, .slice z (lk p os k).taken.length cz], .agg #[.int .i64 ek, .int .i64 ew], stepVal (kindOf ek) ew, .tuple #[.agg #[.slice x8 (lk p os (k + 1)).pos.length cx8, .slice y8 (lk p os (k + 1)).set.length cy8, .slice z8 (lk p os (k + 1)).taken.length cz8], .int .i64 (cd p os k)], _, _, _, _, _, _], defers := [] } _
        refine wpAnyH_take (i := 8) (v := .agg #[.slice x8 (lk p os (k + 1)).pos.length cx8, .slice y8 (lk p os (k + 1)).set.length cy8, .slice z8 (lk p os (k + 1)).taken.length cz8]) rfl (by kernel_rfl) (by kernel_rfl) (by kernel_rfl) (fun _ _ _ h => h) (Or.inl ⟨by kernel_rfl, fun w hS => by (obtain ⟨hS0, hS1, hS2, hS3, hS4⟩ := hS; go_simp)⟩) hHeld ?_
        change wpAnyH _ _ _ _ _ _ _ { tmps := #[_, _, _, _, _, _, _, _, _, _, _, _, _, _, _, _, _, _, _, _, _, _, _, _, _, _, _, _, _, _, _, .tuple #[.agg #[.slice x8 (lk p os (k + 1)).pos.length cx8, .slice y8 (lk p os (k + 1)).set.length cy8, .slice z8 (lk p os (k + 1)).taken.length cz8], .int .i64 (cd p os k)], .slice (some ⟨bc, 0, none⟩) os.length os.length, .int .i64 (k : Int), .agg #[.slice a p.under.length ca, .int .i64 p.blocks, .slice b p.routes.length cb], .agg #[.slice x (lk p os k).pos.length cx, .slice y (lk p os k).set.length cy, .slice z (lk p os k).taken.length cz], .agg #[.int .i64 ek, .int .i64 ew], stepVal (kindOf ek) ew, .tuple #[.agg #[.slice x8 (lk p os (k + 1)).pos.length cx8, .slice y8 (lk p os (k + 1)).set.length cy8, .slice z8 (lk p os (k + 1)).taken.length cz8], .int .i64 (cd p os k)], .agg #[.slice x8 (lk p os (k + 1)).pos.length cx8, .slice y8 (lk p os (k + 1)).set.length cy8, .slice z8 (lk p os (k + 1)).taken.length cz8], _, _, _, _, _], defers := [] } _
        refine wpAnyH_take (i := 9) (v := .int .i64 (cd p os k)) rfl (by kernel_rfl) (by kernel_rfl) (by kernel_rfl) (fun _ _ _ h => h) (Or.inl ⟨by kernel_rfl, fun w hS => by (obtain ⟨hS0, hS1, hS2, hS3, hS4⟩ := hS; go_simp)⟩) hHeld ?_
        change wpAnyH _ _ _ _ _ _ _ { tmps := #[_, _, _, _, _, _, _, _, _, _, _, _, _, _, _, _, _, _, _, _, _, _, _, _, _, _, _, _, _, _, _, .tuple #[.agg #[.slice x8 (lk p os (k + 1)).pos.length cx8, .slice y8 (lk p os (k + 1)).set.length cy8, .slice z8 (lk p os (k + 1)).taken.length cz8], .int .i64 (cd p os k)], .slice (some ⟨bc, 0, none⟩) os.length os.length, .int .i64 (k : Int), .agg #[.slice a p.under.length ca, .int .i64 p.blocks, .slice b p.routes.length cb], .agg #[.slice x (lk p os k).pos.length cx, .slice y (lk p os k).set.length cy, .slice z (lk p os k).taken.length cz], .agg #[.int .i64 ek, .int .i64 ew], stepVal (kindOf ek) ew, .tuple #[.agg #[.slice x8 (lk p os (k + 1)).pos.length cx8, .slice y8 (lk p os (k + 1)).set.length cy8, .slice z8 (lk p os (k + 1)).taken.length cz8], .int .i64 (cd p os k)], .agg #[.slice x8 (lk p os (k + 1)).pos.length cx8, .slice y8 (lk p os (k + 1)).set.length cy8, .slice z8 (lk p os (k + 1)).taken.length cz8], .int .i64 (cd p os k), _, _, _, _], defers := [] } _
        refine wpAnyH_ready (rs := [10]) (by kernel_rfl) (by simp) ?_
        refine (AllReadyH.cons rfl (fun K hK => ?_) AllReadyH.nil)
        obtain ⟨⟨z0, z1, z2⟩, yy0, yy1, yy2⟩ := blk3 kl
        go_simp
        replace HB : Below w.heap.size w (((wd.setCell ⟨bl, 0, none⟩ (.slice x8 (lk p os (k + 1)).pos.length cx8)).setCell ⟨bl, 1, none⟩ (.slice y8 (lk p os (k + 1)).set.length cy8)).setCell ⟨bl, 2, none⟩ (.slice z8 (lk p os (k + 1)).taken.length cz8)) := stB HB (by omega)
        replace k0 := blk_other (b := bl) (i := 2) (v := .slice z8 (lk p os (k + 1)).taken.length cz8) (blk_other (b := bl) (i := 1) (v := .slice y8 (lk p os (k + 1)).set.length cy8) (blk_other (b := bl) (i := 0) (v := .slice x8 (lk p os (k + 1)).pos.length cx8) k0 (by omega)) (by omega)) (by omega)
        replace k1 := blk_other (b := bl) (i := 2) (v := .slice z8 (lk p os (k + 1)).taken.length cz8) (blk_other (b := bl) (i := 1) (v := .slice y8 (lk p os (k + 1)).set.length cy8) (blk_other (b := bl) (i := 0) (v := .slice x8 (lk p os (k + 1)).pos.length cx8) k1 (by omega)) (by omega)) (by omega)
        replace kc := blk_other (b := bl) (i := 2) (v := .slice z8 (lk p os (k + 1)).taken.length cz8) (blk_other (b := bl) (i := 1) (v := .slice y8 (lk p os (k + 1)).set.length cy8) (blk_other (b := bl) (i := 0) (v := .slice x8 (lk p os (k + 1)).pos.length cx8) kc (by omega)) (by omega)) (by omega)
        replace ko := blk_other (b := bl) (i := 2) (v := .slice z8 (lk p os (k + 1)).taken.length cz8) (blk_other (b := bl) (i := 1) (v := .slice y8 (lk p os (k + 1)).set.length cy8) (blk_other (b := bl) (i := 0) (v := .slice x8 (lk p os (k + 1)).pos.length cx8) ko (by omega)) (by omega)) (by omega)
        replace O8 := ((O8.setOut (g := bl) (i := 0) (u := .slice x8 (lk p os (k + 1)).pos.length cx8) (by omega)).setOut (g := bl) (i := 1) (u := .slice y8 (lk p os (k + 1)).set.length cy8) (by omega)).setOut (g := bl) (i := 2) (u := .slice z8 (lk p os (k + 1)).taken.length cz8) (by omega)
        replace kl := blk_set (i := 2) (v := .slice z8 (lk p os (k + 1)).taken.length cz8) (blk_set (i := 1) (v := .slice y8 (lk p os (k + 1)).set.length cy8) (blk_set (i := 0) (v := .slice x8 (lk p os (k + 1)).pos.length cx8) kl))
        simp only [List.setIfInBounds_toArray, List.set_cons_zero, List.set_cons_succ] at kl
        clear z0 z1 z2 yy0 yy1 yy2
        have t3 : wd.heap.size ≤ (((wd.setCell ⟨bl, 0, none⟩ (.slice x8 (lk p os (k + 1)).pos.length cx8)).setCell ⟨bl, 1, none⟩ (.slice y8 (lk p os (k + 1)).set.length cy8)).setCell ⟨bl, 2, none⟩ (.slice z8 (lk p os (k + 1)).taken.length cz8)).heap.size := by simp only [World.size_setCell]; exact Nat.le_refl _
        clear hHeld
        refine hK.out _ _ (by obtain ⟨⟨k0, k1, k2⟩, -⟩ := blk3 k0; obtain ⟨⟨k3, k4⟩, -⟩ := blk2 ko; exact ⟨k0, k1, k2, k3, k4⟩) (fun hHeld => ?_)
        clear hK K
        change wpAnyH _ _ _ _ _ _ _ { tmps := #[_, _, _, _, _, _, _, _, _, _, _, _, _, _, _, _, _, _, _, _, _, _, _, _, _, _, _, _, _, _, _, .tuple #[.agg #[.slice x8 (lk p os (k + 1)).pos.length cx8, .slice y8 (lk p os (k + 1)).set.length cy8, .slice z8 (lk p os (k + 1)).taken.length cz8], .int .i64 (cd p os k)], .slice (some ⟨bc, 0, none⟩) os.length os.length, .int .i64 (k : Int), .agg #[.slice a p.under.length ca, .int .i64 p.blocks, .slice b p.routes.length cb], .agg #[.slice x (lk p os k).pos.length cx, .slice y (lk p os k).set.length cy, .slice z (lk p os k).taken.length cz], .agg #[.int .i64 ek, .int .i64 ew], stepVal (kindOf ek) ew, .tuple #[.agg #[.slice x8 (lk p os (k + 1)).pos.length cx8, .slice y8 (lk p os (k + 1)).set.length cy8, .slice z8 (lk p os (k + 1)).taken.length cz8], .int .i64 (cd p os k)], .agg #[.slice x8 (lk p os (k + 1)).pos.length cx8, .slice y8 (lk p os (k + 1)).set.length cy8, .slice z8 (lk p os (k + 1)).taken.length cz8], .int .i64 (cd p os k), _, _, _, _], defers := [] } (((wd.setCell ⟨bl, 0, none⟩ (.slice x8 (lk p os (k + 1)).pos.length cx8)).setCell ⟨bl, 1, none⟩ (.slice y8 (lk p os (k + 1)).set.length cy8)).setCell ⟨bl, 2, none⟩ (.slice z8 (lk p os (k + 1)).taken.length cz8))
        generalize (((wd.setCell ⟨bl, 0, none⟩ (.slice x8 (lk p os (k + 1)).pos.length cx8)).setCell ⟨bl, 1, none⟩ (.slice y8 (lk p os (k + 1)).set.length cy8)).setCell ⟨bl, 2, none⟩ (.slice z8 (lk p os (k + 1)).taken.length cz8)) = we at *
        refine wpAnyH_take (i := 11) (v := .pointer (some ⟨bc, k, none⟩)) rfl (by kernel_rfl) (by kernel_rfl) (by kernel_rfl) (fun _ _ _ h => h) (Or.inl ⟨by kernel_rfl, fun w hS => by (obtain ⟨hS0, hS1, hS2, hS3, hS4⟩ := hS; go_simp)⟩) hHeld ?_
        change wpAnyH _ _ _ _ _ _ _ { tmps := #[_, _, _, _, _, _, _, _, _, _, _, _, _, _, _, _, _, _, _, _, _, _, _, _, _, _, _, _, _, _, _, .tuple #[.agg #[.slice x8 (lk p os (k + 1)).pos.length cx8, .slice y8 (lk p os (k + 1)).set.length cy8, .slice z8 (lk p os (k + 1)).taken.length cz8], .int .i64 (cd p os k)], .slice (some ⟨bc, 0, none⟩) os.length os.length, .int .i64 (k : Int), .agg #[.slice a p.under.length ca, .int .i64 p.blocks, .slice b p.routes.length cb], .agg #[.slice x (lk p os k).pos.length cx, .slice y (lk p os k).set.length cy, .slice z (lk p os k).taken.length cz], .agg #[.int .i64 ek, .int .i64 ew], stepVal (kindOf ek) ew, .tuple #[.agg #[.slice x8 (lk p os (k + 1)).pos.length cx8, .slice y8 (lk p os (k + 1)).set.length cy8, .slice z8 (lk p os (k + 1)).taken.length cz8], .int .i64 (cd p os k)], .agg #[.slice x8 (lk p os (k + 1)).pos.length cx8, .slice y8 (lk p os (k + 1)).set.length cy8, .slice z8 (lk p os (k + 1)).taken.length cz8], .int .i64 (cd p os k), .pointer (some ⟨bc, k, none⟩), _, _, _], defers := [] } _
        refine wpAnyH_ready (rs := [12]) (by kernel_rfl) (by simp) ?_
        refine (AllReadyH.cons rfl (fun K hK => ?_) AllReadyH.nil)
        obtain ⟨vz, z0, yy0⟩ := blkA (k := k) kc (by rcases cs_size (p := p) (os := os) (k := k) with h | h <;> omega)
        go_simp
        replace HB : Below w.heap.size w (we.setCell ⟨bc, k, none⟩ (.int .i64 (cd p os k))) := below_set (by omega) HB
        replace k0 := blk_other (b := bc) (i := k) (v := .int .i64 (cd p os k)) k0 (by omega)
        replace k1 := blk_other (b := bc) (i := k) (v := .int .i64 (cd p os k)) k1 (by omega)
        replace kl := blk_other (b := bc) (i := k) (v := .int .i64 (cd p os k)) kl (by omega)
        replace ko := blk_other (b := bc) (i := k) (v := .int .i64 (cd p os k)) ko (by omega)
        replace O8 := O8.setOut (g := bc) (i := k) (u := .int .i64 (cd p os k)) (by omega)
        replace kc := blk_set (i := k) (v := .int .i64 (cd p os k)) kc
        rw [cs_step hlt] at kc
        clear z0 yy0
        have t4 : we.heap.size ≤ (we.setCell ⟨bc, k, none⟩ (.int .i64 (cd p os k))).heap.size := by simp only [World.size_setCell]; exact Nat.le_refl _
        clear hHeld
        refine hK.out _ _ (by obtain ⟨⟨k0, k1, k2⟩, -⟩ := blk3 k0; obtain ⟨⟨k3, k4⟩, -⟩ := blk2 ko; exact ⟨k0, k1, k2, k3, k4⟩) (fun hHeld => ?_)
        clear hK K
        change wpAnyH _ _ _ _ _ _ _ { tmps := #[_, _, _, _, _, _, _, _, _, _, _, _, _, _, _, _, _, _, _, _, _, _, _, _, _, _, _, _, _, _, _, .tuple #[.agg #[.slice x8 (lk p os (k + 1)).pos.length cx8, .slice y8 (lk p os (k + 1)).set.length cy8, .slice z8 (lk p os (k + 1)).taken.length cz8], .int .i64 (cd p os k)], .slice (some ⟨bc, 0, none⟩) os.length os.length, .int .i64 (k : Int), .agg #[.slice a p.under.length ca, .int .i64 p.blocks, .slice b p.routes.length cb], .agg #[.slice x (lk p os k).pos.length cx, .slice y (lk p os k).set.length cy, .slice z (lk p os k).taken.length cz], .agg #[.int .i64 ek, .int .i64 ew], stepVal (kindOf ek) ew, .tuple #[.agg #[.slice x8 (lk p os (k + 1)).pos.length cx8, .slice y8 (lk p os (k + 1)).set.length cy8, .slice z8 (lk p os (k + 1)).taken.length cz8], .int .i64 (cd p os k)], .agg #[.slice x8 (lk p os (k + 1)).pos.length cx8, .slice y8 (lk p os (k + 1)).set.length cy8, .slice z8 (lk p os (k + 1)).taken.length cz8], .int .i64 (cd p os k), .pointer (some ⟨bc, k, none⟩), _, _, _], defers := [] } (we.setCell ⟨bc, k, none⟩ (.int .i64 (cd p os k)))
        generalize (we.setCell ⟨bc, k, none⟩ (.int .i64 (cd p os k))) = wf at *
        refine wpAnyH_done (by kernel_rfl) ?_ _
        go_wp2
        go_roundw
        case rel => exact ⟨k + 1, x8, cx8, y8, cy8, z8, cz8, _, _, by omega, by go_num, k0, k1, kl, kc, O8, hx8, hy8, hz8, ⟨by omega, by omega, by omega, by omega⟩, HB⟩
        case measure => simp [intOf]; omega
      · skip
        go_simp
        refine (CS ek ew _).mono ?_
        rintro e ws ⟨rfl, hb⟩
        replace hb := btrans Bd hb
        replace k0 := blk_keep hb k0
        replace k1 := blk_keep hb k1
        replace kl := blk_keep hb kl
        replace kc := blk_keep hb kc
        replace ko := blk_keep hb ko
        replace O := O.below hb
        replace HB := btrans HB hb
        have t1 := hb.size
        clear hb hHeld
        go_wp2_with fail
        refine hK.out _ _ (by obtain ⟨⟨k0, k1, k2⟩, -⟩ := blk3 k0; obtain ⟨⟨k3, k4⟩, -⟩ := blk2 ko; exact ⟨k0, k1, k2, k3, k4⟩) (fun hHeld => ?_)
        clear hK K
        change wpAnyH _ _ _ _ _ _ _ { tmps := #[_, _, _, _, _, _, _, _, _, _, _, _, _, _, _, _, _, _, _, _, _, _, _, _, _, _, _, _, _, _, _, _, .slice (some ⟨bc, 0, none⟩) os.length os.length, .int .i64 (k : Int), .agg #[.slice a p.under.length ca, .int .i64 p.blocks, .slice b p.routes.length cb], _, .agg #[.int .i64 ek, .int .i64 ew], stepVal (kindOf ek) ew, _, _, _, _, _, _, _], defers := [] } _
        refine wpAnyH_ready (rs := [3]) (by kernel_rfl) (by simp) ?_
        refine (AllReadyH.cons rfl (fun K hK => ?_) AllReadyH.nil)
        obtain ⟨⟨l0, l1, l2⟩, -⟩ := blk3 kl
        go_simp
        clear hHeld
        refine hK.out _ _ (by obtain ⟨⟨k0, k1, k2⟩, -⟩ := blk3 k0; obtain ⟨⟨k3, k4⟩, -⟩ := blk2 ko; exact ⟨k0, k1, k2, k3, k4⟩) (fun hHeld => ?_)
        clear hK K l0 l1 l2
        change wpAnyH _ _ _ _ _ _ _ { tmps := #[_, _, _, _, _, _, _, _, _, _, _, _, _, _, _, _, _, _, _, _, _, _, _, _, _, _, _, _, _, _, _, _, .slice (some ⟨bc, 0, none⟩) os.length os.length, .int .i64 (k : Int), .agg #[.slice a p.under.length ca, .int .i64 p.blocks, .slice b p.routes.length cb], .agg #[.slice x (lk p os k).pos.length cx, .slice y (lk p os k).set.length cy, .slice z (lk p os k).taken.length cz], .agg #[.int .i64 ek, .int .i64 ew], stepVal (kindOf ek) ew, _, _, _, _, _, _, _], defers := [] } _
        refine wpAnyH_ready (rs := [6]) (by kernel_rfl) (by simp) ?_
        refine (AllReadyH.cons rfl (fun K hK => ?_) AllReadyH.nil)
        go_simp
        refine (CDk _ _ _ _ _ _ _ (hP.below HB) O.read hx hy hz).mono ?_
        rintro e wd ⟨x8, cx8, y8, cy8, z8, cz8, rfl, O8, hx8, hy8, hz8, hb⟩
        replace k0 := blk_keep hb k0
        replace k1 := blk_keep hb k1
        replace kl := blk_keep hb kl
        replace kc := blk_keep hb kc
        replace ko := blk_keep hb ko
        replace HB := btrans HB hb
        have t2 := hb.size
        clear hb hHeld O
        go_wp2_with fail
        refine hK.out _ _ (by obtain ⟨⟨k0, k1, k2⟩, -⟩ := blk3 k0; obtain ⟨⟨k3, k4⟩, -⟩ := blk2 ko; exact ⟨k0, k1, k2, k3, k4⟩) (fun hHeld => ?_)
        clear hK K
        change wpAnyH _ _ _ _ _ _ _ { tmps := #[_, _, _, _, _, _, _, _, _, _, _, _, _, _, _, _, _, _, _, _, _, _, _, _, _, _, _, _, _, _, _, _, .slice (some ⟨bc, 0, none⟩) os.length os.length, .int .i64 (k : Int), .agg #[.slice a p.under.length ca, .int .i64 p.blocks, .slice b p.routes.length cb], .agg #[.slice x (lk p os k).pos.length cx, .slice y (lk p os k).set.length cy, .slice z (lk p os k).taken.length cz], .agg #[.int .i64 ek, .int .i64 ew], stepVal (kindOf ek) ew, .tuple #[.agg #[.slice x8 (lk p os (k + 1)).pos.length cx8, .slice y8 (lk p os (k + 1)).set.length cy8, .slice z8 (lk p os (k + 1)).taken.length cz8], .int .i64 (cd p os k)], _, _, _, _, _, _], defers := [] } _
        refine wpAnyH_take (i := 7) (v := .tuple #[.agg #[.slice x8 (lk p os (k + 1)).pos.length cx8, .slice y8 (lk p os (k + 1)).set.length cy8, .slice z8 (lk p os (k + 1)).taken.length cz8], .int .i64 (cd p os k)]) rfl (by kernel_rfl) (by kernel_rfl) (by kernel_rfl) (fun _ _ _ h => h) (Or.inl ⟨by kernel_rfl, fun w hS => by (obtain ⟨hS0, hS1, hS2, hS3, hS4⟩ := hS; go_simp)⟩) hHeld ?_
        change wpAnyH _ _ _ _ _ _ _ { tmps := #[_, _, _, _, _, _, _, _, _, _, _, _, _, _, _, _, _, _, _, _, _, _, _, _, _, _, _, _, _, _, _, .tuple #[.agg #[.slice x8 (lk p os (k + 1)).pos.length cx8, .slice y8 (lk p os (k + 1)).set.length cy8, .slice z8 (lk p os (k + 1)).taken.length cz8], .int .i64 (cd p os k)], .slice (some ⟨bc, 0, none⟩) os.length os.length, .int .i64 (k : Int), .agg #[.slice a p.under.length ca, .int .i64 p.blocks, .slice b p.routes.length cb], .agg #[.slice x (lk p os k).pos.length cx, .slice y (lk p os k).set.length cy, .slice z (lk p os k).taken.length cz], .agg #[.int .i64 ek, .int .i64 ew], stepVal (kindOf ek) ew, .tuple #[.agg #[.slice x8 (lk p os (k + 1)).pos.length cx8, .slice y8 (lk p os (k + 1)).set.length cy8, .slice z8 (lk p os (k + 1)).taken.length cz8], .int .i64 (cd p os k)], _, _, _, _, _, _], defers := [] } _
        refine wpAnyH_take (i := 8) (v := .agg #[.slice x8 (lk p os (k + 1)).pos.length cx8, .slice y8 (lk p os (k + 1)).set.length cy8, .slice z8 (lk p os (k + 1)).taken.length cz8]) rfl (by kernel_rfl) (by kernel_rfl) (by kernel_rfl) (fun _ _ _ h => h) (Or.inl ⟨by kernel_rfl, fun w hS => by (obtain ⟨hS0, hS1, hS2, hS3, hS4⟩ := hS; go_simp)⟩) hHeld ?_
        change wpAnyH _ _ _ _ _ _ _ { tmps := #[_, _, _, _, _, _, _, _, _, _, _, _, _, _, _, _, _, _, _, _, _, _, _, _, _, _, _, _, _, _, _, .tuple #[.agg #[.slice x8 (lk p os (k + 1)).pos.length cx8, .slice y8 (lk p os (k + 1)).set.length cy8, .slice z8 (lk p os (k + 1)).taken.length cz8], .int .i64 (cd p os k)], .slice (some ⟨bc, 0, none⟩) os.length os.length, .int .i64 (k : Int), .agg #[.slice a p.under.length ca, .int .i64 p.blocks, .slice b p.routes.length cb], .agg #[.slice x (lk p os k).pos.length cx, .slice y (lk p os k).set.length cy, .slice z (lk p os k).taken.length cz], .agg #[.int .i64 ek, .int .i64 ew], stepVal (kindOf ek) ew, .tuple #[.agg #[.slice x8 (lk p os (k + 1)).pos.length cx8, .slice y8 (lk p os (k + 1)).set.length cy8, .slice z8 (lk p os (k + 1)).taken.length cz8], .int .i64 (cd p os k)], .agg #[.slice x8 (lk p os (k + 1)).pos.length cx8, .slice y8 (lk p os (k + 1)).set.length cy8, .slice z8 (lk p os (k + 1)).taken.length cz8], _, _, _, _, _], defers := [] } _
        refine wpAnyH_take (i := 9) (v := .int .i64 (cd p os k)) rfl (by kernel_rfl) (by kernel_rfl) (by kernel_rfl) (fun _ _ _ h => h) (Or.inl ⟨by kernel_rfl, fun w hS => by (obtain ⟨hS0, hS1, hS2, hS3, hS4⟩ := hS; go_simp)⟩) hHeld ?_
        change wpAnyH _ _ _ _ _ _ _ { tmps := #[_, _, _, _, _, _, _, _, _, _, _, _, _, _, _, _, _, _, _, _, _, _, _, _, _, _, _, _, _, _, _, .tuple #[.agg #[.slice x8 (lk p os (k + 1)).pos.length cx8, .slice y8 (lk p os (k + 1)).set.length cy8, .slice z8 (lk p os (k + 1)).taken.length cz8], .int .i64 (cd p os k)], .slice (some ⟨bc, 0, none⟩) os.length os.length, .int .i64 (k : Int), .agg #[.slice a p.under.length ca, .int .i64 p.blocks, .slice b p.routes.length cb], .agg #[.slice x (lk p os k).pos.length cx, .slice y (lk p os k).set.length cy, .slice z (lk p os k).taken.length cz], .agg #[.int .i64 ek, .int .i64 ew], stepVal (kindOf ek) ew, .tuple #[.agg #[.slice x8 (lk p os (k + 1)).pos.length cx8, .slice y8 (lk p os (k + 1)).set.length cy8, .slice z8 (lk p os (k + 1)).taken.length cz8], .int .i64 (cd p os k)], .agg #[.slice x8 (lk p os (k + 1)).pos.length cx8, .slice y8 (lk p os (k + 1)).set.length cy8, .slice z8 (lk p os (k + 1)).taken.length cz8], .int .i64 (cd p os k), _, _, _, _], defers := [] } _
        refine wpAnyH_ready (rs := [10]) (by kernel_rfl) (by simp) ?_
        refine (AllReadyH.cons rfl (fun K hK => ?_) AllReadyH.nil)
        obtain ⟨⟨z0, z1, z2⟩, yy0, yy1, yy2⟩ := blk3 kl
        go_simp
        replace HB : Below w.heap.size w (((wd.setCell ⟨bl, 0, none⟩ (.slice x8 (lk p os (k + 1)).pos.length cx8)).setCell ⟨bl, 1, none⟩ (.slice y8 (lk p os (k + 1)).set.length cy8)).setCell ⟨bl, 2, none⟩ (.slice z8 (lk p os (k + 1)).taken.length cz8)) := stB HB (by omega)
        replace k0 := blk_other (b := bl) (i := 2) (v := .slice z8 (lk p os (k + 1)).taken.length cz8) (blk_other (b := bl) (i := 1) (v := .slice y8 (lk p os (k + 1)).set.length cy8) (blk_other (b := bl) (i := 0) (v := .slice x8 (lk p os (k + 1)).pos.length cx8) k0 (by omega)) (by omega)) (by omega)
        replace k1 := blk_other (b := bl) (i := 2) (v := .slice z8 (lk p os (k + 1)).taken.length cz8) (blk_other (b := bl) (i := 1) (v := .slice y8 (lk p os (k + 1)).set.length cy8) (blk_other (b := bl) (i := 0) (v := .slice x8 (lk p os (k + 1)).pos.length cx8) k1 (by omega)) (by omega)) (by omega)
        replace kc := blk_other (b := bl) (i := 2) (v := .slice z8 (lk p os (k + 1)).taken.length cz8) (blk_other (b := bl) (i := 1) (v := .slice y8 (lk p os (k + 1)).set.length cy8) (blk_other (b := bl) (i := 0) (v := .slice x8 (lk p os (k + 1)).pos.length cx8) kc (by omega)) (by omega)) (by omega)
        replace ko := blk_other (b := bl) (i := 2) (v := .slice z8 (lk p os (k + 1)).taken.length cz8) (blk_other (b := bl) (i := 1) (v := .slice y8 (lk p os (k + 1)).set.length cy8) (blk_other (b := bl) (i := 0) (v := .slice x8 (lk p os (k + 1)).pos.length cx8) ko (by omega)) (by omega)) (by omega)
        replace O8 := ((O8.setOut (g := bl) (i := 0) (u := .slice x8 (lk p os (k + 1)).pos.length cx8) (by omega)).setOut (g := bl) (i := 1) (u := .slice y8 (lk p os (k + 1)).set.length cy8) (by omega)).setOut (g := bl) (i := 2) (u := .slice z8 (lk p os (k + 1)).taken.length cz8) (by omega)
        replace kl := blk_set (i := 2) (v := .slice z8 (lk p os (k + 1)).taken.length cz8) (blk_set (i := 1) (v := .slice y8 (lk p os (k + 1)).set.length cy8) (blk_set (i := 0) (v := .slice x8 (lk p os (k + 1)).pos.length cx8) kl))
        simp only [List.setIfInBounds_toArray, List.set_cons_zero, List.set_cons_succ] at kl
        clear z0 z1 z2 yy0 yy1 yy2
        have t3 : wd.heap.size ≤ (((wd.setCell ⟨bl, 0, none⟩ (.slice x8 (lk p os (k + 1)).pos.length cx8)).setCell ⟨bl, 1, none⟩ (.slice y8 (lk p os (k + 1)).set.length cy8)).setCell ⟨bl, 2, none⟩ (.slice z8 (lk p os (k + 1)).taken.length cz8)).heap.size := by simp only [World.size_setCell]; exact Nat.le_refl _
        clear hHeld
        refine hK.out _ _ (by obtain ⟨⟨k0, k1, k2⟩, -⟩ := blk3 k0; obtain ⟨⟨k3, k4⟩, -⟩ := blk2 ko; exact ⟨k0, k1, k2, k3, k4⟩) (fun hHeld => ?_)
        clear hK K
        change wpAnyH _ _ _ _ _ _ _ { tmps := #[_, _, _, _, _, _, _, _, _, _, _, _, _, _, _, _, _, _, _, _, _, _, _, _, _, _, _, _, _, _, _, .tuple #[.agg #[.slice x8 (lk p os (k + 1)).pos.length cx8, .slice y8 (lk p os (k + 1)).set.length cy8, .slice z8 (lk p os (k + 1)).taken.length cz8], .int .i64 (cd p os k)], .slice (some ⟨bc, 0, none⟩) os.length os.length, .int .i64 (k : Int), .agg #[.slice a p.under.length ca, .int .i64 p.blocks, .slice b p.routes.length cb], .agg #[.slice x (lk p os k).pos.length cx, .slice y (lk p os k).set.length cy, .slice z (lk p os k).taken.length cz], .agg #[.int .i64 ek, .int .i64 ew], stepVal (kindOf ek) ew, .tuple #[.agg #[.slice x8 (lk p os (k + 1)).pos.length cx8, .slice y8 (lk p os (k + 1)).set.length cy8, .slice z8 (lk p os (k + 1)).taken.length cz8], .int .i64 (cd p os k)], .agg #[.slice x8 (lk p os (k + 1)).pos.length cx8, .slice y8 (lk p os (k + 1)).set.length cy8, .slice z8 (lk p os (k + 1)).taken.length cz8], .int .i64 (cd p os k), _, _, _, _], defers := [] } (((wd.setCell ⟨bl, 0, none⟩ (.slice x8 (lk p os (k + 1)).pos.length cx8)).setCell ⟨bl, 1, none⟩ (.slice y8 (lk p os (k + 1)).set.length cy8)).setCell ⟨bl, 2, none⟩ (.slice z8 (lk p os (k + 1)).taken.length cz8))
        generalize (((wd.setCell ⟨bl, 0, none⟩ (.slice x8 (lk p os (k + 1)).pos.length cx8)).setCell ⟨bl, 1, none⟩ (.slice y8 (lk p os (k + 1)).set.length cy8)).setCell ⟨bl, 2, none⟩ (.slice z8 (lk p os (k + 1)).taken.length cz8)) = we at *
        refine wpAnyH_take (i := 11) (v := .pointer (some ⟨bc, k, none⟩)) rfl (by kernel_rfl) (by kernel_rfl) (by kernel_rfl) (fun _ _ _ h => h) (Or.inl ⟨by kernel_rfl, fun w hS => by (obtain ⟨hS0, hS1, hS2, hS3, hS4⟩ := hS; go_simp)⟩) hHeld ?_
        change wpAnyH _ _ _ _ _ _ _ { tmps := #[_, _, _, _, _, _, _, _, _, _, _, _, _, _, _, _, _, _, _, _, _, _, _, _, _, _, _, _, _, _, _, .tuple #[.agg #[.slice x8 (lk p os (k + 1)).pos.length cx8, .slice y8 (lk p os (k + 1)).set.length cy8, .slice z8 (lk p os (k + 1)).taken.length cz8], .int .i64 (cd p os k)], .slice (some ⟨bc, 0, none⟩) os.length os.length, .int .i64 (k : Int), .agg #[.slice a p.under.length ca, .int .i64 p.blocks, .slice b p.routes.length cb], .agg #[.slice x (lk p os k).pos.length cx, .slice y (lk p os k).set.length cy, .slice z (lk p os k).taken.length cz], .agg #[.int .i64 ek, .int .i64 ew], stepVal (kindOf ek) ew, .tuple #[.agg #[.slice x8 (lk p os (k + 1)).pos.length cx8, .slice y8 (lk p os (k + 1)).set.length cy8, .slice z8 (lk p os (k + 1)).taken.length cz8], .int .i64 (cd p os k)], .agg #[.slice x8 (lk p os (k + 1)).pos.length cx8, .slice y8 (lk p os (k + 1)).set.length cy8, .slice z8 (lk p os (k + 1)).taken.length cz8], .int .i64 (cd p os k), .pointer (some ⟨bc, k, none⟩), _, _, _], defers := [] } _
        refine wpAnyH_ready (rs := [12]) (by kernel_rfl) (by simp) ?_
        refine (AllReadyH.cons rfl (fun K hK => ?_) AllReadyH.nil)
        obtain ⟨vz, z0, yy0⟩ := blkA (k := k) kc (by rcases cs_size (p := p) (os := os) (k := k) with h | h <;> omega)
        go_simp
        replace HB : Below w.heap.size w (we.setCell ⟨bc, k, none⟩ (.int .i64 (cd p os k))) := below_set (by omega) HB
        replace k0 := blk_other (b := bc) (i := k) (v := .int .i64 (cd p os k)) k0 (by omega)
        replace k1 := blk_other (b := bc) (i := k) (v := .int .i64 (cd p os k)) k1 (by omega)
        replace kl := blk_other (b := bc) (i := k) (v := .int .i64 (cd p os k)) kl (by omega)
        replace ko := blk_other (b := bc) (i := k) (v := .int .i64 (cd p os k)) ko (by omega)
        replace O8 := O8.setOut (g := bc) (i := k) (u := .int .i64 (cd p os k)) (by omega)
        replace kc := blk_set (i := k) (v := .int .i64 (cd p os k)) kc
        rw [cs_step hlt] at kc
        clear z0 yy0
        have t4 : we.heap.size ≤ (we.setCell ⟨bc, k, none⟩ (.int .i64 (cd p os k))).heap.size := by simp only [World.size_setCell]; exact Nat.le_refl _
        clear hHeld
        refine hK.out _ _ (by obtain ⟨⟨k0, k1, k2⟩, -⟩ := blk3 k0; obtain ⟨⟨k3, k4⟩, -⟩ := blk2 ko; exact ⟨k0, k1, k2, k3, k4⟩) (fun hHeld => ?_)
        clear hK K
        change wpAnyH _ _ _ _ _ _ _ { tmps := #[_, _, _, _, _, _, _, _, _, _, _, _, _, _, _, _, _, _, _, _, _, _, _, _, _, _, _, _, _, _, _, .tuple #[.agg #[.slice x8 (lk p os (k + 1)).pos.length cx8, .slice y8 (lk p os (k + 1)).set.length cy8, .slice z8 (lk p os (k + 1)).taken.length cz8], .int .i64 (cd p os k)], .slice (some ⟨bc, 0, none⟩) os.length os.length, .int .i64 (k : Int), .agg #[.slice a p.under.length ca, .int .i64 p.blocks, .slice b p.routes.length cb], .agg #[.slice x (lk p os k).pos.length cx, .slice y (lk p os k).set.length cy, .slice z (lk p os k).taken.length cz], .agg #[.int .i64 ek, .int .i64 ew], stepVal (kindOf ek) ew, .tuple #[.agg #[.slice x8 (lk p os (k + 1)).pos.length cx8, .slice y8 (lk p os (k + 1)).set.length cy8, .slice z8 (lk p os (k + 1)).taken.length cz8], .int .i64 (cd p os k)], .agg #[.slice x8 (lk p os (k + 1)).pos.length cx8, .slice y8 (lk p os (k + 1)).set.length cy8, .slice z8 (lk p os (k + 1)).taken.length cz8], .int .i64 (cd p os k), .pointer (some ⟨bc, k, none⟩), _, _, _], defers := [] } (we.setCell ⟨bc, k, none⟩ (.int .i64 (cd p os k)))
        generalize (we.setCell ⟨bc, k, none⟩ (.int .i64 (cd p os k))) = wf at *
        refine wpAnyH_done (by kernel_rfl) ?_ _
        go_wp2
        go_roundw
        case rel => exact ⟨k + 1, x8, cx8, y8, cy8, z8, cz8, _, _, by omega, by go_num, k0, k1, kl, kc, O8, hx8, hy8, hz8, ⟨by omega, by omega, by omega, by omega⟩, HB⟩
        case measure => simp [intOf]; omega
    obtain rfl : k = os.length := by omega
    obtain ⟨⟨l0, l1, l2⟩, -⟩ := blk3 kl
    obtain ⟨⟨z0, z1, z2⟩, yy0, yy1, yy2⟩ := blk3 k1
    have mO := ((O.setOut (g := w.heap.size + 1) (i := 0) (u := .slice x (lk p os os.length).pos.length cx) (by omega)).setOut (g := w.heap.size + 1) (i := 1) (u := .slice y (lk p os os.length).set.length cy) (by omega)).setOut (g := w.heap.size + 1) (i := 2) (u := .slice z (lk p os os.length).taken.length cz) (by omega)
    have mB := below_set (o := 2) (v := .slice z (lk p os os.length).taken.length cz) (b := w.heap.size + 1) (by omega) (below_set (o := 1) (v := .slice y (lk p os os.length).set.length cy) (b := w.heap.size + 1) (by omega) (below_set (o := 0) (v := .slice x (lk p os os.length).pos.length cx) (b := w.heap.size + 1) (by omega) HB))
    have hbc := lt_of_block kc
    have mC := blk_other (b := w.heap.size + 1) (i := 2) (v := .slice z (lk p os os.length).taken.length cz) (blk_other (b := w.heap.size + 1) (i := 1) (v := .slice y (lk p os os.length).set.length cy) (blk_other (b := w.heap.size + 1) (i := 0) (v := .slice x (lk p os os.length).pos.length cx) kc (by omega)) (by omega)) (by omega)
    have hcs : (cs p os os.length).size = os.length := by rcases cs_size (p := p) (os := os) (k := os.length) with h | h <;> omega
    have mR := RowZ.of (hi := bc + 1) (ownBlk mC (Nat.le_refl _) (by unfold maxLen; omega) hcs) (fun j hj => by simp [Value.ownBlock] at hj; omega)
    have hcl : (cs p os os.length).toList = (cl p os os.length).map (.int .i64) := by unfold cs; simp
    have hcn : (cl p os os.length).length = os.length := cl_len (Nat.le_refl _)
    rw [hcl] at mR
    clear k0 k1 kl kc O HB hO
    replace hcn := hide hcn
    go_wp2_with fail
    refine bodyPost_ret (v := .tuple #[.agg #[.slice x (lk p os os.length).pos.length cx, .slice y (lk p os os.length).set.length cy, .slice z (lk p os os.length).taken.length cz], .slice (some ⟨bc, 0, none⟩) os.length os.length]) (by simp [results, Try.results8, go_sem, z0, z1, z2]) rfl ?_
    refine ⟨x, cx, y, cy, z, cz, some ⟨bc, 0, none⟩, os.length, lo, hi, bc, bc + 1, by rw [hQ.out.1, hQ.out.2, hcn.out], by rw [hQ.out.1]; exact mO, by rw [hQ.out.2, hcn.out]; exact mR, by omega, by omega, by omega, by simp only [World.size_setCell]; omega, by simp only [World.size_setCell]; omega, mB⟩
end Go.Proofs.Ytpgjllefhlanpaa
