/- The program's done: the face of every op. -/
import Derived.Test.YtpgjllefhlanpaaLR
namespace Go.Proofs.Ytpgjllefhlanpaa
open Go.RowKit
theorem four_blocks (w : World) (o1 o2 o3 o4 : Obj) : ((((w.alloc o1).alloc o2).alloc o3).alloc o4).heap[w.heap.size]? = some o1 ∧ ((((w.alloc o1).alloc o2).alloc o3).alloc o4).heap[w.heap.size + 1]? = some o2 ∧ ((((w.alloc o1).alloc o2).alloc o3).alloc o4).heap[w.heap.size + 1 + 1]? = some o3 ∧ ((((w.alloc o1).alloc o2).alloc o3).alloc o4).heap[w.heap.size + 1 + 1 + 1]? = some o4 := by
  obtain ⟨h1, h2, h3⟩ := three_blocks w o1 o2 o3
  have hb := balloc (((w.alloc o1).alloc o2).alloc o3) o4
  refine ⟨blk_keep hb h1, blk_keep hb h2, blk_keep hb h3, ?_⟩
  have := new1 (w := ((w.alloc o1).alloc o2).alloc o3) (o := o4)
  rw [size3] at this
  exact this
theorem size4 (w : World) (o1 o2 o3 o4 : Obj) : ((((w.alloc o1).alloc o2).alloc o3).alloc o4).heap.size = w.heap.size + 1 + 1 + 1 + 1 := by simp
theorem blkI {w : World} {g : Nat} {c0 : Value} {t : TypeId} (h : w.heap[g]? = some (.cells #[c0] t (0, 0))) : w.cell? ⟨g, 0, none⟩ = some c0 ∧ w.frozen? ⟨g, 0, none⟩ = false :=
  ⟨Go.Joins.cell_of_block h 0, Go.Joins.unfrozen_of_block h 0⟩
theorem Far.blk {lo hi : Nat} {w w' : World} (h : Far lo hi w w') {g : Nat} {o : Obj} (hg : w.heap[g]? = some o) (hd : g < lo ∨ hi ≤ g) : w'.heap[g]? = some o := (h.block g (lt_of_block hg) hd).trans hg
theorem RowZ.setFar {w : World} {lo hi T g i : Nat} {v u : Value} {xs : List Value} (h : RowZ w lo hi T v xs) (hg : g < lo) : RowZ (w.setCell ⟨g, i, none⟩ u) lo hi T v xs := by
  rcases h with h | ⟨h1, h2, h3⟩
  · exact .inl h
  · exact .inr ⟨h1, own_set h2 (fun k hk => by have := own_from h2 (Nat.le_refl _) k hk; omega), h3⟩
theorem LockOwn.setFar {w : World} {lo hi ca cb cc g i : Nat} {a b c : Option Addr} {l : LockV} {u : Value} (h : LockOwn w lo hi a ca b cb c cc l) (hg : g < lo) : LockOwn (w.setCell ⟨g, i, none⟩ u) lo hi a ca b cb c cc l :=
  ⟨h.pos.setFar hg, h.set.setFar hg, h.taken.setFar hg, h.ps, h.pt, h.st⟩
theorem own3 {w : World} {B1 B2 B3 hi n1 n2 n3 c1 c2 c3 : Nat} {a1 a2 a3 : Option Addr} {l : LockV} (h1 : w.ownsRow B1 3 1 (.slice a1 n1 c1) n1 (l.pos.map (.int .i64))) (h2 : w.ownsRow B2 4 1 (.slice a2 n2 c2) n2 (l.set.map .bool)) (h3 : w.ownsRow B3 4 1 (.slice a3 n3 c3) n3 (l.taken.map .bool))
    (e1 : n1 = l.pos.length) (e2 : n2 = l.set.length) (e3 : n3 = l.taken.length) (s1 : ∀ k, (Value.slice a1 n1 c1).ownBlock = some k → k < B2) (s2 : ∀ k, (Value.slice a2 n2 c2).ownBlock = some k → k < B3) (s3 : ∀ k, (Value.slice a3 n3 c3).ownBlock = some k → k < hi) (b12 : B1 ≤ B2) (b23 : B2 ≤ B3) (b3 : B3 ≤ hi) : LockOwn w B1 hi a1 c1 a2 c2 a3 c3 l := by
  subst e1 e2 e3
  exact ⟨(RowZ.of h1 s1).wider (Nat.le_refl _) (by omega), (RowZ.of h2 s2).wider b12 b3, (RowZ.of h3 s3).wider (by omega) (Nat.le_refl _),
    fun _ _ k hk e => by have := s1 k hk; have := own_from h2 (Nat.le_refl _) k e; omega, fun _ _ k hk e => by have := s1 k hk; have := own_from h3 (Nat.le_refl _) k e; omega, fun _ _ k hk e => by have := s2 k hk; have := own_from h3 (Nat.le_refl _) k e; omega⟩

set_option maxRecDepth 20000 in
set_option maxHeartbeats 6400000 in
theorem cDone (k : OpK) (v : Int) (a b x y z : Option Addr) (ca cb cx cy cz : Nat) (p : PlantV) (l : LockV) (w : World) (hP : PlantIn w a b p) (hL : LockIn w x y z l) (hx : Plain x cx) (hy : Plain y cy) (hz : Plain z cz) (hS : Small p) (hT : LSmall l) :
    Calls Try.prog 23 #[plantVal a ca b cb p, lockVal x cx y cy z cz l, stepVal k v] w fun e w' => ∃ x' cx' y' cy' z' cz', e = .returned (.tuple #[lockVal x' cx' y' cy' z' cz' (opL k p l v), .int .i64 (opC k p l v)]) ∧
      LockOwn w' w.heap.size w'.heap.size x' cx' y' cy' z' cz' (opL k p l v) ∧ Plain x' cx' ∧ Plain y' cy' ∧ Plain z' cz' ∧ Below w.heap.size w w' := by
  have hmf : ∀ (fn : Fn) (first cap : Array Value) (w : World), (Instr.makeFunc fn first cap).run Try.prog w = .ok (.func fn first cap) w := fun _ _ _ _ => rfl
  have C1 := fun w h => cCloneInts x cx l.pos w h hx hT.pos
  have C2 := fun w h => cCloneBools y cy l.set w h hy hT.set
  have C3 := fun w h => cCloneBools z cz l.taken w h hz hT.taken
  have CD := fun x y z cx cy cz lo hi w1 HB hlo hhi hL => cDo k v a b x y z ca cb cx cy cz lo hi p l w w1 hP HB hlo hhi hL hS hT
  have hLn := opL_len k p l v
  unfold plantVal lockVal stVal at *
  have HB : Below w.heap.size w ((((w.alloc (.cells #[.slice a p.under.length ca, .int .i64 p.blocks, .slice b p.routes.length cb] 27)).alloc (.cells #[.slice x l.pos.length cx, .slice y l.set.length cy, .slice z l.taken.length cz] 33)).alloc (.cells #[.slice none 0 0, .slice none 0 0, .slice none 0 0] 33)).alloc (.cells #[.int .i64 0] 3)) := btrans (below3 w _ _ _) (balloc _ _)
  obtain ⟨K0, K1, K2, K3⟩ := four_blocks w (.cells #[.slice a p.under.length ca, .int .i64 p.blocks, .slice b p.routes.length cb] 27) (.cells #[.slice x l.pos.length cx, .slice y l.set.length cy, .slice z l.taken.length cz] 33) (.cells #[.slice none 0 0, .slice none 0 0, .slice none 0 0] 33) (.cells #[.int .i64 0] 3)
  have hs0 := size4 w (.cells #[.slice a p.under.length ca, .int .i64 p.blocks, .slice b p.routes.length cb] 27) (.cells #[.slice x l.pos.length cx, .slice y l.set.length cy, .slice z l.taken.length cz] 33) (.cells #[.slice none 0 0, .slice none 0 0, .slice none 0 0] 33) (.cells #[.int .i64 0] 3)
  obtain ⟨⟨z3, z4, z5⟩, -⟩ := blk3 K1
  go_enter_defers Try.func23, Try.ntmps23
  go_wp2_with fail
  go_region_held3 (fun w' => w'.cell? ⟨w.heap.size + 1, 0, none⟩ = some (.slice x l.pos.length cx) ∧ w'.cell? ⟨w.heap.size + 1, 1, none⟩ = some (.slice y l.set.length cy) ∧ w'.cell? ⟨w.heap.size + 1, 2, none⟩ = some (.slice z l.taken.length cz)) (go_keep) (first
    | (go_at_call 48; with_reducible refine (C3 _ (hL.taken.below (btrans HB D2))).mono ?_; rintro e w3 ⟨v3, rfl, o3, hb3⟩; have D3 := btrans D2 hb3; have p2 := own_keep o2 hb3; have p1 := own_keep (own_keep o1 D12) hb3; have s23 := hb3.size; obtain ⟨z1, cz1, rfl⟩ := own_form o3; obtain ⟨⟨t0, t1, t2⟩, f0, f1, f2⟩ := blk3 (blk_keep D3 K2); obtain ⟨⟨u0, u1, u2⟩, -⟩ := blk3 (blk_keep D3 K1))
    | (go_at_call 48; with_reducible refine (C2 _ (hL.set.below (btrans HB D1))).mono ?_; rintro e w2 ⟨v2, rfl, o2, hb2⟩; have D12 := hb2; have D2 := btrans D1 hb2; obtain ⟨y1, cy1, rfl⟩ := own_form o2; have m2 := own_blk_lt o2; have s12 := hb2.size; obtain ⟨⟨u0, u1, u2⟩, -⟩ := blk3 (blk_keep D2 K1))
    | (go_at_call 47; with_reducible refine (C1 _ (hL.pos.below HB.drew)).mono ?_; rintro e w1 ⟨v1, rfl, o1, hb1⟩; have D1 := undrew hb1; obtain ⟨x1, cx1, rfl⟩ := own_form o1; have m1 := own_blk_lt o1; have s01 := hb1.size; obtain ⟨⟨u0, u1, u2⟩, -⟩ := blk3 (blk_keep D1 K1)))
  have q1 := Go.Joins.ownsRow_le p1 (base' := w.heap.size + 1 + 1 + 1 + 1) (Nat.le_of_eq hs0.symm)
  have s01' : w.heap.size + 1 + 1 + 1 + 1 ≤ w1.heap.size := Nat.le_trans (Nat.le_of_eq hs0.symm) s01
  have hO := own3 q1 p2 o3 rfl rfl rfl m1 m2 (own_blk_lt o3) s01' s12 s23
  have P1 := own_plain q1
  have P2 := own_plain p2
  have P3 := own_plain o3
  have k0 := blk_keep D3 K0
  have k2 := blk_keep D3 K2
  have k3 := blk_keep D3 K3
  have HB3 := btrans HB D3
  have s3 : w.heap.size + 1 + 1 + 1 + 1 ≤ w3.heap.size := by omega
  clear u0 u1 u2 z3 z4 z5 D12 D1 D2 D3 p1 p2 o1 o2 o3 q1 m1 m2 hb1 hb2 hb3 s01 K0 K1 K2 K3 HB hs0
  have t3 := (hO.setFar (g := w.heap.size + 1 + 1) (i := 0) (u := .slice x1 l.pos.length cx1) (by omega)).setFar (g := w.heap.size + 1 + 1) (i := 1) (u := .slice y1 l.set.length cy1) (by omega) |>.setFar (g := w.heap.size + 1 + 1) (i := 2) (u := .slice z1 l.taken.length cz1) (by omega)
  have e0 := blk_other (i := 2) (v := .slice z1 l.taken.length cz1) (b := w.heap.size + 1 + 1) (blk_other (i := 1) (v := .slice y1 l.set.length cy1) (b := w.heap.size + 1 + 1) (blk_other (i := 0) (v := .slice x1 l.pos.length cx1) (b := w.heap.size + 1 + 1) k0 (by omega)) (by omega)) (by omega)
  have e3 := blk_other (i := 2) (v := .slice z1 l.taken.length cz1) (b := w.heap.size + 1 + 1) (blk_other (i := 1) (v := .slice y1 l.set.length cy1) (b := w.heap.size + 1 + 1) (blk_other (i := 0) (v := .slice x1 l.pos.length cx1) (b := w.heap.size + 1 + 1) k3 (by omega)) (by omega)) (by omega)
  have e2 := blk_set (i := 2) (v := .slice z1 l.taken.length cz1) (blk_set (i := 1) (v := .slice y1 l.set.length cy1) (blk_set (i := 0) (v := .slice x1 l.pos.length cx1) k2))
  simp only [List.setIfInBounds_toArray, List.set_cons_zero, List.set_cons_succ] at e2
  have HE := below_set (o := 2) (v := .slice z1 l.taken.length cz1) (b := w.heap.size + 1 + 1) (by omega) (below_set (o := 1) (v := .slice y1 l.set.length cy1) (b := w.heap.size + 1 + 1) (by omega) (below_set (o := 0) (v := .slice x1 l.pos.length cx1) (b := w.heap.size + 1 + 1) (by omega) HB3))
  have hsE : w3.heap.size ≤ (((w3.setCell ⟨w.heap.size + 1 + 1, 0, none⟩ (.slice x1 l.pos.length cx1)).setCell ⟨w.heap.size + 1 + 1, 1, none⟩ (.slice y1 l.set.length cy1)).setCell ⟨w.heap.size + 1 + 1, 2, none⟩ (.slice z1 l.taken.length cz1)).heap.size := by simp
  clear hO k0 k2 k3 HB3 t0 t1 t2 f0 f1 f2
  generalize (((w3.setCell ⟨w.heap.size + 1 + 1, 0, none⟩ (.slice x1 l.pos.length cx1)).setCell ⟨w.heap.size + 1 + 1, 1, none⟩ (.slice y1 l.set.length cy1)).setCell ⟨w.heap.size + 1 + 1, 2, none⟩ (.slice z1 l.taken.length cz1)) = W4 at *
  obtain ⟨⟨u0, u1, u2⟩, -⟩ := blk3 e0
  obtain ⟨⟨u3, u4, u5⟩, -⟩ := blk3 e2
  go_wp2_with fail
  clear u0 u1 u2 u3 u4 u5
  refine (CD _ _ _ _ _ _ (w.heap.size + 1 + 1 + 1 + 1) w3.heap.size _ HE (by omega) hsE t3).mono ?_
  rintro e w5 ⟨rfl, hf, hl⟩
  have j2 := hf.blk e2 (.inl (by omega))
  have j3 := hf.blk e3 (.inl (by omega))
  have HB5 := hf.under HE (by omega)
  have s5 := hf.size
  clear hf t3 e0 e2 e3 HE CD C1 C2 C3
  have hfin : ∀ W', LockOwn W' (w.heap.size + 1 + 1 + 1 + 1) w3.heap.size x1 cx1 y1 cy1 z1 cz1 (opL k p l v) → w3.heap.size ≤ W'.heap.size → LockOwn W' w.heap.size W'.heap.size x1 cx1 y1 cy1 z1 cz1 (opL k p l v) := fun W' h hh => h.wider (by omega) hh
  obtain ⟨n1, n2, n3⟩ := hLn
  replace n1 := hide n1
  replace n2 := hide n2
  replace n3 := hide n3
  obtain ⟨⟨u3, u4, u5⟩, f3, f4, f5⟩ := blk3 j2
  obtain ⟨u6, f6⟩ := blkI j3
  by_cases hc0 : opC k p l v = 0
  · have hE := hide (show endOf (opC k p l v) = .returned (.tuple #[]) by rw [hc0]; rfl)
    replace hc0 := hide hc0
    rw [hE.out]
    have m2 := blk_other (i := 0) (v := .int .i64 0) (b := w.heap.size + 1 + 1 + 1) (blk_set (i := 2) (v := .slice z1 l.taken.length cz1) (blk_set (i := 1) (v := .slice y1 l.set.length cy1) (blk_set (i := 0) (v := .slice x1 l.pos.length cx1) j2))) (by omega)
    simp only [List.setIfInBounds_toArray, List.set_cons_zero, List.set_cons_succ] at m2
    have m3 := blk_set (i := 0) (v := .int .i64 0) (blk_other (i := 2) (v := .slice z1 l.taken.length cz1) (b := w.heap.size + 1 + 1) (blk_other (i := 1) (v := .slice y1 l.set.length cy1) (b := w.heap.size + 1 + 1) (blk_other (i := 0) (v := .slice x1 l.pos.length cx1) (b := w.heap.size + 1 + 1) j3 (by omega)) (by omega)) (by omega))
    simp only [List.setIfInBounds_toArray, List.set_cons_zero] at m3
    have mO := (((hl.setFar (g := w.heap.size + 1 + 1) (i := 0) (u := .slice x1 l.pos.length cx1) (by omega)).setFar (g := w.heap.size + 1 + 1) (i := 1) (u := .slice y1 l.set.length cy1) (by omega)).setFar (g := w.heap.size + 1 + 1) (i := 2) (u := .slice z1 l.taken.length cz1) (by omega)).setFar (g := w.heap.size + 1 + 1 + 1) (i := 0) (u := .int .i64 0) (by omega)
    have mB := below_set (o := 0) (v := .int .i64 0) (b := w.heap.size + 1 + 1 + 1) (by omega) (below_set (o := 2) (v := .slice z1 l.taken.length cz1) (b := w.heap.size + 1 + 1) (by omega) (below_set (o := 1) (v := .slice y1 l.set.length cy1) (b := w.heap.size + 1 + 1) (by omega) (below_set (o := 0) (v := .slice x1 l.pos.length cx1) (b := w.heap.size + 1 + 1) (by omega) HB5)))
    have ms : w3.heap.size ≤ ((((w5.setCell ⟨w.heap.size + 1 + 1, 0, none⟩ (.slice x1 l.pos.length cx1)).setCell ⟨w.heap.size + 1 + 1, 1, none⟩ (.slice y1 l.set.length cy1)).setCell ⟨w.heap.size + 1 + 1, 2, none⟩ (.slice z1 l.taken.length cz1)).setCell ⟨w.heap.size + 1 + 1 + 1, 0, none⟩ (.int .i64 0)).heap.size := by simp; omega
    go_wp2
    clear u3 u4 u5 u6 f3 f4 f5 f6 j2 j3 HB5 hl
    generalize ((((w5.setCell ⟨w.heap.size + 1 + 1, 0, none⟩ (.slice x1 l.pos.length cx1)).setCell ⟨w.heap.size + 1 + 1, 1, none⟩ (.slice y1 l.set.length cy1)).setCell ⟨w.heap.size + 1 + 1, 2, none⟩ (.slice z1 l.taken.length cz1)).setCell ⟨w.heap.size + 1 + 1 + 1, 0, none⟩ (.int .i64 0)) = W6 at *
    refine leaves_cons (f := 49) (args := #[.pointer (some ⟨w.heap.size + 1 + 1 + 1, 0, none⟩)]) (by simp) (by simp [go_sem]) ?_
    refine (cCalm (w.heap.size + 1 + 1 + 1) _).mono ?_
    rintro e u' w7 ⟨rfl, rfl, rfl⟩
    have hba := balloc W6 (.cells #[.int .i64 0] 83)
    obtain ⟨⟨u3, u4, u5⟩, -⟩ := blk3 (blk_keep hba m2)
    obtain ⟨u6, -⟩ := blkI (blk_keep hba m3)
    refine ⟨.tuple #[.agg #[.slice x1 l.pos.length cx1, .slice y1 l.set.length cy1, .slice z1 l.taken.length cz1], .int .i64 0], by simp [results, Try.results23, go_sem, u3, u4, u5, u6], x1, cx1, y1, cy1, z1, cz1, by rw [hc0.out, n1.out, n2.out, n3.out], hfin _ (mO.below hba) (Nat.le_trans ms hba.size), P1, P2, P3, btrans mB hba⟩
  · have hE := hide (endOf_refu hc0)
    rw [hE.out]
    unfold refu
    go_wp2
    clear u3 u4 u5
    refine leaves_cons (f := 49) (args := #[.pointer (some ⟨w.heap.size + 1 + 1 + 1, 0, none⟩)]) (by simp) (by simp [go_sem]) ?_
    refine (cCatch (w.heap.size + 1 + 1 + 1) 0 (opC k p l v) [] _ u6 f6).mono ?_
    rintro e u' w7 ⟨rfl, rfl, rfl⟩
    have hba := balloc w5 (.cells #[.int .i64 (opC k p l v)] 83)
    have m2 := blk_other (i := 0) (v := .int .i64 (opC k p l v)) (b := w.heap.size + 1 + 1 + 1) (blk_keep hba j2) (by omega)
    have m3 := blk_set (i := 0) (v := .int .i64 (opC k p l v)) (blk_keep hba j3)
    simp only [List.setIfInBounds_toArray, List.set_cons_zero] at m3
    have mO := (hl.below hba).setFar (g := w.heap.size + 1 + 1 + 1) (i := 0) (u := .int .i64 (opC k p l v)) (by omega)
    have mB := below_set (o := 0) (v := .int .i64 (opC k p l v)) (b := w.heap.size + 1 + 1 + 1) (by omega) (btrans HB5 hba)
    have ms : w3.heap.size ≤ ((w5.alloc (.cells #[.int .i64 (opC k p l v)] 83)).setCell ⟨w.heap.size + 1 + 1 + 1, 0, none⟩ (.int .i64 (opC k p l v))).heap.size := by simp; omega
    obtain ⟨⟨u3, u4, u5⟩, -⟩ := blk3 m2
    obtain ⟨u6, -⟩ := blkI m3
    generalize ((w5.alloc (.cells #[.int .i64 (opC k p l v)] 83)).setCell ⟨w.heap.size + 1 + 1 + 1, 0, none⟩ (.int .i64 (opC k p l v))) = W7 at *
    refine ⟨.tuple #[.agg #[.slice x1 l.pos.length cx1, .slice y1 l.set.length cy1, .slice z1 l.taken.length cz1], .int .i64 (opC k p l v)], by simp [results, Try.results23, go_sem, u3, u4, u5, u6], x1, cx1, y1, cy1, z1, cz1, by rw [n1.out, n2.out, n3.out], hfin _ mO ms, P1, P2, P3, mB⟩
end Go.Proofs.Ytpgjllefhlanpaa
