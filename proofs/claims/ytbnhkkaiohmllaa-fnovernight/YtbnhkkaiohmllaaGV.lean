/- A task is given to a unit. -/
import Derived.Test.YtbnhkkaiohmllaaRO
import Derived.Deep.RegionHeldLaw
namespace Go.Proofs.Ytbnhkkaiohmllaa
open Go.RowKit Go.Lib

def GavePost (w : World) (base r : Nat) (ts : List TaskV) (n : Int) (zs : List Int) (h : Hist) (t u : Nat) (e : Ending) (w' : World) : Prop :=
  e = .returned (.tuple #[]) ∧ ∃ vu vr vs, Ros w' base r ts n (zs.set t (u : Int)) (h ++ [(t, u)]) (nU (h ++ [(t, u)])) vu vr vs ∧ Below base w w'
def OldV (vs : List Value) (B : Nat) : Prop := ∀ (x : Nat) (y : Value) (b : Nat), vs[x]? = some y → y.ownBlock = some b → b < B
theorem OldV.more {vs : List Value} {B : Nat} (h : OldV vs B) : OldV (vs ++ [.slice none 0 0]) B := by
  intro x y b hx hb
  by_cases e : x < vs.length
  · rw [List.getElem?_append_left e] at hx; exact h x y b hx hb
  · rw [List.getElem?_append_right (by omega)] at hx
    have := List.mem_of_getElem? hx
    simp at this
    subst this
    simp [Value.ownBlock] at hb
theorem cell_set {w : World} {b o g i : Nat} {v x : Value} (hne : b ≠ g) (h : w.cell? ⟨b, o, none⟩ = some v) : (w.setCell ⟨g, i, none⟩ x).cell? ⟨b, o, none⟩ = some v := by
  have hb := Below.heap_setCell w ⟨g, i, none⟩ x b hne
  simp only [World.cell?, hb]
  exact h
theorem bmono {B B' : Nat} {a b : World} (h : Below B a b) (hB : B' ≤ B) : Below B' a b := h.mono hB
theorem pl_parts {w : World} {b : Nat} {x : PlV} {t : TypeId} (h : w.heap[b]? = some (.cells x.cs.toArray t (0, 0))) : w.cell? ⟨b, 0, none⟩ = some (.int .i64 x.u.e) ∧ w.cell? ⟨b, 1, none⟩ = some (.int .i64 x.u.d) ∧ w.cell? ⟨b, 2, none⟩ = some (.int .i64 x.u.f) ∧ w.cell? ⟨b, 3, none⟩ = some (.int .i64 x.u.t) ∧ w.cell? ⟨b, 4, none⟩ = some (.int .i64 x.u.p) ∧ w.cell? ⟨b, 5, none⟩ = some (.int .i64 x.k) := by
  simp [World.cell?, h, PlV.cs]

set_option maxRecDepth 20000 in
set_option maxHeartbeats 6400000 in
theorem cGive (base r : Nat) (ts : List TaskV) (n : Int) (zs : List Int) (h : Hist) (vu vr : Value) (vs : List Value) (t u : Nat) (w : World) (R : Ros w base r ts n zs h (nU h) vu vr vs) (ht : t < zs.length) (hz40 : zs.length ≤ 40) (hu : u ≤ 39) (hB : base ≤ w.heap.size) (hlen : (runU h u).length ≤ 40) (_ : nU h ≤ 40) :
    Calls Try.prog 82 #[.pointer (some ⟨r, 0, none⟩), (plOf ts t).val, .int .i64 u] w (GavePost w base r ts n zs h t u) := by
  obtain ⟨i0, hi, hz0, hz1, hz2⟩ := info_parts infoRuns
  obtain ⟨i1, hj, hy0, hy1, hy2⟩ := info_parts infoPls
  have hold : Hid (OldV vs w.heap.size) := hide (fun x y b hx hb => own_blk_lt (R.each x y hx) b hb)
  have R1 := R.below (balloc w (.cells (plOf ts t).cs.toArray 68))
  have hX1 := one_block w (.cells (plOf ts t).cs.toArray 68)
  have HB1 : Below base w (w.alloc (.cells (plOf ts t).cs.toArray 68)) := bmono (balloc w (.cells (plOf ts t).cs.toArray 68)) hB
  have hpl : Hid ((plOf ts t).k = (t : Int)) := rfl
  generalize hx : plOf ts t = X at *
  replace hx := hide hx
  clear R
  obtain ⟨⟨xe, xd, xf, xt, xp⟩, xk⟩ := X
  have hxk : xk = (t : Int) := hpl.out
  subst hxk
  unfold PlV.val PlV.cs at *
  dsimp only at *
  go_enter Try.func82, Try.ntmps82
  go_wp2
  go_loopw [] (fun wr => ∃ M vr vs, Ros wr base r ts n zs h M vu vr vs ∧ nU h ≤ M ∧ M ≤ max (nU h) (u + 1) ∧ Below base w wr ∧ wr.heap[w.heap.size]? = some (.cells [.int .i64 xe, .int .i64 xd, .int .i64 xf, .int .i64 xt, .int .i64 xp, .int .i64 t].toArray 68 (0, 0)) ∧ Hid (OldV vs w.heap.size)) (fun wr => u + 1 - lenAt wr r)
  case atStart => exact ⟨nU h, vr, vs, R1, Nat.le_refl _, by omega, HB1, hX1, hold⟩
  case round =>
    obtain ⟨M, vr, vs, R, hM1, hM2, HB, hX, hold⟩ := hrel
    clear R1 HB1 hX1
    have hLA := hide R.lenAt
    obtain ⟨⟨c0, c1, c2⟩, f0, f1, f2⟩ := blk3 R.blk
    obtain ⟨ra, rc, rfl⟩ := own_form R.hr
    by_cases hMu : M ≤ u
    · have hMu' : (M : Int) ≤ (u : Int) := by omega
      have hrs : r < wr.heap.size := lt_of_block R.blk
      have RA := R.below (balloc wr (.cells #[.slice none 0 0] 72))
      have hXA := blk_keep (balloc wr (.cells #[.slice none 0 0] 72)) hX
      have HBA := HB.trans (bmono (balloc wr (.cells #[.slice none 0 0] 72)) (by have := HB.size; omega))
      have hw0 : base ≤ wr.heap.size := by have := HB.size; omega
      go_wp2_with (at_builtin; refine wpList_append_own _ rfl _ _ 57 rfl base 72 i0 _ 1 24 Try.underlying57 hi hz0 hz1 hz2 rfl (by decide) _ _ _ rfl RA.hr ⟨wr.heap.size, 0, none⟩ 1 1 [.slice none 0 0] rfl rfl ?c1 ?c2 ?c3 ?c4 ?c5 ?_)
      case c1 => exact World.news_of_block (heap_alloc_new wr _)
      case c2 => simp [Value.oneCell']
      case c3 => unfold maxLen; omega
      case c4 => omega
      case c5 => simp; omega
      intro v2 w5 hown hgrow _
      obtain ⟨R2, hq⟩ := RA.more hM1 hown hgrow
      obtain ⟨⟨d0, d1, d2⟩, g0, g1, g2⟩ := blk3 hq
      obtain ⟨va2, vc2, rfl⟩ := own_form hown
      have hX2 := set_other (i := 2) (v := .slice va2 (M + 1) vc2) (blk_app RA.hr hgrow hXA (by decide)) (fun e : w.heap.size = r => by rw [e] at hX; rw [R.blk] at hX; simp at hX)
      have HB2 := below_set (o := 2) (v := .slice va2 (M + 1) vc2) R.rb (below_grown HBA RA.hr hB hgrow)
      have hl2 := hide R2.lenAt
      have ho2 := hide hold.out.more
      clear hown hgrow RA hXA HBA R hX HB hold
      go_wp2
      go_roundw
      case rel => exact ⟨M + 1, _, _, R2, by omega, by omega, HB2, hX2, ho2⟩
      case measure => rw [hl2.out, hLA.out]; omega
    · have hMu' : ¬ ((M : Int) ≤ (u : Int)) := by omega
      obtain ⟨gr, cap, hra, hgrb, hgrl⟩ := R.hr.form (by omega)
      simp only [Value.slice.injEq, true_and] at hra
      obtain ⟨rfl, rfl⟩ := hra
      have hlv := R.len
      obtain ⟨v, hv⟩ : ∃ v, vs[u]? = some v := ⟨vs[u]'(by omega), List.getElem?_eq_getElem (by omega)⟩
      have hev := R.each u v hv
      obtain ⟨va, vc, rfl⟩ := own_form hev
      have q1 : wr.cell? ⟨gr, u, none⟩ = some (.slice va (runU h u).length vc) := by rw [R.hr.cellAt u (by omega)]; exact hv
      obtain ⟨x0, x1, x2, x3, x4, x5⟩ := pl_parts (x := ⟨⟨xe, xd, xf, xt, xp⟩, t⟩) hX
      dsimp only at x0 x1 x2 x3 x4 x5
      have hbx : w.heap.size < wr.heap.size := lt_of_block hX
      have hrs : r < wr.heap.size := lt_of_block R.blk
      have hub : (u : Int) < (M : Int) := by omega
      have hub' : u < M := by omega
      have hw0 : base ≤ wr.heap.size := by have := HB.size; omega
      have hMe : Hid (M = nU (h ++ [(t, u)])) := hide (by rw [nU_snoc]; omega)
      have hRA := R.below (btrans (bdraw (Below.refl wr.heap.size wr) 1) (balloc (wr.drewN 1) (.cells #[.int .i64 xe, .int .i64 xd, .int .i64 xf, .int .i64 xt, .int .i64 xp, .int .i64 t] 68)))
      have hXA := blk_keep (btrans (bdraw (Below.refl wr.heap.size wr) 1) (balloc (wr.drewN 1) (.cells #[.int .i64 xe, .int .i64 xd, .int .i64 xf, .int .i64 xt, .int .i64 xp, .int .i64 t] 68))) hX
      have HBA := HB.trans (bmono (btrans (bdraw (Below.refl wr.heap.size wr) 1) (balloc (wr.drewN 1) (.cells #[.int .i64 xe, .int .i64 xd, .int .i64 xf, .int .i64 xt, .int .i64 xp, .int .i64 t] 68))) hw0)
      have hvx : Hid (some w.heap.size ≠ (Value.slice va (runU h u).length vc).ownBlock) := hide (fun e => by have := hold.out u _ _ hv e.symm; omega)
      have hgx : Hid (w.heap.size ≠ gr) := hide (fun e => own_blk_ne R.hr hX (by decide) gr rfl e.symm)
      obtain ⟨gu, ucap, hua, hgub, hgul⟩ := R.hu.form (by omega)
      subst hua
      have hgr1 : r ≠ gr := fun e => own_blk_ne R.hr R.blk (by decide) gr rfl e.symm
      have hgr2 : gr ≠ r := Ne.symm hgr1
      have hgx1 : w.heap.size ≠ gr := hgx.out
      have hgx2 : gr ≠ w.heap.size := Ne.symm hgx1
      go_wp2_with fail
      refine wp_region_held_drew (S := (fun w' => w'.cell? ⟨r, 2, none⟩ = some (.slice (some ⟨gr, 0, none⟩) M rc) ∧ w'.cell? ⟨w.heap.size, 0, none⟩ = some (.int .i64 xe) ∧ w'.cell? ⟨w.heap.size, 1, none⟩ = some (.int .i64 xd) ∧ w'.cell? ⟨w.heap.size, 2, none⟩ = some (.int .i64 xf) ∧ w'.cell? ⟨w.heap.size, 3, none⟩ = some (.int .i64 xt) ∧ w'.cell? ⟨w.heap.size, 4, none⟩ = some (.int .i64 xp) ∧ w'.cell? ⟨w.heap.size, 5, none⟩ = some (.int .i64 t))) (by kernel_rfl) ?_ (fun hHeld => ?_)
      · go_keep
      refine wpAnyH_take (i := 0) (v := .pointer (some ⟨r, 0, none⟩)) rfl (by kernel_rfl) (by kernel_rfl) (by kernel_rfl) (fun _ _ _ h => h) (Or.inl ⟨by kernel_rfl, fun w hS => by go_simp⟩) hHeld ?_
      change wpAnyH _ _ _ _ _ _ _ { tmps := List.toArray (.pointer (some ⟨r, 0, none⟩) :: _ :: .int .i64 u :: _ :: .pointer (some ⟨w.heap.size, 0, none⟩) :: _ :: _ :: _ :: _ :: _ :: _ :: _ :: _ :: _ :: _ :: _ :: _ :: _ :: _ :: _ :: _ :: _ :: .pointer (some ⟨r, 0, none⟩) :: _ :: _ :: _ :: _ :: _ :: _ :: _ :: _ :: _ :: _ :: _ :: _ :: _ :: _ :: _ :: _ :: _ :: _ :: _ :: _ :: _ :: _ :: _ :: []), defers := [] } _
      refine wpAnyH_take (i := 1) (v := .pointer (some ⟨r, 0, none⟩)) rfl (by kernel_rfl) (by kernel_rfl) (by kernel_rfl) (fun _ _ _ h => h) (Or.inl ⟨by kernel_rfl, fun w hS => by go_simp⟩) hHeld ?_
      change wpAnyH _ _ _ _ _ _ _ { tmps := List.toArray (.pointer (some ⟨r, 0, none⟩) :: _ :: .int .i64 u :: _ :: .pointer (some ⟨w.heap.size, 0, none⟩) :: _ :: _ :: _ :: _ :: _ :: _ :: _ :: _ :: _ :: _ :: _ :: _ :: _ :: _ :: _ :: _ :: _ :: .pointer (some ⟨r, 0, none⟩) :: .pointer (some ⟨r, 0, none⟩) :: _ :: _ :: _ :: _ :: _ :: _ :: _ :: _ :: _ :: _ :: _ :: _ :: _ :: _ :: _ :: _ :: _ :: _ :: _ :: _ :: _ :: _ :: []), defers := [] } _
      refine wpAnyH_take (i := 2) (v := .pointer (some ⟨r, 2, none⟩)) rfl (by kernel_rfl) (by kernel_rfl) (by kernel_rfl) (fun _ _ _ h => h) (Or.inl ⟨by kernel_rfl, fun w hS => by go_simp⟩) hHeld ?_
      change wpAnyH _ _ _ _ _ _ _ { tmps := List.toArray (.pointer (some ⟨r, 0, none⟩) :: _ :: .int .i64 u :: _ :: .pointer (some ⟨w.heap.size, 0, none⟩) :: _ :: _ :: _ :: _ :: _ :: _ :: _ :: _ :: _ :: _ :: _ :: _ :: _ :: _ :: _ :: _ :: _ :: .pointer (some ⟨r, 0, none⟩) :: .pointer (some ⟨r, 0, none⟩) :: .pointer (some ⟨r, 2, none⟩) :: _ :: _ :: _ :: _ :: _ :: _ :: _ :: _ :: _ :: _ :: _ :: _ :: _ :: _ :: _ :: _ :: _ :: _ :: _ :: _ :: _ :: []), defers := [] } _
      refine wpAnyH_take (i := 3) (v := .slice (some ⟨gr, 0, none⟩) M rc) rfl (by kernel_rfl) (by kernel_rfl) (by kernel_rfl) (fun _ _ _ h => h) (Or.inl ⟨by kernel_rfl, fun w hS => by (obtain ⟨hS0, hS1, hS2, hS3, hS4, hS5, hS6⟩ := hS; go_simp)⟩) hHeld ?_
      change wpAnyH _ _ _ _ _ _ _ { tmps := List.toArray (.pointer (some ⟨r, 0, none⟩) :: _ :: .int .i64 u :: _ :: .pointer (some ⟨w.heap.size, 0, none⟩) :: _ :: _ :: _ :: _ :: _ :: _ :: _ :: _ :: _ :: _ :: _ :: _ :: _ :: _ :: _ :: _ :: _ :: .pointer (some ⟨r, 0, none⟩) :: .pointer (some ⟨r, 0, none⟩) :: .pointer (some ⟨r, 2, none⟩) :: .slice (some ⟨gr, 0, none⟩) M rc :: _ :: _ :: _ :: _ :: _ :: _ :: _ :: _ :: _ :: _ :: _ :: _ :: _ :: _ :: _ :: _ :: _ :: _ :: _ :: _ :: []), defers := [] } _
      refine wpAnyH_take (i := 4) (v := .int .i64 u) rfl (by kernel_rfl) (by kernel_rfl) (by kernel_rfl) (fun _ _ _ h => h) (Or.inl ⟨by kernel_rfl, fun w hS => by go_simp⟩) hHeld ?_
      change wpAnyH _ _ _ _ _ _ _ { tmps := List.toArray (.pointer (some ⟨r, 0, none⟩) :: _ :: .int .i64 u :: _ :: .pointer (some ⟨w.heap.size, 0, none⟩) :: _ :: _ :: _ :: _ :: _ :: _ :: _ :: _ :: _ :: _ :: _ :: _ :: _ :: _ :: _ :: _ :: _ :: .pointer (some ⟨r, 0, none⟩) :: .pointer (some ⟨r, 0, none⟩) :: .pointer (some ⟨r, 2, none⟩) :: .slice (some ⟨gr, 0, none⟩) M rc :: .int .i64 u :: _ :: _ :: _ :: _ :: _ :: _ :: _ :: _ :: _ :: _ :: _ :: _ :: _ :: _ :: _ :: _ :: _ :: _ :: _ :: []), defers := [] } _
      refine wpAnyH_take (i := 5) (v := .pointer (some ⟨r, 0, none⟩)) rfl (by kernel_rfl) (by kernel_rfl) (by kernel_rfl) (fun _ _ _ h => h) (Or.inl ⟨by kernel_rfl, fun w hS => by go_simp⟩) hHeld ?_
      change wpAnyH _ _ _ _ _ _ _ { tmps := List.toArray (.pointer (some ⟨r, 0, none⟩) :: _ :: .int .i64 u :: _ :: .pointer (some ⟨w.heap.size, 0, none⟩) :: _ :: _ :: _ :: _ :: _ :: _ :: _ :: _ :: _ :: _ :: _ :: _ :: _ :: _ :: _ :: _ :: _ :: .pointer (some ⟨r, 0, none⟩) :: .pointer (some ⟨r, 0, none⟩) :: .pointer (some ⟨r, 2, none⟩) :: .slice (some ⟨gr, 0, none⟩) M rc :: .int .i64 u :: .pointer (some ⟨r, 0, none⟩) :: _ :: _ :: _ :: _ :: _ :: _ :: _ :: _ :: _ :: _ :: _ :: _ :: _ :: _ :: _ :: _ :: _ :: _ :: []), defers := [] } _
      refine wpAnyH_take (i := 6) (v := .pointer (some ⟨r, 0, none⟩)) rfl (by kernel_rfl) (by kernel_rfl) (by kernel_rfl) (fun _ _ _ h => h) (Or.inl ⟨by kernel_rfl, fun w hS => by go_simp⟩) hHeld ?_
      change wpAnyH _ _ _ _ _ _ _ { tmps := List.toArray (.pointer (some ⟨r, 0, none⟩) :: _ :: .int .i64 u :: _ :: .pointer (some ⟨w.heap.size, 0, none⟩) :: _ :: _ :: _ :: _ :: _ :: _ :: _ :: _ :: _ :: _ :: _ :: _ :: _ :: _ :: _ :: _ :: _ :: .pointer (some ⟨r, 0, none⟩) :: .pointer (some ⟨r, 0, none⟩) :: .pointer (some ⟨r, 2, none⟩) :: .slice (some ⟨gr, 0, none⟩) M rc :: .int .i64 u :: .pointer (some ⟨r, 0, none⟩) :: .pointer (some ⟨r, 0, none⟩) :: _ :: _ :: _ :: _ :: _ :: _ :: _ :: _ :: _ :: _ :: _ :: _ :: _ :: _ :: _ :: _ :: _ :: []), defers := [] } _
      refine wpAnyH_take (i := 7) (v := .pointer (some ⟨r, 2, none⟩)) rfl (by kernel_rfl) (by kernel_rfl) (by kernel_rfl) (fun _ _ _ h => h) (Or.inl ⟨by kernel_rfl, fun w hS => by go_simp⟩) hHeld ?_
      change wpAnyH _ _ _ _ _ _ _ { tmps := List.toArray (.pointer (some ⟨r, 0, none⟩) :: _ :: .int .i64 u :: _ :: .pointer (some ⟨w.heap.size, 0, none⟩) :: _ :: _ :: _ :: _ :: _ :: _ :: _ :: _ :: _ :: _ :: _ :: _ :: _ :: _ :: _ :: _ :: _ :: .pointer (some ⟨r, 0, none⟩) :: .pointer (some ⟨r, 0, none⟩) :: .pointer (some ⟨r, 2, none⟩) :: .slice (some ⟨gr, 0, none⟩) M rc :: .int .i64 u :: .pointer (some ⟨r, 0, none⟩) :: .pointer (some ⟨r, 0, none⟩) :: .pointer (some ⟨r, 2, none⟩) :: _ :: _ :: _ :: _ :: _ :: _ :: _ :: _ :: _ :: _ :: _ :: _ :: _ :: _ :: _ :: _ :: []), defers := [] } _
      refine wpAnyH_take (i := 8) (v := .slice (some ⟨gr, 0, none⟩) M rc) rfl (by kernel_rfl) (by kernel_rfl) (by kernel_rfl) (fun _ _ _ h => h) (Or.inl ⟨by kernel_rfl, fun w hS => by (obtain ⟨hS0, hS1, hS2, hS3, hS4, hS5, hS6⟩ := hS; go_simp)⟩) hHeld ?_
      change wpAnyH _ _ _ _ _ _ _ { tmps := List.toArray (.pointer (some ⟨r, 0, none⟩) :: _ :: .int .i64 u :: _ :: .pointer (some ⟨w.heap.size, 0, none⟩) :: _ :: _ :: _ :: _ :: _ :: _ :: _ :: _ :: _ :: _ :: _ :: _ :: _ :: _ :: _ :: _ :: _ :: .pointer (some ⟨r, 0, none⟩) :: .pointer (some ⟨r, 0, none⟩) :: .pointer (some ⟨r, 2, none⟩) :: .slice (some ⟨gr, 0, none⟩) M rc :: .int .i64 u :: .pointer (some ⟨r, 0, none⟩) :: .pointer (some ⟨r, 0, none⟩) :: .pointer (some ⟨r, 2, none⟩) :: .slice (some ⟨gr, 0, none⟩) M rc :: _ :: _ :: _ :: _ :: _ :: _ :: _ :: _ :: _ :: _ :: _ :: _ :: _ :: _ :: _ :: []), defers := [] } _
      refine wpAnyH_take (i := 9) (v := .int .i64 u) rfl (by kernel_rfl) (by kernel_rfl) (by kernel_rfl) (fun _ _ _ h => h) (Or.inl ⟨by kernel_rfl, fun w hS => by go_simp⟩) hHeld ?_
      change wpAnyH _ _ _ _ _ _ _ { tmps := List.toArray (.pointer (some ⟨r, 0, none⟩) :: _ :: .int .i64 u :: _ :: .pointer (some ⟨w.heap.size, 0, none⟩) :: _ :: _ :: _ :: _ :: _ :: _ :: _ :: _ :: _ :: _ :: _ :: _ :: _ :: _ :: _ :: _ :: _ :: .pointer (some ⟨r, 0, none⟩) :: .pointer (some ⟨r, 0, none⟩) :: .pointer (some ⟨r, 2, none⟩) :: .slice (some ⟨gr, 0, none⟩) M rc :: .int .i64 u :: .pointer (some ⟨r, 0, none⟩) :: .pointer (some ⟨r, 0, none⟩) :: .pointer (some ⟨r, 2, none⟩) :: .slice (some ⟨gr, 0, none⟩) M rc :: .int .i64 u :: _ :: _ :: _ :: _ :: _ :: _ :: _ :: _ :: _ :: _ :: _ :: _ :: _ :: _ :: []), defers := [] } _
      refine wpAnyH_take (i := 10) (v := .pointer (some ⟨gr, u, none⟩)) rfl (by kernel_rfl) (by kernel_rfl) (by kernel_rfl) (fun _ _ _ h => h) (Or.inl ⟨by kernel_rfl, fun w hS => by go_simp⟩) hHeld ?_
      change wpAnyH _ _ _ _ _ _ _ { tmps := List.toArray (.pointer (some ⟨r, 0, none⟩) :: _ :: .int .i64 u :: _ :: .pointer (some ⟨w.heap.size, 0, none⟩) :: _ :: _ :: _ :: _ :: _ :: _ :: _ :: _ :: _ :: _ :: _ :: _ :: _ :: _ :: _ :: _ :: _ :: .pointer (some ⟨r, 0, none⟩) :: .pointer (some ⟨r, 0, none⟩) :: .pointer (some ⟨r, 2, none⟩) :: .slice (some ⟨gr, 0, none⟩) M rc :: .int .i64 u :: .pointer (some ⟨r, 0, none⟩) :: .pointer (some ⟨r, 0, none⟩) :: .pointer (some ⟨r, 2, none⟩) :: .slice (some ⟨gr, 0, none⟩) M rc :: .int .i64 u :: .pointer (some ⟨gr, u, none⟩) :: _ :: _ :: _ :: _ :: _ :: _ :: _ :: _ :: _ :: _ :: _ :: _ :: _ :: []), defers := [] } _
      refine wpAnyH_take (i := 12) (v := .agg #[.int .i64 xe, .int .i64 xd, .int .i64 xf, .int .i64 xt, .int .i64 xp, .int .i64 t]) rfl (by kernel_rfl) (by kernel_rfl) (by kernel_rfl) (fun _ _ _ h => h) (Or.inl ⟨by kernel_rfl, fun w hS => by (obtain ⟨hS0, hS1, hS2, hS3, hS4, hS5, hS6⟩ := hS; go_simp)⟩) hHeld ?_
      change wpAnyH _ _ _ _ _ _ _ { tmps := List.toArray (.pointer (some ⟨r, 0, none⟩) :: _ :: .int .i64 u :: _ :: .pointer (some ⟨w.heap.size, 0, none⟩) :: _ :: _ :: _ :: _ :: _ :: _ :: _ :: _ :: _ :: _ :: _ :: _ :: _ :: _ :: _ :: _ :: _ :: .pointer (some ⟨r, 0, none⟩) :: .pointer (some ⟨r, 0, none⟩) :: .pointer (some ⟨r, 2, none⟩) :: .slice (some ⟨gr, 0, none⟩) M rc :: .int .i64 u :: .pointer (some ⟨r, 0, none⟩) :: .pointer (some ⟨r, 0, none⟩) :: .pointer (some ⟨r, 2, none⟩) :: .slice (some ⟨gr, 0, none⟩) M rc :: .int .i64 u :: .pointer (some ⟨gr, u, none⟩) :: _ :: .agg #[.int .i64 xe, .int .i64 xd, .int .i64 xf, .int .i64 xt, .int .i64 xp, .int .i64 t] :: _ :: _ :: _ :: _ :: _ :: _ :: _ :: _ :: _ :: _ :: _ :: []), defers := [] } _
      have BA : Below wr.heap.size wr (wr.drew.alloc (.cells #[.int .i64 xe, .int .i64 xd, .int .i64 xf, .int .i64 xt, .int .i64 xp, .int .i64 t] 68)) := btrans (bdraw (Below.refl wr.heap.size wr) 1) (balloc (wr.drewN 1) (.cells #[.int .i64 xe, .int .i64 xd, .int .i64 xf, .int .i64 xt, .int .i64 xp, .int .i64 t] 68))
      have qA := ble BA q1
      refine wpAnyH_ready (rs := [11, 13]) (by kernel_rfl) (by simp) ?_
      refine (AllReadyH.cons rfl (fun KK hK => ?_) (AllReadyH.cons rfl (fun KK hK => ?_) AllReadyH.nil))
      · go_simp
        clear hHeld
        refine hK.out _ _ (⟨c2, x0, x1, x2, x3, x4, x5⟩) (fun hHeld => ?_)
        clear hK KK
        change wpAnyH _ _ _ _ _ _ _ { tmps := List.toArray (.pointer (some ⟨r, 0, none⟩) :: _ :: .int .i64 u :: _ :: .pointer (some ⟨w.heap.size, 0, none⟩) :: _ :: _ :: _ :: _ :: _ :: _ :: _ :: _ :: _ :: _ :: _ :: _ :: _ :: _ :: _ :: _ :: _ :: .pointer (some ⟨r, 0, none⟩) :: .pointer (some ⟨r, 0, none⟩) :: .pointer (some ⟨r, 2, none⟩) :: .slice (some ⟨gr, 0, none⟩) M rc :: .int .i64 u :: .pointer (some ⟨r, 0, none⟩) :: .pointer (some ⟨r, 0, none⟩) :: .pointer (some ⟨r, 2, none⟩) :: .slice (some ⟨gr, 0, none⟩) M rc :: .int .i64 u :: .pointer (some ⟨gr, u, none⟩) :: .slice va (runU h u).length vc :: .agg #[.int .i64 xe, .int .i64 xd, .int .i64 xf, .int .i64 xt, .int .i64 xp, .int .i64 t] :: _ :: _ :: _ :: _ :: _ :: _ :: _ :: _ :: _ :: _ :: _ :: []), defers := [] } _
        refine wpAnyH_ready (rs := [13]) (by kernel_rfl) (by simp) ?_
        refine (AllReadyH.cons rfl (fun KK hK => ?_) AllReadyH.nil)
        go_simp
        clear hHeld
        refine hK.out _ _ (⟨ble BA c2, ble BA x0, ble BA x1, ble BA x2, ble BA x3, ble BA x4, ble BA x5⟩) (fun hHeld => ?_)
        clear hK KK
        change wpAnyH _ _ _ _ _ _ _ { tmps := List.toArray (.pointer (some ⟨r, 0, none⟩) :: _ :: .int .i64 u :: _ :: .pointer (some ⟨w.heap.size, 0, none⟩) :: _ :: _ :: _ :: _ :: _ :: _ :: _ :: _ :: _ :: _ :: _ :: _ :: _ :: _ :: _ :: _ :: _ :: .pointer (some ⟨r, 0, none⟩) :: .pointer (some ⟨r, 0, none⟩) :: .pointer (some ⟨r, 2, none⟩) :: .slice (some ⟨gr, 0, none⟩) M rc :: .int .i64 u :: .pointer (some ⟨r, 0, none⟩) :: .pointer (some ⟨r, 0, none⟩) :: .pointer (some ⟨r, 2, none⟩) :: .slice (some ⟨gr, 0, none⟩) M rc :: .int .i64 u :: .pointer (some ⟨gr, u, none⟩) :: .slice va (runU h u).length vc :: .agg #[.int .i64 xe, .int .i64 xd, .int .i64 xf, .int .i64 xt, .int .i64 xp, .int .i64 t] :: .slice (some ⟨wr.heap.size, 0, none⟩) 1 1 :: _ :: _ :: _ :: _ :: _ :: _ :: _ :: _ :: _ :: _ :: []), defers := [] } _
        refine wpAnyH_ready (rs := [14]) (by kernel_rfl) (by simp) ?_
        refine (AllReadyH.cons rfl (fun KK hK => ?_) AllReadyH.nil)
        refine step_append_lies _ (by rfl) _ _ _ (by rfl) base 68 i1 _ 6 48 Try.underlying72 hj hy0 hy1 hy2 rfl (by omega) (.slice va (runU h u).length vc) (runU h u).length (flatPls ((runU h u).map (plOf ts))) (by rfl) ((hev.drew).alloc _) ⟨wr.heap.size, 0, none⟩ 1 1 (PlV.cs ⟨⟨xe, xd, xf, xt, xp⟩, t⟩) (by rfl) (by rfl) (World.news_of_block (cs := #[.int .i64 xe, .int .i64 xd, .int .i64 xf, .int .i64 xt, .int .i64 xp, .int .i64 t]) (t := 68) (fr := (0, 0)) (heap_alloc_new wr.drew _)) (by simp [PlV.cs, Value.oneCell']) (by omega) (by unfold maxLen; omega) (by omega) (by simp; omega) (wr.heap.size + 1) (by simp) ?_
        intro g cap2 w2 hown hgrow hat hlt2
        have hown2 := hown
        rw [← hx.out] at hown2
        obtain ⟨U1, u3, u4, U4⟩ := hRA.push hv hown2 hgrow (hat.elim (fun e => Or.inl (show some g = _ from e.symm)) (fun e => Or.inr (show some g = some (wr.heap.size + 1) from congrArg some e))) (by simp)
        have u2 := (blk3 U4).1.2.2
        have hX2 := blk_far hgrow hXA hvx.out
        obtain ⟨y0, y1, y2, y3, y4, y5⟩ := pl_parts (x := ⟨⟨xe, xd, xf, xt, xp⟩, t⟩) hX2
        have HB3 := below_set (o := u) (v := .slice (some ⟨g, 0, none⟩) ((runU h u).length + 1) cap2) hgrb (below_grown HBA ((hev.drew).alloc _) hB hgrow)
        clear hHeld
        refine hK.out _ _ ⟨u2, y0, y1, y2, y3, y4, y5⟩ (fun hHeld => ?_)
        clear hK KK
        change wpAnyH _ _ _ _ _ _ _ { tmps := List.toArray (.pointer (some ⟨r, 0, none⟩) :: _ :: .int .i64 u :: _ :: .pointer (some ⟨w.heap.size, 0, none⟩) :: _ :: _ :: _ :: _ :: _ :: _ :: _ :: _ :: _ :: _ :: _ :: _ :: _ :: _ :: _ :: _ :: _ :: .pointer (some ⟨r, 0, none⟩) :: .pointer (some ⟨r, 0, none⟩) :: .pointer (some ⟨r, 2, none⟩) :: .slice (some ⟨gr, 0, none⟩) M rc :: .int .i64 u :: .pointer (some ⟨r, 0, none⟩) :: .pointer (some ⟨r, 0, none⟩) :: .pointer (some ⟨r, 2, none⟩) :: .slice (some ⟨gr, 0, none⟩) M rc :: .int .i64 u :: .pointer (some ⟨gr, u, none⟩) :: .slice va (runU h u).length vc :: .agg #[.int .i64 xe, .int .i64 xd, .int .i64 xf, .int .i64 xt, .int .i64 xp, .int .i64 t] :: .slice (some ⟨wr.heap.size, 0, none⟩) 1 1 :: .slice (some ⟨g, 0, none⟩) ((runU h u).length + 1) cap2 :: _ :: _ :: _ :: _ :: _ :: _ :: _ :: _ :: _ :: []), defers := [] } _
        refine wpAnyH_take (i := 15) (v := .pointer (some ⟨gr, u, none⟩)) rfl (by kernel_rfl) (by kernel_rfl) (by kernel_rfl) (fun _ _ _ h => h) (Or.inl ⟨by kernel_rfl, fun w hS => by go_simp⟩) hHeld ?_
        change wpAnyH _ _ _ _ _ _ _ { tmps := List.toArray (.pointer (some ⟨r, 0, none⟩) :: _ :: .int .i64 u :: _ :: .pointer (some ⟨w.heap.size, 0, none⟩) :: _ :: _ :: _ :: _ :: _ :: _ :: _ :: _ :: _ :: _ :: _ :: _ :: _ :: _ :: _ :: _ :: _ :: .pointer (some ⟨r, 0, none⟩) :: .pointer (some ⟨r, 0, none⟩) :: .pointer (some ⟨r, 2, none⟩) :: .slice (some ⟨gr, 0, none⟩) M rc :: .int .i64 u :: .pointer (some ⟨r, 0, none⟩) :: .pointer (some ⟨r, 0, none⟩) :: .pointer (some ⟨r, 2, none⟩) :: .slice (some ⟨gr, 0, none⟩) M rc :: .int .i64 u :: .pointer (some ⟨gr, u, none⟩) :: .slice va (runU h u).length vc :: .agg #[.int .i64 xe, .int .i64 xd, .int .i64 xf, .int .i64 xt, .int .i64 xp, .int .i64 t] :: .slice (some ⟨wr.heap.size, 0, none⟩) 1 1 :: .slice (some ⟨g, 0, none⟩) ((runU h u).length + 1) cap2 :: .pointer (some ⟨gr, u, none⟩) :: _ :: _ :: _ :: _ :: _ :: _ :: _ :: _ :: []), defers := [] } _
        refine wpAnyH_ready (rs := [16]) (by kernel_rfl) (by simp) ?_
        refine (AllReadyH.cons rfl (fun KK hK => ?_) AllReadyH.nil)
        go_simp
        clear hHeld
        refine hK.out _ _ (⟨cell_set hgr1 u2, cell_set hgx1 y0, cell_set hgx1 y1, cell_set hgx1 y2, cell_set hgx1 y3, cell_set hgx1 y4, cell_set hgx1 y5⟩) (fun hHeld => ?_)
        clear hK KK
        change wpAnyH _ _ _ _ _ _ _ { tmps := List.toArray (.pointer (some ⟨r, 0, none⟩) :: _ :: .int .i64 u :: _ :: .pointer (some ⟨w.heap.size, 0, none⟩) :: _ :: _ :: _ :: _ :: _ :: _ :: _ :: _ :: _ :: _ :: _ :: _ :: _ :: _ :: _ :: _ :: _ :: .pointer (some ⟨r, 0, none⟩) :: .pointer (some ⟨r, 0, none⟩) :: .pointer (some ⟨r, 2, none⟩) :: .slice (some ⟨gr, 0, none⟩) M rc :: .int .i64 u :: .pointer (some ⟨r, 0, none⟩) :: .pointer (some ⟨r, 0, none⟩) :: .pointer (some ⟨r, 2, none⟩) :: .slice (some ⟨gr, 0, none⟩) M rc :: .int .i64 u :: .pointer (some ⟨gr, u, none⟩) :: .slice va (runU h u).length vc :: .agg #[.int .i64 xe, .int .i64 xd, .int .i64 xf, .int .i64 xt, .int .i64 xp, .int .i64 t] :: .slice (some ⟨wr.heap.size, 0, none⟩) 1 1 :: .slice (some ⟨g, 0, none⟩) ((runU h u).length + 1) cap2 :: .pointer (some ⟨gr, u, none⟩) :: _ :: _ :: _ :: _ :: _ :: _ :: _ :: _ :: []), defers := [] } _
        refine wpAnyH_done (by kernel_rfl) ?_ _
        have hX3 := set_other (i := u) (v := .slice (some ⟨g, 0, none⟩) ((runU h u).length + 1) cap2) hX2 hgx1
        clear hown hgrow hat hlt2 hown2 u2 u3 u4 U4 hX2 y0 y1 y2 y3 y4 y5 hHeld BA qA hRA hXA HBA hX HB hev q1 c0 c1 c2 x0 x1 x2 x3 x4 x5 hv hold hrs hbx R
        generalize w2.setCell ⟨gr, u, none⟩ (.slice (some ⟨g, 0, none⟩) ((runU h u).length + 1) cap2) = w3 at *
        obtain ⟨⟨c0, c1, c2⟩, f0, f1, f2⟩ := blk3 U1.blk
        obtain ⟨x0, x1, x2, x3, x4, x5⟩ := pl_parts (x := ⟨⟨xe, xd, xf, xt, xp⟩, t⟩) hX3
        dsimp only at x0 x1 x2 x3 x4 x5
        have z0 : w3.cell? ⟨gu, t, none⟩ = some (.int .i64 (zs.getD t 0)) := by rw [U1.hu.cellAt t (by omega)]; simp [List.getD, ht]
        have z1 := U1.hu.frozenAt t
        have ht1 : (t : Int) < (zs.length : Int) := by omega
        have UF := U1.unit t (u : Int)
        have HBF := below_set (o := t) (v := .int .i64 u) hgub HB3
        have UFe := hide UF
        clear UF U1 HB3
        go_wp2
        go_region
        all_goals go_wp2
        all_goals go_end0
        all_goals exact ⟨rfl, _, _, _, by rw [← hMe.out]; exact UFe.out.below (bdraw (Below.refl _ _) 1), bdraw HBF 1⟩
      · go_simp
        clear hHeld
        refine hK.out _ _ (⟨ble BA c2, ble BA x0, ble BA x1, ble BA x2, ble BA x3, ble BA x4, ble BA x5⟩) (fun hHeld => ?_)
        clear hK KK
        change wpAnyH _ _ _ _ _ _ _ { tmps := List.toArray (.pointer (some ⟨r, 0, none⟩) :: _ :: .int .i64 u :: _ :: .pointer (some ⟨w.heap.size, 0, none⟩) :: _ :: _ :: _ :: _ :: _ :: _ :: _ :: _ :: _ :: _ :: _ :: _ :: _ :: _ :: _ :: _ :: _ :: .pointer (some ⟨r, 0, none⟩) :: .pointer (some ⟨r, 0, none⟩) :: .pointer (some ⟨r, 2, none⟩) :: .slice (some ⟨gr, 0, none⟩) M rc :: .int .i64 u :: .pointer (some ⟨r, 0, none⟩) :: .pointer (some ⟨r, 0, none⟩) :: .pointer (some ⟨r, 2, none⟩) :: .slice (some ⟨gr, 0, none⟩) M rc :: .int .i64 u :: .pointer (some ⟨gr, u, none⟩) :: _ :: .agg #[.int .i64 xe, .int .i64 xd, .int .i64 xf, .int .i64 xt, .int .i64 xp, .int .i64 t] :: .slice (some ⟨wr.heap.size, 0, none⟩) 1 1 :: _ :: _ :: _ :: _ :: _ :: _ :: _ :: _ :: _ :: _ :: []), defers := [] } _
        refine wpAnyH_ready (rs := [11]) (by kernel_rfl) (by simp) ?_
        refine (AllReadyH.cons rfl (fun KK hK => ?_) AllReadyH.nil)
        go_simp
        clear hHeld
        refine hK.out _ _ (⟨ble BA c2, ble BA x0, ble BA x1, ble BA x2, ble BA x3, ble BA x4, ble BA x5⟩) (fun hHeld => ?_)
        clear hK KK
        change wpAnyH _ _ _ _ _ _ _ { tmps := List.toArray (.pointer (some ⟨r, 0, none⟩) :: _ :: .int .i64 u :: _ :: .pointer (some ⟨w.heap.size, 0, none⟩) :: _ :: _ :: _ :: _ :: _ :: _ :: _ :: _ :: _ :: _ :: _ :: _ :: _ :: _ :: _ :: _ :: _ :: .pointer (some ⟨r, 0, none⟩) :: .pointer (some ⟨r, 0, none⟩) :: .pointer (some ⟨r, 2, none⟩) :: .slice (some ⟨gr, 0, none⟩) M rc :: .int .i64 u :: .pointer (some ⟨r, 0, none⟩) :: .pointer (some ⟨r, 0, none⟩) :: .pointer (some ⟨r, 2, none⟩) :: .slice (some ⟨gr, 0, none⟩) M rc :: .int .i64 u :: .pointer (some ⟨gr, u, none⟩) :: .slice va (runU h u).length vc :: .agg #[.int .i64 xe, .int .i64 xd, .int .i64 xf, .int .i64 xt, .int .i64 xp, .int .i64 t] :: .slice (some ⟨wr.heap.size, 0, none⟩) 1 1 :: _ :: _ :: _ :: _ :: _ :: _ :: _ :: _ :: _ :: _ :: []), defers := [] } _
        refine wpAnyH_ready (rs := [14]) (by kernel_rfl) (by simp) ?_
        refine (AllReadyH.cons rfl (fun KK hK => ?_) AllReadyH.nil)
        refine step_append_lies _ (by rfl) _ _ _ (by rfl) base 68 i1 _ 6 48 Try.underlying72 hj hy0 hy1 hy2 rfl (by omega) (.slice va (runU h u).length vc) (runU h u).length (flatPls ((runU h u).map (plOf ts))) (by rfl) ((hev.drew).alloc _) ⟨wr.heap.size, 0, none⟩ 1 1 (PlV.cs ⟨⟨xe, xd, xf, xt, xp⟩, t⟩) (by rfl) (by rfl) (World.news_of_block (cs := #[.int .i64 xe, .int .i64 xd, .int .i64 xf, .int .i64 xt, .int .i64 xp, .int .i64 t]) (t := 68) (fr := (0, 0)) (heap_alloc_new wr.drew _)) (by simp [PlV.cs, Value.oneCell']) (by omega) (by unfold maxLen; omega) (by omega) (by simp; omega) (wr.heap.size + 1) (by simp) ?_
        intro g cap2 w2 hown hgrow hat hlt2
        have hown2 := hown
        rw [← hx.out] at hown2
        obtain ⟨U1, u3, u4, U4⟩ := hRA.push hv hown2 hgrow (hat.elim (fun e => Or.inl (show some g = _ from e.symm)) (fun e => Or.inr (show some g = some (wr.heap.size + 1) from congrArg some e))) (by simp)
        have u2 := (blk3 U4).1.2.2
        have hX2 := blk_far hgrow hXA hvx.out
        obtain ⟨y0, y1, y2, y3, y4, y5⟩ := pl_parts (x := ⟨⟨xe, xd, xf, xt, xp⟩, t⟩) hX2
        have HB3 := below_set (o := u) (v := .slice (some ⟨g, 0, none⟩) ((runU h u).length + 1) cap2) hgrb (below_grown HBA ((hev.drew).alloc _) hB hgrow)
        clear hHeld
        refine hK.out _ _ ⟨u2, y0, y1, y2, y3, y4, y5⟩ (fun hHeld => ?_)
        clear hK KK
        change wpAnyH _ _ _ _ _ _ _ { tmps := List.toArray (.pointer (some ⟨r, 0, none⟩) :: _ :: .int .i64 u :: _ :: .pointer (some ⟨w.heap.size, 0, none⟩) :: _ :: _ :: _ :: _ :: _ :: _ :: _ :: _ :: _ :: _ :: _ :: _ :: _ :: _ :: _ :: _ :: _ :: .pointer (some ⟨r, 0, none⟩) :: .pointer (some ⟨r, 0, none⟩) :: .pointer (some ⟨r, 2, none⟩) :: .slice (some ⟨gr, 0, none⟩) M rc :: .int .i64 u :: .pointer (some ⟨r, 0, none⟩) :: .pointer (some ⟨r, 0, none⟩) :: .pointer (some ⟨r, 2, none⟩) :: .slice (some ⟨gr, 0, none⟩) M rc :: .int .i64 u :: .pointer (some ⟨gr, u, none⟩) :: .slice va (runU h u).length vc :: .agg #[.int .i64 xe, .int .i64 xd, .int .i64 xf, .int .i64 xt, .int .i64 xp, .int .i64 t] :: .slice (some ⟨wr.heap.size, 0, none⟩) 1 1 :: .slice (some ⟨g, 0, none⟩) ((runU h u).length + 1) cap2 :: _ :: _ :: _ :: _ :: _ :: _ :: _ :: _ :: _ :: []), defers := [] } _
        refine wpAnyH_take (i := 15) (v := .pointer (some ⟨gr, u, none⟩)) rfl (by kernel_rfl) (by kernel_rfl) (by kernel_rfl) (fun _ _ _ h => h) (Or.inl ⟨by kernel_rfl, fun w hS => by go_simp⟩) hHeld ?_
        change wpAnyH _ _ _ _ _ _ _ { tmps := List.toArray (.pointer (some ⟨r, 0, none⟩) :: _ :: .int .i64 u :: _ :: .pointer (some ⟨w.heap.size, 0, none⟩) :: _ :: _ :: _ :: _ :: _ :: _ :: _ :: _ :: _ :: _ :: _ :: _ :: _ :: _ :: _ :: _ :: _ :: .pointer (some ⟨r, 0, none⟩) :: .pointer (some ⟨r, 0, none⟩) :: .pointer (some ⟨r, 2, none⟩) :: .slice (some ⟨gr, 0, none⟩) M rc :: .int .i64 u :: .pointer (some ⟨r, 0, none⟩) :: .pointer (some ⟨r, 0, none⟩) :: .pointer (some ⟨r, 2, none⟩) :: .slice (some ⟨gr, 0, none⟩) M rc :: .int .i64 u :: .pointer (some ⟨gr, u, none⟩) :: .slice va (runU h u).length vc :: .agg #[.int .i64 xe, .int .i64 xd, .int .i64 xf, .int .i64 xt, .int .i64 xp, .int .i64 t] :: .slice (some ⟨wr.heap.size, 0, none⟩) 1 1 :: .slice (some ⟨g, 0, none⟩) ((runU h u).length + 1) cap2 :: .pointer (some ⟨gr, u, none⟩) :: _ :: _ :: _ :: _ :: _ :: _ :: _ :: _ :: []), defers := [] } _
        refine wpAnyH_ready (rs := [16]) (by kernel_rfl) (by simp) ?_
        refine (AllReadyH.cons rfl (fun KK hK => ?_) AllReadyH.nil)
        go_simp
        clear hHeld
        refine hK.out _ _ (⟨cell_set hgr1 u2, cell_set hgx1 y0, cell_set hgx1 y1, cell_set hgx1 y2, cell_set hgx1 y3, cell_set hgx1 y4, cell_set hgx1 y5⟩) (fun hHeld => ?_)
        clear hK KK
        change wpAnyH _ _ _ _ _ _ _ { tmps := List.toArray (.pointer (some ⟨r, 0, none⟩) :: _ :: .int .i64 u :: _ :: .pointer (some ⟨w.heap.size, 0, none⟩) :: _ :: _ :: _ :: _ :: _ :: _ :: _ :: _ :: _ :: _ :: _ :: _ :: _ :: _ :: _ :: _ :: _ :: .pointer (some ⟨r, 0, none⟩) :: .pointer (some ⟨r, 0, none⟩) :: .pointer (some ⟨r, 2, none⟩) :: .slice (some ⟨gr, 0, none⟩) M rc :: .int .i64 u :: .pointer (some ⟨r, 0, none⟩) :: .pointer (some ⟨r, 0, none⟩) :: .pointer (some ⟨r, 2, none⟩) :: .slice (some ⟨gr, 0, none⟩) M rc :: .int .i64 u :: .pointer (some ⟨gr, u, none⟩) :: .slice va (runU h u).length vc :: .agg #[.int .i64 xe, .int .i64 xd, .int .i64 xf, .int .i64 xt, .int .i64 xp, .int .i64 t] :: .slice (some ⟨wr.heap.size, 0, none⟩) 1 1 :: .slice (some ⟨g, 0, none⟩) ((runU h u).length + 1) cap2 :: .pointer (some ⟨gr, u, none⟩) :: _ :: _ :: _ :: _ :: _ :: _ :: _ :: _ :: []), defers := [] } _
        refine wpAnyH_done (by kernel_rfl) ?_ _
        have hX3 := set_other (i := u) (v := .slice (some ⟨g, 0, none⟩) ((runU h u).length + 1) cap2) hX2 hgx1
        clear hown hgrow hat hlt2 hown2 u2 u3 u4 U4 hX2 y0 y1 y2 y3 y4 y5 hHeld BA qA hRA hXA HBA hX HB hev q1 c0 c1 c2 x0 x1 x2 x3 x4 x5 hv hold hrs hbx R
        generalize w2.setCell ⟨gr, u, none⟩ (.slice (some ⟨g, 0, none⟩) ((runU h u).length + 1) cap2) = w3 at *
        obtain ⟨⟨c0, c1, c2⟩, f0, f1, f2⟩ := blk3 U1.blk
        obtain ⟨x0, x1, x2, x3, x4, x5⟩ := pl_parts (x := ⟨⟨xe, xd, xf, xt, xp⟩, t⟩) hX3
        dsimp only at x0 x1 x2 x3 x4 x5
        have z0 : w3.cell? ⟨gu, t, none⟩ = some (.int .i64 (zs.getD t 0)) := by rw [U1.hu.cellAt t (by omega)]; simp [List.getD, ht]
        have z1 := U1.hu.frozenAt t
        have ht1 : (t : Int) < (zs.length : Int) := by omega
        have UF := U1.unit t (u : Int)
        have HBF := below_set (o := t) (v := .int .i64 u) hgub HB3
        have UFe := hide UF
        clear UF U1 HB3
        go_wp2
        go_region
        all_goals go_wp2
        all_goals go_end0
        all_goals exact ⟨rfl, _, _, _, by rw [← hMe.out]; exact UFe.out.below (bdraw (Below.refl _ _) 1), bdraw HBF 1⟩
end Go.Proofs.Ytbnhkkaiohmllaa
