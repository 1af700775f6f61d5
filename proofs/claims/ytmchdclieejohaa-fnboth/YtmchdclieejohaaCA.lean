/- The days on which a pattern runs, as the program hands them out; and the two functions that range over them. -/
import Derived.RangeFuncNested
import Derived.RangeFuncBound
import Derived.RangeFuncCalls
import Derived.RangeFuncLeaves
import Derived.Shelf.Abstract
import Derived.Shelf.RegionOpen
import Derived.WalkKit
import Derived.OwnWalkIn
import Derived.TacticsInMore
import Derived.LoopNIn
import Derived.LoopIn
import Derived.Test.YtmchdclieejohaaU
import Derived.Test.YtmchdclieejohaaI
namespace Go.Proofs.Ytmchdclieejohaa
open Go.RowKit Go.Shelf
attribute [local go_sem] Oper.semAt_some

/-- The days on which a pattern runs. -/
def runList (W F T : Int) (zs es : List Int) : List Int := if patOk W F T zs es = true then pick (onB W F T zs es) F (T + 1 - F).toNat else []
theorem runList_no {W F T : Int} {zs es : List Int} (h : patOk W F T zs es = false) : runList W F T zs es = [] := by unfold runList; rw [if_neg]; rw [h]; simp
theorem runList_yes {W F T : Int} {zs es : List Int} (h : patOk W F T zs es = true) : runList W F T zs es = pick (onB W F T zs es) F (T + 1 - F).toNat := by unfold runList; rw [if_pos h]

theorem pick_pre (b : Int → Bool) (f : Int) (j n : Nat) (h : j ≤ n) : pick b f j <+: pick b f n := by
  obtain ⟨k, rfl⟩ := Nat.exists_eq_add_of_le h
  induction k with
  | zero => exact List.prefix_refl _
  | succ k ih =>
    refine (ih (by omega)).trans ?_
    show pick b f (j + k) <+: pick b f (j + k + 1)
    cases hb : b (f + ((j + k : Nat) : Int))
    · rw [pick_no b f _ hb]
      exact List.prefix_refl _
    · rw [pick_yes b f _ hb]
      exact List.prefix_append _ _

theorem day_next' (f : Int) (j : Nat) : Value.int .i64 (f + (j : Int) + 1) = .int .i64 (f + ((j + 1 : Nat) : Int)) := by congr 1; omega
theorem keepblk' {v w' : World} {b : Nat} {o : Obj} (h : Below v.heap.size v w') (hz : v.heap[b]? = some o) : w'.heap[b]? = some o := (h.block _ (lt_of_block hz)).trans hz
theorem grown_of_below {A C : World} (h : Below A.heap.size A C) : A.grownBy C none := ⟨h.os, h.tape, h.output, h.size, fun b hb _ => h.block b hb⟩

/-- What a round that goes on keeps: all below n₀, and the box that holds the pattern. -/
def KB (n₀ B : Nat) (A C : World) : Prop := Below n₀ A C ∧ C.heap[B]? = A.heap[B]?
theorem KB.t {n₀ B : Nat} {A C D : World} (h : KB n₀ B A C) (k : KB n₀ B C D) : KB n₀ B A D := ⟨h.1.trans k.1, k.2.trans h.2⟩
theorem KB.b {n₀ B : Nat} {w : World} (hn : n₀ ≤ w.heap.size) (hB : B < w.heap.size) (A : World) (l : Nat) (o o' : Obj) (hl : w.heap.size ≤ l) (h : A.heap[l]? = some o) (h1 : o.isCells = false) (h2 : o.isWalk = false) : KB n₀ B A (A.putObj l o') :=
  ⟨belowK_b hn A l o o' hl h h1 h2, World.putObj_heap_other (by omega)⟩

set_option maxRecDepth 100000 in
set_option maxHeartbeats 2000000 in
theorem c59 (n : Nat) (hn : 1 ≤ n) (l B n₀ : Nat) (a1 a2 : Option Addr) (p1 p2 : Nat) (zs es : List Int) (W F T : Int) (w0 : World) (hz : Ints w0 a1 zs) (he : Ints w0 a2 es) (hl1 : zs.length ≤ 1048576) (hl2 : es.length ≤ 1048576) (hw0 : w0.heap.size ≤ n₀)
    (J Jx : List Int → World → Prop) (Wr : World) (hJ : AbidesFrom Wr.heap.size J)
    (hY : ∀ pre x W1, J pre W1 → pre.length < 4000 → YieldAt Fence.wide (n - 1) Try.prog l #[.int .i64 x] W1 fun e W' =>
      (e = .returned (.bool true) ∧ J (pre ++ [x]) W' ∧ KB n₀ B W1 W') ∨ (e = .returned (.bool false) ∧ Jx (pre ++ [x]) W'))
    (hb : Below n₀ w0 Wr) (hX : Wr.heap[B]? = some (.cells #[.int .i64 W, .int .i64 F, .int .i64 T, .slice a1 zs.length p1, .slice a2 es.length p2] 26 (0, 0))) (h0 : J [] Wr) :
    CallsIn Fence.wide n Try.prog 59 #[.func (.yield l) #[] #[], .pointer (some ⟨B, 0, none⟩)] Wr fun e W' => (∃ v, e = .returned v) ∧
      ((∃ ys, ys = runList W F T zs es ∧ J ys W') ∨ (∃ pre, pre <+: runList W F T zs es ∧ Jx pre W')) := by
  have hup : ∀ (s : List Int) (A C : World), J s A → Below A.heap.size A C → J s C := fun s A C h1 h2 => hJ _ _ _ none h1 (grown_of_below h2) (fun r e => by cases e)
  have hUp := hide hup
  clear hup hJ
  have hYh := hide hY
  clear hY
  cases hp : patOk W F T zs es
  · have RL := hide (runList_no hp)
    refine callsIn_of_wp Try.func59 rfl trivial ?_ rfl
    simp only [Try.ntmps59, List.size_toArray, List.length_cons, List.length_nil, Nat.reduceAdd, Nat.reduceSub, Array.replicate_succ, Array.replicate_zero, List.push_toArray, List.append_toArray, List.nil_append, List.cons_append]
    obtain ⟨⟨b0, b1, b2, b3, b4⟩, _⟩ := blk5 hX
    gi_wp2_with (refine ⟨trivial, ?_⟩; gi_at_call 21; refine (callsIn_wide.2 (c21 a1 a2 p1 p2 zs es W F T _ (hz.below (hb.mono hw0)) (he.below (hb.mono hw0)) hl1 hl2)).mono ?_; rintro e w1 ⟨rfl, hb1⟩)
    refine bodyPost_ret (results_none rfl _ _ _) rfl ?_
    exact ⟨⟨_, rfl⟩, .inl ⟨[], RL.out.symm, hUp.out _ _ _ h0 hb1⟩⟩
  have RL := hide (runList_yes hp)
  have HP := hide hp
  obtain ⟨_, ⟨q2, q3, q4⟩, _, _⟩ := patOk_bd hp
  have hpick : ∀ j : Nat, (j : Int) ≤ T - F + 1 → pick (onB W F T zs es) F j <+: runList W F T zs es := fun j hj => by rw [RL.out]; exact pick_pre _ _ _ _ (by omega)
  have hPick := hide hpick
  clear hpick
  refine callsIn_of_wp Try.func59 rfl trivial ?_ rfl
  simp only [Try.ntmps59, List.size_toArray, List.length_cons, List.length_nil, Nat.reduceAdd, Nat.reduceSub, Array.replicate_succ, Array.replicate_zero, List.push_toArray, List.append_toArray, List.nil_append, List.cons_append]
  obtain ⟨⟨b0, b1, b2, b3, b4⟩, _⟩ := blk5 hX
  gi_wp2_with (refine ⟨trivial, ?_⟩; gi_at_call 21; refine (callsIn_wide.2 (c21 a1 a2 p1 p2 zs es W F T _ (hz.below (hb.mono hw0)) (he.below (hb.mono hw0)) hl1 hl2)).mono ?_; rintro e w1 ⟨rfl, hb1⟩; have c1 := ble hb1 b1)
  have hbn : n₀ ≤ Wr.heap.size ∨ True := .inr trivial
  gi_loopw [3] (fun day wr => ∃ j : Nat, (j : Int) ≤ T - F + 1 ∧ day = .int .i64 (F + j) ∧ Below w0.heap.size w0 wr ∧ wr.heap[B]? = some (.cells #[.int .i64 W, .int .i64 F, .int .i64 T, .slice a1 zs.length p1, .slice a2 es.length p2] 26 (0, 0)) ∧ J (pick (onB W F T zs es) F j) wr)
    (fun day _ => (T + 1 - intOf day).toNat)
  case atStart => exact ⟨0, by omega, by simp, (hb.mono hw0).trans (hb1.mono (hb.mono hw0).size), keepblk' hb1 hX, hUp.out _ _ _ h0 hb1⟩
  case round =>
    clear b0 b1 b2 b3 b4 c1 hb hb1 hX h0 hp
    obtain ⟨j, hj, rfl, hbr, hXr, hJr⟩ := hrel
    have ln := pick_len (onB W F T zs es) F j
    obtain ⟨⟨b0, b1, b2, b3, b4⟩, _⟩ := blk5 hXr
    by_cases hlt : F + j ≤ T
    · cases hon : onB W F T zs es (F + j)
      · have PK := hide (pick_no _ _ _ hon)
        gi_wp2_with (refine ⟨trivial, ?_⟩; gi_at_call 37; refine (callsIn_wide.2 (c37 a1 a2 p1 p2 zs es W F T _ _ (hz.below hbr) (he.below hbr) hl1 hl2 HP.out)).mono ?_; rintro e w1 ⟨rfl, hb1⟩)
        refine ⟨fun _ h => (by cases h), ?_⟩
        gi_wp2
        go_roundw
        case rel => exact ⟨j + 1, by omega, by rw [day_next'], hbr.trans (hb1.mono hbr.size), keepblk' hb1 hXr, by rw [PK.out]; exact hUp.out _ _ _ hJr hb1⟩
        case measure => simp [intOf]; omega
      · have PK := hide (pick_yes _ _ _ hon)
        have PR := hide (hPick.out (j + 1) (by omega))
        gi_wp2_with (refine ⟨trivial, ?_⟩; gi_at_call 37; refine (callsIn_wide.2 (c37 a1 a2 p1 p2 zs es W F T _ _ (hz.below hbr) (he.below hbr) hl1 hl2 HP.out)).mono ?_; rintro e w1 ⟨rfl, hb1⟩; obtain ⟨fn, tmps, assign, body, hy, hR⟩ := hYh.out _ (F + j) w1 (hUp.out _ _ _ hJr hb1) (by omega))
        refine hR.mono ?_
        rintro e W3 (⟨rfl, hJ3, hk3⟩ | ⟨rfl, hJx3⟩)
        · clear hR hy
          gi_wp2
          go_roundw
          case rel => exact ⟨j + 1, by omega, by rw [day_next'], (hbr.trans (hb1.mono hbr.size)).trans (hk3.1.mono hw0), hk3.2.trans (keepblk' hb1 hXr), by rw [PK.out]; exact hJ3⟩
          case measure => simp [intOf]; omega
        · clear hR hy
          gi_wp2
          refine bodyPost_ret (results_none rfl _ _ _) rfl ?_
          exact ⟨⟨_, rfl⟩, .inr ⟨_, by rw [← PK.out]; exact PR.out, hJx3⟩⟩
    · gi_wp2
      go_end0
      have hjn : j = (T + 1 - F).toNat := by omega
      have hJe : J (runList W F T zs es) wr := by rw [RL.out, ← hjn]; exact hJr
      exact ⟨⟨_, rfl⟩, .inl (by simpa using hJe)⟩
end Go.Proofs.Ytmchdclieejohaa
