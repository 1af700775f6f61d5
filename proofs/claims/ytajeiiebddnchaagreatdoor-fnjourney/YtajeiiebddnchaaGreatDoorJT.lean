/- The text of a journey, of program and model. -/
import Derived.Test.YtajeiiebddnchaaGreatDoorTT
import Derived.Test.YtajeiiebddnchaaGreatDoorJM

import Derived.Deep.RegionHeld3
import Derived.Deep.AppendLies
import Derived.Maps.AppendAt
namespace Go.Proofs.YtajeiiebddnchaaGreatDoor.J
open Go.RowKit
/-- What is told of a leg. -/
def legL (ts : List TripV) (e : LegV) : List UInt8 := (ts.getD e.t.toNat TripV.zero).name.data.toList ++ (32 :: (tt (hcA ts e.t.toNat e.o.toNat).d ++ (45 :: tt (hcA ts e.t.toNat e.f.toNat).a)))
def sepL : List UInt8 := [32, 47, 32]
theorem join_all (x : List UInt8) (ws : List (List UInt8)) : Lib.join (x :: ws) sepL = x ++ ws.flatMap (fun w => sepL ++ w) := by
  unfold Lib.join
  induction ws generalizing x with
  | nil => simp [List.intercalate, List.intersperse]
  | cons y ys ih =>
    rw [List.flatMap_cons]
    have := ih y
    simp only [List.intercalate] at this ⊢
    rw [List.intersperse_cons_cons]
    simp only [List.flatten_cons, this]
    simp
/-- The text of a journey. -/
def jnL (ts : List TripV) (es : List LegV) : List UInt8 := Lib.join (es.map (legL ts)) sepL
theorem jnL_nil (ts : List TripV) : jnL ts [] = [] := by simp [jnL, Lib.join, List.intercalate]
theorem jnL_one (ts : List TripV) (e : LegV) : jnL ts [e] = legL ts e := by simp [jnL, join_all]
theorem jnL_snoc (ts : List TripV) {es : List LegV} (e : LegV) (h : es ≠ []) : jnL ts (es ++ [e]) = jnL ts es ++ (sepL ++ legL ts e) := by
  cases es with
  | nil => exact absurd rfl h
  | cons x xs => simp [jnL, join_all]
/-- What JourneyText tells. -/
def JtAns (ts : List TripV) (es : List LegV) (ch : Int) (l : List UInt8) : Prop := (LegsP ts es ch ∧ l = jnL ts es) ∨ (¬ LegsP ts es ch ∧ l = [])
theorem JtAns.unique {ts : List TripV} {es : List LegV} {ch : Int} {l l' : List UInt8} (h : JtAns ts es ch l) (h' : JtAns ts es ch l') : l = l' := by
  rcases h with ⟨h1, rfl⟩ | ⟨h1, rfl⟩ <;> rcases h' with ⟨g1, rfl⟩ | ⟨g1, rfl⟩
  · rfl
  · exact absurd h1 g1
  · exact absurd g1 h1
  · rfl
def JtPost (ts : List TripV) (es : List LegV) (ch : Int) (w : World) (e : Ending) (w' : World) : Prop := ∃ l, e = .returned (S l) ∧ JtAns ts es ch l ∧ Below w.heap.size w w'
theorem tt_le (m : Int) : (tt m).length ≤ 23 := by
  unfold tt
  split
  · have h1 := two_le (m.toNat / 60) (by omega)
    have h2 := two_le (m.toNat % 60) (by omega)
    simp [ttL]; omega
  · simp
theorem text_leg (s : ByteArray) (a b : List UInt8) : s ++ ⟨#[32]⟩ ++ ⟨a.toArray⟩ ++ ⟨#[45]⟩ ++ ⟨b.toArray⟩ = ⟨(s.data.toList ++ (32 :: (a ++ (45 :: b)))).toArray⟩ := by
  have e : s = ⟨s.data.toList.toArray⟩ := by cases s; simp
  generalize s.data.toList = l at *
  subst e
  rw [show (⟨#[32]⟩ : ByteArray) = ⟨[32].toArray⟩ from rfl, show (⟨#[45]⟩ : ByteArray) = ⟨[45].toArray⟩ from rfl, str_append, str_append, str_append, str_append]
  simp
theorem infoStr : (Tryz.prog.info? 9).map (fun i => (i.zero, i.size, i.bytes)) = some (some (.string ⟨#[]⟩), 1, 16) := by kernel_rfl
theorem legL_le {ts : List TripV} {e : LegV} (h : (ts.getD e.t.toNat TripV.zero).name.size ≤ 12) : (legL ts e).length ≤ 60 := by
  have e1 := tt_le (hcA ts e.t.toNat e.o.toNat).d
  have e2 := tt_le (hcA ts e.t.toNat e.f.toNat).a
  have e3 : (ts.getD e.t.toNat TripV.zero).name.data.toList.length = (ts.getD e.t.toNat TripV.zero).name.size := size_list _
  simp only [legL, List.length_append, List.length_cons]; omega
theorem join_le {ws : List (List UInt8)} (h : ∀ x ∈ ws, x.length ≤ 60) : (Lib.join ws sepL).length ≤ 63 * ws.length := by
  cases ws with
  | nil => simp [Lib.join, List.intercalate]
  | cons x xs =>
    rw [join_all]
    have h1 := h x List.mem_cons_self
    have h2 : ∀ ys : List (List UInt8), (∀ y ∈ ys, y.length ≤ 60) → (ys.flatMap (fun w => sepL ++ w)).length ≤ 63 * ys.length := by
      intro ys
      induction ys with
      | nil => intro _; simp
      | cons y ys ih =>
        intro hy
        have a := ih fun z hz => hy z (List.mem_cons_of_mem _ hz)
        have b := hy y List.mem_cons_self
        simp only [List.flatMap_cons, List.length_append, List.length_cons, sepL, List.length_nil] at a ⊢
        omega
    have h3 := h2 xs fun z hz => h z (List.mem_cons_of_mem _ hz)
    simp only [List.length_append, List.length_cons]
    omega
theorem jnL_le {ts : List TripV} {es : List LegV} (hG : ∀ i, i < es.length → LegG ts (es.getD i LegV.zero)) (hn : ∀ T, T < ts.length → (ts.getD T TripV.zero).name.size ≤ 12) (h5 : es.length ≤ 5) : (jnL ts es).length ≤ 1000 := by
  have := join_le (ws := es.map (legL ts)) (fun x hx => by
    obtain ⟨e, he, rfl⟩ := List.mem_map.1 hx
    obtain ⟨i, hi, rfl⟩ := List.getElem_of_mem he
    have g := hG i hi
    rw [show es.getD i LegV.zero = es[i] by simp [List.getD, hi]] at g
    exact legL_le (hn _ (by have := g.1; omega)))
  rw [List.length_map] at this
  unfold jnL
  omega
def wordL (ts : List TripV) (e : LegV) : ByteArray := ⟨(legL ts e).toArray⟩
theorem farB {w w' : World} {r : Option Nat} (hg : w.grownBy w' r) {g : Nat} {o : Obj} (h : w.heap[g]? = some o) (hne : ∀ j, r = some j → g ≠ j) : w'.heap[g]? = some o :=
  (hg.block g (lt_of_block h) (fun e => hne g e.symm rfl)).trans h
theorem farC {w w' : World} {r : Option Nat} (hg : w.grownBy w' r) {g o : Nat} {v : Value} (h : w.cell? ⟨g, o, none⟩ = some v) (hne : ∀ j, r = some j → g ≠ j) : w'.cell? ⟨g, o, none⟩ = some v := by
  have hb := hg.block g (cell_lt h) (fun e => hne g e.symm rfl)
  simp only [World.cell?] at h ⊢
  rw [hb]
  exact h
/-- A right leg, in numbers. -/
theorem leg_nat {ts : List TripV} {e : LegV} (h : LegG ts e) : ∃ T O F : Nat, e = ⟨T, O, F⟩ ∧ T < ts.length ∧ O < F ∧ F < ncA ts T := by
  obtain ⟨t, o, f⟩ := e
  obtain ⟨⟨h1, h2⟩, h3, h4, h5⟩ := h
  dsimp only at *
  exact ⟨t.toNat, o.toNat, f.toNat, by simp only [LegV.mk.injEq]; omega, by omega, by omega, by omega⟩

set_option maxRecDepth 100000 in
set_option maxHeartbeats 6400000 in
theorem cJtI (a : Option Addr) (cap : Nat) (ts : List TripV) (la : Option Addr) (lc : Nat) (es : List LegV) (ch : Int) (w : World) (ht : Tab w) (hz : Trips w a ts) (hS : Small ts) (he : Legs w la es) (hel : es.length ≤ 1048576) :
    Calls Tryz.prog 12 #[.slice a ts.length cap, .slice la es.length lc, .int .i64 ch] w (JtPost ts es ch w) := by
  obtain ⟨i0, hi, hz0, hz1, hz2⟩ := info_parts infoStr
  go_enter Tryz.func12, Tryz.ntmps12
  go_wp2_with fail
  refine (cLegsI a cap ts la lc es ch _ hz hS he hel).mono ?_
  rintro e w1 ⟨r, rfl, hr, hb⟩
  cases r
  · have R : Hid (JtAns ts es ch []) := hide (.inr ⟨fun q => absurd (hr.2 q) (by decide), rfl⟩)
    clear hr
    go_wp2
    go_ret
    exact ⟨[], rfl, R.out, hb⟩
  have hP := hide (hr.1 rfl)
  clear hr
  have hG := hide (hP.out.2.2.2.1)
  have h5 : es.length ≤ 5 := hP.out.2.2.1
  have hTab := ht.below hb
  have hz' := hz.below hb
  have he' := he.below hb
  have hnm : Hid (∀ T, T < ts.length → (ts.getD T TripV.zero).name.size ≤ 12) := hide (fun T hT => by
    have h1 := (trip_partsJ (hP.out.1.2.1 T hT)).1
    simp only [nameB, Bool.and_eq_true] at h1
    have := (inB_true h1.2).2
    omega)
  go_wp2
  go_loopw [7, 9, 17] (fun v _ ii wr => ∃ k : Nat, k ≤ es.length ∧ ii = .int .i64 k ∧ wr.ownsRow w1.heap.size 9 1 v k (((es.take k).map (wordL ts)).map Value.string) ∧ Below w1.heap.size w1 wr) (fun _ _ ii _ => es.length - (intOf ii).toNat)
  case atStart => exact ⟨0, Nat.zero_le _, rfl, World.ownsRow_nil _ _ _ _, Below.refl _ _⟩
  case round =>
    obtain ⟨k, hk, rfl, ho, hbr⟩ := hrel
    by_cases hlt : k < es.length
    · have hlt' : (k : Int) < (es.length : Int) := by omega
      obtain ⟨va, vc, rfl⟩ := own_form ho
      obtain ⟨T, O, F, hE, hT, hO, hF⟩ := leg_nat (hG.out k hlt)
      have S1 := hide (show ((es.take (k + 1)).map (wordL ts)).map Value.string = ((es.take k).map (wordL ts)).map Value.string ++ [.string (wordL ts (es.getD k LegV.zero))] by
        have e1 : es.getD k LegV.zero = es[k] := by simp [List.getD, hlt]
        rw [List.take_succ_eq_append_getElem hlt, e1, List.map_append, List.map_append]; rfl)
      have hcl : ∃ lb lo, la = some ⟨lb, lo, none⟩ ∧ wr.cell? ⟨lb, lo + k * 3, none⟩ = some (.int .i64 (T : Int)) ∧ wr.cell? ⟨lb, lo + k * 3 + 1, none⟩ = some (.int .i64 (O : Int)) ∧ wr.cell? ⟨lb, lo + k * 3 + 2, none⟩ = some (.int .i64 (F : Int)) := by
        rcases he' with h | ⟨lb, lo, hla, hc⟩
        · simp [h] at hlt
        · obtain ⟨q0, q1, q2⟩ := hc k hlt
          rw [hE] at q0 q1 q2
          exact ⟨lb, lo, hla, ble hbr q0, ble hbr q1, ble hbr q2⟩
      obtain ⟨lb, lo, rfl, l0, l1, l2⟩ := hcl
      obtain ⟨b, off, hn, hc, rfl, q0, -⟩ := hz'.at hT
      have hsz := hnm.out T hT
      have CON := fun w' (h : Below wr.heap.size wr w') => cOn (some ⟨b, off, none⟩) cap ts T O F w' ((hz'.below hbr).below h) hT (by omega)
      have COF := fun w' (h : Below wr.heap.size wr w') => cOff (some ⟨b, off, none⟩) cap ts T F O w' ((hz'.below hbr).below h) hT hF
      have CTT := fun m w' (h : Below wr.heap.size wr w') => cTimeI m w' ((hTab.below hbr).below h)
      have hL : Hid (wordL ts (es.getD k LegV.zero) = ⟨((ts.getD T TripV.zero).name.data.toList ++ (32 :: (tt (hcA ts T O).d ++ (45 :: tt (hcA ts T F).a)))).toArray⟩) := hide (by rw [hE]; simp [wordL, legL])
      have ll := cell_lt l0
      have lq := cell_lt q0
      have q0' := ble hbr q0
      generalize (ts.getD T TripV.zero).name = s at *
      generalize hcA ts T O = c1 at *
      generalize hcA ts T F = c2 at *
      obtain ⟨n1, a1, d1⟩ := c1
      obtain ⟨n2, a2, d2⟩ := c2
      unfold HaltV.val at CON COF
      dsimp only at *
      have CT1 := CTT d1
      have CT2 := CTT a2
      have t1 := tt_le d1
      have t2 := tt_le a2
      generalize tt d1 = A at *
      generalize tt a2 = B at *
      unfold S at CT1 CT2
      have hb1 := balloc wr (.cells #[.int .i64 (T : Int), .int .i64 (O : Int), .int .i64 (F : Int)] 38)
      have LB := one_block wr (.cells #[.int .i64 (T : Int), .int .i64 (O : Int), .int .i64 (F : Int)] 38)
      have hT0 : (0 : Int) ≤ T := by omega
      have hT1 : (T : Int) < ts.length := by omega
      go_upto_region 7 with fail
      generalize wr.alloc (.cells #[.int .i64 (T : Int), .int .i64 (O : Int), .int .i64 (F : Int)] 38) = V at *
      obtain ⟨⟨z0, z1, z2⟩, -⟩ := threeC LB
      replace q0 := ble hb1 q0'
      have oV := own_keep ho hb1
      have hvz := own_blk_lt ho
      have hfrom := own_from ho (Nat.le_refl _)
      have hbV := btrans hbr hb1
      have hzl := lt_of_block LB
      replace CON := fun w' (h : Below V.heap.size V w') => CON w' (btrans hb1 h)
      replace COF := fun w' (h : Below V.heap.size V w') => COF w' (btrans hb1 h)
      replace CT1 := fun w' (h : Below V.heap.size V w') => CT1 w' (btrans hb1 h)
      replace CT2 := fun w' (h : Below V.heap.size V w') => CT2 w' (btrans hb1 h)
      generalize wr.heap.size = z at *
      have h0 : Below V.heap.size V V.drew := (Below.refl _ _).drew
      have m1 : ¬ 9223372036854775807 < s.size + 1 := by omega
      have m2 : ¬ 9223372036854775807 < s.size + 1 + A.length := by omega
      have m3 : ¬ 9223372036854775807 < s.size + 1 + A.length + 1 := by omega
      have m4 : ¬ 9223372036854775807 < s.size + 1 + A.length + 1 + B.length := by omega
      clear l0 l1 l2 ll q0' hbr ho hE CTT hb1
      refine wp_region_held_drew (S := (fun w' => w'.cell? ⟨z, 0, none⟩ = some (.int .i64 (T : Int)) ∧ w'.cell? ⟨z, 1, none⟩ = some (.int .i64 (O : Int)) ∧ w'.cell? ⟨z, 2, none⟩ = some (.int .i64 (F : Int)) ∧ w'.cell? ⟨b, off + T * 2, none⟩ = some (.string s))) (by kernel_rfl) ?_ (fun hHeld => ?_)
      · go_keep
      refine wpAnyH_take (i := 0) (v := .slice va k vc) rfl (by kernel_rfl) (by kernel_rfl) (by kernel_rfl) (fun _ _ _ h => h) (Or.inl ⟨by kernel_rfl, fun w hS => by go_simp⟩) hHeld ?_
      change wpAnyH _ _ _ _ _ _ _ { tmps := List.toArray (.slice (some ⟨b, off, none⟩) ts.length cap :: _ :: _ :: _ :: _ :: _ :: _ :: .slice va k vc :: _ :: .pointer (some ⟨z, 0, none⟩) :: _ :: _ :: _ :: _ :: _ :: _ :: _ :: _ :: _ :: _ :: _ :: .slice va k vc :: _ :: _ :: _ :: _ :: _ :: _ :: _ :: _ :: _ :: _ :: _ :: _ :: _ :: _ :: _ :: _ :: _ :: _ :: _ :: _ :: _ :: _ :: _ :: _ :: _ :: []), defers := [] } _
      refine wpAnyH_take (i := 1) (v := .slice (some ⟨b, off, none⟩) ts.length cap) rfl (by kernel_rfl) (by kernel_rfl) (by kernel_rfl) (fun _ _ _ h => h) (Or.inl ⟨by kernel_rfl, fun w hS => by go_simp⟩) hHeld ?_
      change wpAnyH _ _ _ _ _ _ _ { tmps := List.toArray (.slice (some ⟨b, off, none⟩) ts.length cap :: _ :: _ :: _ :: _ :: _ :: _ :: .slice va k vc :: _ :: .pointer (some ⟨z, 0, none⟩) :: _ :: _ :: _ :: _ :: _ :: _ :: _ :: _ :: _ :: _ :: _ :: .slice va k vc :: .slice (some ⟨b, off, none⟩) ts.length cap :: _ :: _ :: _ :: _ :: _ :: _ :: _ :: _ :: _ :: _ :: _ :: _ :: _ :: _ :: _ :: _ :: _ :: _ :: _ :: _ :: _ :: _ :: _ :: _ :: []), defers := [] } _
      refine wpAnyH_take (i := 2) (v := .pointer (some ⟨z, 0, none⟩)) rfl (by kernel_rfl) (by kernel_rfl) (by kernel_rfl) (fun _ _ _ h => h) (Or.inl ⟨by kernel_rfl, fun w hS => by go_simp⟩) hHeld ?_
      change wpAnyH _ _ _ _ _ _ _ { tmps := List.toArray (.slice (some ⟨b, off, none⟩) ts.length cap :: _ :: _ :: _ :: _ :: _ :: _ :: .slice va k vc :: _ :: .pointer (some ⟨z, 0, none⟩) :: _ :: _ :: _ :: _ :: _ :: _ :: _ :: _ :: _ :: _ :: _ :: .slice va k vc :: .slice (some ⟨b, off, none⟩) ts.length cap :: .pointer (some ⟨z, 0, none⟩) :: _ :: _ :: _ :: _ :: _ :: _ :: _ :: _ :: _ :: _ :: _ :: _ :: _ :: _ :: _ :: _ :: _ :: _ :: _ :: _ :: _ :: _ :: _ :: []), defers := [] } _
      refine wpAnyH_take (i := 3) (v := .int .i64 (T : Int)) rfl (by kernel_rfl) (by kernel_rfl) (by kernel_rfl) (fun _ _ _ h => h) (Or.inl ⟨by kernel_rfl, fun w hS => by (obtain ⟨hS0, hS1, hS2, hS3⟩ := hS; go_simp)⟩) hHeld ?_
      change wpAnyH _ _ _ _ _ _ _ { tmps := List.toArray (.slice (some ⟨b, off, none⟩) ts.length cap :: _ :: _ :: _ :: _ :: _ :: _ :: .slice va k vc :: _ :: .pointer (some ⟨z, 0, none⟩) :: _ :: _ :: _ :: _ :: _ :: _ :: _ :: _ :: _ :: _ :: _ :: .slice va k vc :: .slice (some ⟨b, off, none⟩) ts.length cap :: .pointer (some ⟨z, 0, none⟩) :: .int .i64 (T : Int) :: _ :: _ :: _ :: _ :: _ :: _ :: _ :: _ :: _ :: _ :: _ :: _ :: _ :: _ :: _ :: _ :: _ :: _ :: _ :: _ :: _ :: _ :: []), defers := [] } _
      refine wpAnyH_take (i := 4) (v := .pointer (some ⟨b, off + T * 2, none⟩)) rfl (by kernel_rfl) (by kernel_rfl) (by kernel_rfl) (fun _ _ _ h => h) (Or.inl ⟨by kernel_rfl, fun w hS => by go_simp⟩) hHeld ?_
      change wpAnyH _ _ _ _ _ _ _ { tmps := List.toArray (.slice (some ⟨b, off, none⟩) ts.length cap :: _ :: _ :: _ :: _ :: _ :: _ :: .slice va k vc :: _ :: .pointer (some ⟨z, 0, none⟩) :: _ :: _ :: _ :: _ :: _ :: _ :: _ :: _ :: _ :: _ :: _ :: .slice va k vc :: .slice (some ⟨b, off, none⟩) ts.length cap :: .pointer (some ⟨z, 0, none⟩) :: .int .i64 (T : Int) :: .pointer (some ⟨b, off + T * 2, none⟩) :: _ :: _ :: _ :: _ :: _ :: _ :: _ :: _ :: _ :: _ :: _ :: _ :: _ :: _ :: _ :: _ :: _ :: _ :: _ :: _ :: _ :: []), defers := [] } _
      refine wpAnyH_take (i := 5) (v := .pointer (some ⟨b, off + T * 2, none⟩)) rfl (by kernel_rfl) (by kernel_rfl) (by kernel_rfl) (fun _ _ _ h => h) (Or.inl ⟨by kernel_rfl, fun w hS => by go_simp⟩) hHeld ?_
      change wpAnyH _ _ _ _ _ _ _ { tmps := List.toArray (.slice (some ⟨b, off, none⟩) ts.length cap :: _ :: _ :: _ :: _ :: _ :: _ :: .slice va k vc :: _ :: .pointer (some ⟨z, 0, none⟩) :: _ :: _ :: _ :: _ :: _ :: _ :: _ :: _ :: _ :: _ :: _ :: .slice va k vc :: .slice (some ⟨b, off, none⟩) ts.length cap :: .pointer (some ⟨z, 0, none⟩) :: .int .i64 (T : Int) :: .pointer (some ⟨b, off + T * 2, none⟩) :: .pointer (some ⟨b, off + T * 2, none⟩) :: _ :: _ :: _ :: _ :: _ :: _ :: _ :: _ :: _ :: _ :: _ :: _ :: _ :: _ :: _ :: _ :: _ :: _ :: _ :: _ :: []), defers := [] } _
      refine wpAnyH_take (i := 6) (v := .string s) rfl (by kernel_rfl) (by kernel_rfl) (by kernel_rfl) (fun _ _ _ h => h) (Or.inl ⟨by kernel_rfl, fun w hS => by (obtain ⟨hS0, hS1, hS2, hS3⟩ := hS; go_simp)⟩) hHeld ?_
      change wpAnyH _ _ _ _ _ _ _ { tmps := List.toArray (.slice (some ⟨b, off, none⟩) ts.length cap :: _ :: _ :: _ :: _ :: _ :: _ :: .slice va k vc :: _ :: .pointer (some ⟨z, 0, none⟩) :: _ :: _ :: _ :: _ :: _ :: _ :: _ :: _ :: _ :: _ :: _ :: .slice va k vc :: .slice (some ⟨b, off, none⟩) ts.length cap :: .pointer (some ⟨z, 0, none⟩) :: .int .i64 (T : Int) :: .pointer (some ⟨b, off + T * 2, none⟩) :: .pointer (some ⟨b, off + T * 2, none⟩) :: .string s :: _ :: _ :: _ :: _ :: _ :: _ :: _ :: _ :: _ :: _ :: _ :: _ :: _ :: _ :: _ :: _ :: _ :: _ :: _ :: []), defers := [] } _
      refine wpAnyH_take (i := 7) (v := .string (s ++ ⟨#[32]⟩)) rfl (by kernel_rfl) (by kernel_rfl) (by kernel_rfl) (fun _ _ _ h => h) (Or.inl ⟨by kernel_rfl, fun w hS => by go_simp⟩) hHeld ?_
      change wpAnyH _ _ _ _ _ _ _ { tmps := List.toArray (.slice (some ⟨b, off, none⟩) ts.length cap :: _ :: _ :: _ :: _ :: _ :: _ :: .slice va k vc :: _ :: .pointer (some ⟨z, 0, none⟩) :: _ :: _ :: _ :: _ :: _ :: _ :: _ :: _ :: _ :: _ :: _ :: .slice va k vc :: .slice (some ⟨b, off, none⟩) ts.length cap :: .pointer (some ⟨z, 0, none⟩) :: .int .i64 (T : Int) :: .pointer (some ⟨b, off + T * 2, none⟩) :: .pointer (some ⟨b, off + T * 2, none⟩) :: .string s :: .string (s ++ ⟨#[32]⟩) :: _ :: _ :: _ :: _ :: _ :: _ :: _ :: _ :: _ :: _ :: _ :: _ :: _ :: _ :: _ :: _ :: _ :: _ :: []), defers := [] } _
      refine wpAnyH_take (i := 8) (v := .agg #[.int .i64 (T : Int), .int .i64 (O : Int), .int .i64 (F : Int)]) rfl (by kernel_rfl) (by kernel_rfl) (by kernel_rfl) (fun _ _ _ h => h) (Or.inl ⟨by kernel_rfl, fun w hS => by (obtain ⟨hS0, hS1, hS2, hS3⟩ := hS; go_simp)⟩) hHeld ?_
      change wpAnyH _ _ _ _ _ _ _ { tmps := List.toArray (.slice (some ⟨b, off, none⟩) ts.length cap :: _ :: _ :: _ :: _ :: _ :: _ :: .slice va k vc :: _ :: .pointer (some ⟨z, 0, none⟩) :: _ :: _ :: _ :: _ :: _ :: _ :: _ :: _ :: _ :: _ :: _ :: .slice va k vc :: .slice (some ⟨b, off, none⟩) ts.length cap :: .pointer (some ⟨z, 0, none⟩) :: .int .i64 (T : Int) :: .pointer (some ⟨b, off + T * 2, none⟩) :: .pointer (some ⟨b, off + T * 2, none⟩) :: .string s :: .string (s ++ ⟨#[32]⟩) :: .agg #[.int .i64 (T : Int), .int .i64 (O : Int), .int .i64 (F : Int)] :: _ :: _ :: _ :: _ :: _ :: _ :: _ :: _ :: _ :: _ :: _ :: _ :: _ :: _ :: _ :: _ :: _ :: []), defers := [] } _
      refine wpAnyH_take (i := 9) (v := .slice (some ⟨b, off, none⟩) ts.length cap) rfl (by kernel_rfl) (by kernel_rfl) (by kernel_rfl) (fun _ _ _ h => h) (Or.inl ⟨by kernel_rfl, fun w hS => by go_simp⟩) hHeld ?_
      change wpAnyH _ _ _ _ _ _ _ { tmps := List.toArray (.slice (some ⟨b, off, none⟩) ts.length cap :: _ :: _ :: _ :: _ :: _ :: _ :: .slice va k vc :: _ :: .pointer (some ⟨z, 0, none⟩) :: _ :: _ :: _ :: _ :: _ :: _ :: _ :: _ :: _ :: _ :: _ :: .slice va k vc :: .slice (some ⟨b, off, none⟩) ts.length cap :: .pointer (some ⟨z, 0, none⟩) :: .int .i64 (T : Int) :: .pointer (some ⟨b, off + T * 2, none⟩) :: .pointer (some ⟨b, off + T * 2, none⟩) :: .string s :: .string (s ++ ⟨#[32]⟩) :: .agg #[.int .i64 (T : Int), .int .i64 (O : Int), .int .i64 (F : Int)] :: .slice (some ⟨b, off, none⟩) ts.length cap :: _ :: _ :: _ :: _ :: _ :: _ :: _ :: _ :: _ :: _ :: _ :: _ :: _ :: _ :: _ :: _ :: []), defers := [] } _
      refine wpAnyH_take (i := 15) (v := .agg #[.int .i64 (T : Int), .int .i64 (O : Int), .int .i64 (F : Int)]) rfl (by kernel_rfl) (by kernel_rfl) (by kernel_rfl) (fun _ _ _ h => h) (Or.inl ⟨by kernel_rfl, fun w hS => by (obtain ⟨hS0, hS1, hS2, hS3⟩ := hS; go_simp)⟩) hHeld ?_
      change wpAnyH _ _ _ _ _ _ _ { tmps := List.toArray (.slice (some ⟨b, off, none⟩) ts.length cap :: _ :: _ :: _ :: _ :: _ :: _ :: .slice va k vc :: _ :: .pointer (some ⟨z, 0, none⟩) :: _ :: _ :: _ :: _ :: _ :: _ :: _ :: _ :: _ :: _ :: _ :: .slice va k vc :: .slice (some ⟨b, off, none⟩) ts.length cap :: .pointer (some ⟨z, 0, none⟩) :: .int .i64 (T : Int) :: .pointer (some ⟨b, off + T * 2, none⟩) :: .pointer (some ⟨b, off + T * 2, none⟩) :: .string s :: .string (s ++ ⟨#[32]⟩) :: .agg #[.int .i64 (T : Int), .int .i64 (O : Int), .int .i64 (F : Int)] :: .slice (some ⟨b, off, none⟩) ts.length cap :: _ :: _ :: _ :: _ :: _ :: .agg #[.int .i64 (T : Int), .int .i64 (O : Int), .int .i64 (F : Int)] :: _ :: _ :: _ :: _ :: _ :: _ :: _ :: _ :: _ :: _ :: []), defers := [] } _
      refine wpAnyH_take (i := 16) (v := .slice (some ⟨b, off, none⟩) ts.length cap) rfl (by kernel_rfl) (by kernel_rfl) (by kernel_rfl) (fun _ _ _ h => h) (Or.inl ⟨by kernel_rfl, fun w hS => by go_simp⟩) hHeld ?_
      change wpAnyH _ _ _ _ _ _ _ { tmps := List.toArray (.slice (some ⟨b, off, none⟩) ts.length cap :: _ :: _ :: _ :: _ :: _ :: _ :: .slice va k vc :: _ :: .pointer (some ⟨z, 0, none⟩) :: _ :: _ :: _ :: _ :: _ :: _ :: _ :: _ :: _ :: _ :: _ :: .slice va k vc :: .slice (some ⟨b, off, none⟩) ts.length cap :: .pointer (some ⟨z, 0, none⟩) :: .int .i64 (T : Int) :: .pointer (some ⟨b, off + T * 2, none⟩) :: .pointer (some ⟨b, off + T * 2, none⟩) :: .string s :: .string (s ++ ⟨#[32]⟩) :: .agg #[.int .i64 (T : Int), .int .i64 (O : Int), .int .i64 (F : Int)] :: .slice (some ⟨b, off, none⟩) ts.length cap :: _ :: _ :: _ :: _ :: _ :: .agg #[.int .i64 (T : Int), .int .i64 (O : Int), .int .i64 (F : Int)] :: .slice (some ⟨b, off, none⟩) ts.length cap :: _ :: _ :: _ :: _ :: _ :: _ :: _ :: _ :: _ :: []), defers := [] } _
      refine wpAnyH_ready (rs := [10]) (by kernel_rfl) (by simp) ?_
      refine AllReadyH.cons rfl (fun KK hK => ?_) AllReadyH.nil
      go_simp
      go_wp2_with fail
      refine (CON _ h0).mono ?_
      rintro e1 wa ⟨rfl, hbx⟩
      have B1 := btrans h0 hbx
      clear hbx
      clear hHeld
      refine hK.out _ _ (⟨ble B1 z0, ble B1 z1, ble B1 z2, ble B1 q0⟩) (fun hHeld => ?_)
      clear hK KK
      change wpAnyH _ _ _ _ _ _ _ { tmps := List.toArray (.slice (some ⟨b, off, none⟩) ts.length cap :: _ :: _ :: _ :: _ :: _ :: _ :: .slice va k vc :: _ :: .pointer (some ⟨z, 0, none⟩) :: _ :: _ :: _ :: _ :: _ :: _ :: _ :: _ :: _ :: _ :: _ :: .slice va k vc :: .slice (some ⟨b, off, none⟩) ts.length cap :: .pointer (some ⟨z, 0, none⟩) :: .int .i64 (T : Int) :: .pointer (some ⟨b, off + T * 2, none⟩) :: .pointer (some ⟨b, off + T * 2, none⟩) :: .string s :: .string (s ++ ⟨#[32]⟩) :: .agg #[.int .i64 (T : Int), .int .i64 (O : Int), .int .i64 (F : Int)] :: .slice (some ⟨b, off, none⟩) ts.length cap :: .agg #[.int .i64 n1, .int .i64 a1, .int .i64 d1] :: _ :: _ :: _ :: _ :: .agg #[.int .i64 (T : Int), .int .i64 (O : Int), .int .i64 (F : Int)] :: .slice (some ⟨b, off, none⟩) ts.length cap :: _ :: _ :: _ :: _ :: _ :: _ :: _ :: _ :: _ :: []), defers := [] } _
      refine wpAnyH_take (i := 11) (v := .int .i64 d1) rfl (by kernel_rfl) (by kernel_rfl) (by kernel_rfl) (fun _ _ _ h => h) (Or.inl ⟨by kernel_rfl, fun w hS => by (go_simp; kernel_rfl)⟩) hHeld ?_
      change wpAnyH _ _ _ _ _ _ _ { tmps := List.toArray (.slice (some ⟨b, off, none⟩) ts.length cap :: _ :: _ :: _ :: _ :: _ :: _ :: .slice va k vc :: _ :: .pointer (some ⟨z, 0, none⟩) :: _ :: _ :: _ :: _ :: _ :: _ :: _ :: _ :: _ :: _ :: _ :: .slice va k vc :: .slice (some ⟨b, off, none⟩) ts.length cap :: .pointer (some ⟨z, 0, none⟩) :: .int .i64 (T : Int) :: .pointer (some ⟨b, off + T * 2, none⟩) :: .pointer (some ⟨b, off + T * 2, none⟩) :: .string s :: .string (s ++ ⟨#[32]⟩) :: .agg #[.int .i64 (T : Int), .int .i64 (O : Int), .int .i64 (F : Int)] :: .slice (some ⟨b, off, none⟩) ts.length cap :: .agg #[.int .i64 n1, .int .i64 a1, .int .i64 d1] :: .int .i64 d1 :: _ :: _ :: _ :: .agg #[.int .i64 (T : Int), .int .i64 (O : Int), .int .i64 (F : Int)] :: .slice (some ⟨b, off, none⟩) ts.length cap :: _ :: _ :: _ :: _ :: _ :: _ :: _ :: _ :: _ :: []), defers := [] } _
      refine wpAnyH_ready (rs := [12]) (by kernel_rfl) (by simp) ?_
      refine AllReadyH.cons rfl (fun KK hK => ?_) AllReadyH.nil
      go_simp
      go_wp2_with fail
      refine (CT1 _ B1).mono ?_
      rintro e1 wb ⟨rfl, hbx⟩
      have B2 := btrans B1 hbx
      clear hbx
      clear hHeld
      refine hK.out _ _ (⟨ble B2 z0, ble B2 z1, ble B2 z2, ble B2 q0⟩) (fun hHeld => ?_)
      clear hK KK
      change wpAnyH _ _ _ _ _ _ _ { tmps := List.toArray (.slice (some ⟨b, off, none⟩) ts.length cap :: _ :: _ :: _ :: _ :: _ :: _ :: .slice va k vc :: _ :: .pointer (some ⟨z, 0, none⟩) :: _ :: _ :: _ :: _ :: _ :: _ :: _ :: _ :: _ :: _ :: _ :: .slice va k vc :: .slice (some ⟨b, off, none⟩) ts.length cap :: .pointer (some ⟨z, 0, none⟩) :: .int .i64 (T : Int) :: .pointer (some ⟨b, off + T * 2, none⟩) :: .pointer (some ⟨b, off + T * 2, none⟩) :: .string s :: .string (s ++ ⟨#[32]⟩) :: .agg #[.int .i64 (T : Int), .int .i64 (O : Int), .int .i64 (F : Int)] :: .slice (some ⟨b, off, none⟩) ts.length cap :: .agg #[.int .i64 n1, .int .i64 a1, .int .i64 d1] :: .int .i64 d1 :: .string ⟨A.toArray⟩ :: _ :: _ :: .agg #[.int .i64 (T : Int), .int .i64 (O : Int), .int .i64 (F : Int)] :: .slice (some ⟨b, off, none⟩) ts.length cap :: _ :: _ :: _ :: _ :: _ :: _ :: _ :: _ :: _ :: []), defers := [] } _
      refine wpAnyH_take (i := 13) (v := .string (s ++ ⟨#[32]⟩ ++ ⟨A.toArray⟩)) rfl (by kernel_rfl) (by kernel_rfl) (by kernel_rfl) (fun _ _ _ h => h) (Or.inl ⟨by kernel_rfl, fun w hS => by go_simp⟩) hHeld ?_
      change wpAnyH _ _ _ _ _ _ _ { tmps := List.toArray (.slice (some ⟨b, off, none⟩) ts.length cap :: _ :: _ :: _ :: _ :: _ :: _ :: .slice va k vc :: _ :: .pointer (some ⟨z, 0, none⟩) :: _ :: _ :: _ :: _ :: _ :: _ :: _ :: _ :: _ :: _ :: _ :: .slice va k vc :: .slice (some ⟨b, off, none⟩) ts.length cap :: .pointer (some ⟨z, 0, none⟩) :: .int .i64 (T : Int) :: .pointer (some ⟨b, off + T * 2, none⟩) :: .pointer (some ⟨b, off + T * 2, none⟩) :: .string s :: .string (s ++ ⟨#[32]⟩) :: .agg #[.int .i64 (T : Int), .int .i64 (O : Int), .int .i64 (F : Int)] :: .slice (some ⟨b, off, none⟩) ts.length cap :: .agg #[.int .i64 n1, .int .i64 a1, .int .i64 d1] :: .int .i64 d1 :: .string ⟨A.toArray⟩ :: .string (s ++ ⟨#[32]⟩ ++ ⟨A.toArray⟩) :: _ :: .agg #[.int .i64 (T : Int), .int .i64 (O : Int), .int .i64 (F : Int)] :: .slice (some ⟨b, off, none⟩) ts.length cap :: _ :: _ :: _ :: _ :: _ :: _ :: _ :: _ :: _ :: []), defers := [] } _
      refine wpAnyH_take (i := 14) (v := .string (s ++ ⟨#[32]⟩ ++ ⟨A.toArray⟩ ++ ⟨#[45]⟩)) rfl (by kernel_rfl) (by kernel_rfl) (by kernel_rfl) (fun _ _ _ h => h) (Or.inl ⟨by kernel_rfl, fun w hS => by go_simp⟩) hHeld ?_
      change wpAnyH _ _ _ _ _ _ _ { tmps := List.toArray (.slice (some ⟨b, off, none⟩) ts.length cap :: _ :: _ :: _ :: _ :: _ :: _ :: .slice va k vc :: _ :: .pointer (some ⟨z, 0, none⟩) :: _ :: _ :: _ :: _ :: _ :: _ :: _ :: _ :: _ :: _ :: _ :: .slice va k vc :: .slice (some ⟨b, off, none⟩) ts.length cap :: .pointer (some ⟨z, 0, none⟩) :: .int .i64 (T : Int) :: .pointer (some ⟨b, off + T * 2, none⟩) :: .pointer (some ⟨b, off + T * 2, none⟩) :: .string s :: .string (s ++ ⟨#[32]⟩) :: .agg #[.int .i64 (T : Int), .int .i64 (O : Int), .int .i64 (F : Int)] :: .slice (some ⟨b, off, none⟩) ts.length cap :: .agg #[.int .i64 n1, .int .i64 a1, .int .i64 d1] :: .int .i64 d1 :: .string ⟨A.toArray⟩ :: .string (s ++ ⟨#[32]⟩ ++ ⟨A.toArray⟩) :: .string (s ++ ⟨#[32]⟩ ++ ⟨A.toArray⟩ ++ ⟨#[45]⟩) :: .agg #[.int .i64 (T : Int), .int .i64 (O : Int), .int .i64 (F : Int)] :: .slice (some ⟨b, off, none⟩) ts.length cap :: _ :: _ :: _ :: _ :: _ :: _ :: _ :: _ :: _ :: []), defers := [] } _
      refine wpAnyH_ready (rs := [17]) (by kernel_rfl) (by simp) ?_
      refine AllReadyH.cons rfl (fun KK hK => ?_) AllReadyH.nil
      go_simp
      go_wp2_with fail
      refine (COF _ B2).mono ?_
      rintro e1 wc ⟨rfl, hbx⟩
      have B3 := btrans B2 hbx
      clear hbx
      clear hHeld
      refine hK.out _ _ (⟨ble B3 z0, ble B3 z1, ble B3 z2, ble B3 q0⟩) (fun hHeld => ?_)
      clear hK KK
      change wpAnyH _ _ _ _ _ _ _ { tmps := List.toArray (.slice (some ⟨b, off, none⟩) ts.length cap :: _ :: _ :: _ :: _ :: _ :: _ :: .slice va k vc :: _ :: .pointer (some ⟨z, 0, none⟩) :: _ :: _ :: _ :: _ :: _ :: _ :: _ :: _ :: _ :: _ :: _ :: .slice va k vc :: .slice (some ⟨b, off, none⟩) ts.length cap :: .pointer (some ⟨z, 0, none⟩) :: .int .i64 (T : Int) :: .pointer (some ⟨b, off + T * 2, none⟩) :: .pointer (some ⟨b, off + T * 2, none⟩) :: .string s :: .string (s ++ ⟨#[32]⟩) :: .agg #[.int .i64 (T : Int), .int .i64 (O : Int), .int .i64 (F : Int)] :: .slice (some ⟨b, off, none⟩) ts.length cap :: .agg #[.int .i64 n1, .int .i64 a1, .int .i64 d1] :: .int .i64 d1 :: .string ⟨A.toArray⟩ :: .string (s ++ ⟨#[32]⟩ ++ ⟨A.toArray⟩) :: .string (s ++ ⟨#[32]⟩ ++ ⟨A.toArray⟩ ++ ⟨#[45]⟩) :: .agg #[.int .i64 (T : Int), .int .i64 (O : Int), .int .i64 (F : Int)] :: .slice (some ⟨b, off, none⟩) ts.length cap :: .agg #[.int .i64 n2, .int .i64 a2, .int .i64 d2] :: _ :: _ :: _ :: _ :: _ :: _ :: _ :: _ :: []), defers := [] } _
      refine wpAnyH_take (i := 18) (v := .int .i64 a2) rfl (by kernel_rfl) (by kernel_rfl) (by kernel_rfl) (fun _ _ _ h => h) (Or.inl ⟨by kernel_rfl, fun w hS => by (go_simp; kernel_rfl)⟩) hHeld ?_
      change wpAnyH _ _ _ _ _ _ _ { tmps := List.toArray (.slice (some ⟨b, off, none⟩) ts.length cap :: _ :: _ :: _ :: _ :: _ :: _ :: .slice va k vc :: _ :: .pointer (some ⟨z, 0, none⟩) :: _ :: _ :: _ :: _ :: _ :: _ :: _ :: _ :: _ :: _ :: _ :: .slice va k vc :: .slice (some ⟨b, off, none⟩) ts.length cap :: .pointer (some ⟨z, 0, none⟩) :: .int .i64 (T : Int) :: .pointer (some ⟨b, off + T * 2, none⟩) :: .pointer (some ⟨b, off + T * 2, none⟩) :: .string s :: .string (s ++ ⟨#[32]⟩) :: .agg #[.int .i64 (T : Int), .int .i64 (O : Int), .int .i64 (F : Int)] :: .slice (some ⟨b, off, none⟩) ts.length cap :: .agg #[.int .i64 n1, .int .i64 a1, .int .i64 d1] :: .int .i64 d1 :: .string ⟨A.toArray⟩ :: .string (s ++ ⟨#[32]⟩ ++ ⟨A.toArray⟩) :: .string (s ++ ⟨#[32]⟩ ++ ⟨A.toArray⟩ ++ ⟨#[45]⟩) :: .agg #[.int .i64 (T : Int), .int .i64 (O : Int), .int .i64 (F : Int)] :: .slice (some ⟨b, off, none⟩) ts.length cap :: .agg #[.int .i64 n2, .int .i64 a2, .int .i64 d2] :: .int .i64 a2 :: _ :: _ :: _ :: _ :: _ :: _ :: _ :: []), defers := [] } _
      refine wpAnyH_ready (rs := [19]) (by kernel_rfl) (by simp) ?_
      refine AllReadyH.cons rfl (fun KK hK => ?_) AllReadyH.nil
      go_simp
      go_wp2_with fail
      refine (CT2 _ B3).mono ?_
      rintro e1 wd ⟨rfl, hbx⟩
      have B4 := btrans B3 hbx
      clear hbx
      clear hHeld
      refine hK.out _ _ (⟨ble B4 z0, ble B4 z1, ble B4 z2, ble B4 q0⟩) (fun hHeld => ?_)
      clear hK KK
      change wpAnyH _ _ _ _ _ _ _ { tmps := List.toArray (.slice (some ⟨b, off, none⟩) ts.length cap :: _ :: _ :: _ :: _ :: _ :: _ :: .slice va k vc :: _ :: .pointer (some ⟨z, 0, none⟩) :: _ :: _ :: _ :: _ :: _ :: _ :: _ :: _ :: _ :: _ :: _ :: .slice va k vc :: .slice (some ⟨b, off, none⟩) ts.length cap :: .pointer (some ⟨z, 0, none⟩) :: .int .i64 (T : Int) :: .pointer (some ⟨b, off + T * 2, none⟩) :: .pointer (some ⟨b, off + T * 2, none⟩) :: .string s :: .string (s ++ ⟨#[32]⟩) :: .agg #[.int .i64 (T : Int), .int .i64 (O : Int), .int .i64 (F : Int)] :: .slice (some ⟨b, off, none⟩) ts.length cap :: .agg #[.int .i64 n1, .int .i64 a1, .int .i64 d1] :: .int .i64 d1 :: .string ⟨A.toArray⟩ :: .string (s ++ ⟨#[32]⟩ ++ ⟨A.toArray⟩) :: .string (s ++ ⟨#[32]⟩ ++ ⟨A.toArray⟩ ++ ⟨#[45]⟩) :: .agg #[.int .i64 (T : Int), .int .i64 (O : Int), .int .i64 (F : Int)] :: .slice (some ⟨b, off, none⟩) ts.length cap :: .agg #[.int .i64 n2, .int .i64 a2, .int .i64 d2] :: .int .i64 a2 :: .string ⟨B.toArray⟩ :: _ :: _ :: _ :: _ :: _ :: _ :: []), defers := [] } _
      refine wpAnyH_take (i := 20) (v := .string (s ++ ⟨#[32]⟩ ++ ⟨A.toArray⟩ ++ ⟨#[45]⟩ ++ ⟨B.toArray⟩)) rfl (by kernel_rfl) (by kernel_rfl) (by kernel_rfl) (fun _ _ _ h => h) (Or.inl ⟨by kernel_rfl, fun w hS => by go_simp⟩) hHeld ?_
      change wpAnyH _ _ _ _ _ _ _ { tmps := List.toArray (.slice (some ⟨b, off, none⟩) ts.length cap :: _ :: _ :: _ :: _ :: _ :: _ :: .slice va k vc :: _ :: .pointer (some ⟨z, 0, none⟩) :: _ :: _ :: _ :: _ :: _ :: _ :: _ :: _ :: _ :: _ :: _ :: .slice va k vc :: .slice (some ⟨b, off, none⟩) ts.length cap :: .pointer (some ⟨z, 0, none⟩) :: .int .i64 (T : Int) :: .pointer (some ⟨b, off + T * 2, none⟩) :: .pointer (some ⟨b, off + T * 2, none⟩) :: .string s :: .string (s ++ ⟨#[32]⟩) :: .agg #[.int .i64 (T : Int), .int .i64 (O : Int), .int .i64 (F : Int)] :: .slice (some ⟨b, off, none⟩) ts.length cap :: .agg #[.int .i64 n1, .int .i64 a1, .int .i64 d1] :: .int .i64 d1 :: .string ⟨A.toArray⟩ :: .string (s ++ ⟨#[32]⟩ ++ ⟨A.toArray⟩) :: .string (s ++ ⟨#[32]⟩ ++ ⟨A.toArray⟩ ++ ⟨#[45]⟩) :: .agg #[.int .i64 (T : Int), .int .i64 (O : Int), .int .i64 (F : Int)] :: .slice (some ⟨b, off, none⟩) ts.length cap :: .agg #[.int .i64 n2, .int .i64 a2, .int .i64 d2] :: .int .i64 a2 :: .string ⟨B.toArray⟩ :: .string (s ++ ⟨#[32]⟩ ++ ⟨A.toArray⟩ ++ ⟨#[45]⟩ ++ ⟨B.toArray⟩) :: _ :: _ :: _ :: _ :: _ :: []), defers := [] } _
      refine wpAnyH_ready (rs := [21]) (by kernel_rfl) (by simp) ?_
      refine AllReadyH.cons rfl (fun KK hK => ?_) AllReadyH.nil
      go_simp
      have B5 := btrans B4 (balloc wd (.cells #[.string (s ++ ⟨#[32]⟩ ++ ⟨A.toArray⟩ ++ ⟨#[45]⟩ ++ ⟨B.toArray⟩)] 9))
      clear hHeld
      refine hK.out _ _ (⟨ble B5 z0, ble B5 z1, ble B5 z2, ble B5 q0⟩) (fun hHeld => ?_)
      clear hK KK
      change wpAnyH _ _ _ _ _ _ _ { tmps := List.toArray (.slice (some ⟨b, off, none⟩) ts.length cap :: _ :: _ :: _ :: _ :: _ :: _ :: .slice va k vc :: _ :: .pointer (some ⟨z, 0, none⟩) :: _ :: _ :: _ :: _ :: _ :: _ :: _ :: _ :: _ :: _ :: _ :: .slice va k vc :: .slice (some ⟨b, off, none⟩) ts.length cap :: .pointer (some ⟨z, 0, none⟩) :: .int .i64 (T : Int) :: .pointer (some ⟨b, off + T * 2, none⟩) :: .pointer (some ⟨b, off + T * 2, none⟩) :: .string s :: .string (s ++ ⟨#[32]⟩) :: .agg #[.int .i64 (T : Int), .int .i64 (O : Int), .int .i64 (F : Int)] :: .slice (some ⟨b, off, none⟩) ts.length cap :: .agg #[.int .i64 n1, .int .i64 a1, .int .i64 d1] :: .int .i64 d1 :: .string ⟨A.toArray⟩ :: .string (s ++ ⟨#[32]⟩ ++ ⟨A.toArray⟩) :: .string (s ++ ⟨#[32]⟩ ++ ⟨A.toArray⟩ ++ ⟨#[45]⟩) :: .agg #[.int .i64 (T : Int), .int .i64 (O : Int), .int .i64 (F : Int)] :: .slice (some ⟨b, off, none⟩) ts.length cap :: .agg #[.int .i64 n2, .int .i64 a2, .int .i64 d2] :: .int .i64 a2 :: .string ⟨B.toArray⟩ :: .string (s ++ ⟨#[32]⟩ ++ ⟨A.toArray⟩ ++ ⟨#[45]⟩ ++ ⟨B.toArray⟩) :: .slice (some ⟨wd.heap.size, 0, none⟩) 1 1 :: _ :: _ :: _ :: _ :: []), defers := [] } _
      refine wpAnyH_ready (rs := [22]) (by kernel_rfl) (by simp) ?_
      refine AllReadyH.cons rfl (fun KK hK => ?_) AllReadyH.nil
      refine step_append_lies _ (by rfl) _ _ _ (by rfl) w1.heap.size 9 i0 (.string ⟨#[]⟩) 1 16 Tryz.underlying64 hi hz0 hz1 hz2 rfl (by decide) (.slice va k vc) k (((es.take k).map (wordL ts)).map Value.string) (by rfl) (by exact (own_keep oV B4).alloc _) ⟨wd.heap.size, 0, none⟩ 1 1 [.string (s ++ ⟨#[32]⟩ ++ ⟨A.toArray⟩ ++ ⟨#[45]⟩ ++ ⟨B.toArray⟩)] rfl rfl (by intro i u hj; match i, hj with | 0, hj => simp at hj; subst hj; simp [Addr.add]) (by intro u hu; simp at hu; subst hu; rfl) (by decide) (by unfold maxLen; omega) (by omega) (by have := (btrans hbV B4).size; simp; omega) (wd.heap.size + 1) (by simp) ?_
      intro gg cap2 w9 hown hgrow hat hlt2
      clear hHeld
      have hOw : ∀ j, (Value.slice va k vc).ownBlock = some j → w1.heap.size ≤ j ∧ j < z := fun j hj => ⟨hfrom j hj, hvz j hj⟩
      have L9 := farB hgrow (keepB B5 LB) (fun j hj => by have := hOw j hj; omega)
      obtain ⟨⟨y0, y1, y2⟩, -⟩ := threeC L9
      have y3 := farC hgrow (ble B5 q0) (fun j hj => by have := hOw j hj; omega)
      have O9 : w9.ownsRow w1.heap.size 9 1 (.slice (some ⟨gg, 0, none⟩) (k + 1) cap2) (k + 1) (((es.take (k + 1)).map (wordL ts)).map Value.string) := by rw [S1.out, hL.out, ← text_leg]; exact hown
      have B9 : Below w1.heap.size w1 w9 := (btrans hbV B5).grown hgrow (btrans hbV B5).size (fun j hj => (hOw j hj).1)
      refine hK.out _ _ (⟨y0, y1, y2, y3⟩) (fun hHeld => ?_)
      clear hK KK
      change wpAnyH _ _ _ _ _ _ _ { tmps := List.toArray (.slice (some ⟨b, off, none⟩) ts.length cap :: _ :: _ :: _ :: _ :: _ :: _ :: .slice va k vc :: _ :: .pointer (some ⟨z, 0, none⟩) :: _ :: _ :: _ :: _ :: _ :: _ :: _ :: _ :: _ :: _ :: _ :: .slice va k vc :: .slice (some ⟨b, off, none⟩) ts.length cap :: .pointer (some ⟨z, 0, none⟩) :: .int .i64 (T : Int) :: .pointer (some ⟨b, off + T * 2, none⟩) :: .pointer (some ⟨b, off + T * 2, none⟩) :: .string s :: .string (s ++ ⟨#[32]⟩) :: .agg #[.int .i64 (T : Int), .int .i64 (O : Int), .int .i64 (F : Int)] :: .slice (some ⟨b, off, none⟩) ts.length cap :: .agg #[.int .i64 n1, .int .i64 a1, .int .i64 d1] :: .int .i64 d1 :: .string ⟨A.toArray⟩ :: .string (s ++ ⟨#[32]⟩ ++ ⟨A.toArray⟩) :: .string (s ++ ⟨#[32]⟩ ++ ⟨A.toArray⟩ ++ ⟨#[45]⟩) :: .agg #[.int .i64 (T : Int), .int .i64 (O : Int), .int .i64 (F : Int)] :: .slice (some ⟨b, off, none⟩) ts.length cap :: .agg #[.int .i64 n2, .int .i64 a2, .int .i64 d2] :: .int .i64 a2 :: .string ⟨B.toArray⟩ :: .string (s ++ ⟨#[32]⟩ ++ ⟨A.toArray⟩ ++ ⟨#[45]⟩ ++ ⟨B.toArray⟩) :: .slice (some ⟨wd.heap.size, 0, none⟩) 1 1 :: .slice (some ⟨gg, 0, none⟩) (k + 1) cap2 :: _ :: _ :: _ :: []), defers := [] } _
      refine wpAnyH_take (i := 23) (v := .slice (some ⟨gg, 0, none⟩) (k + 1) cap2) rfl (by kernel_rfl) (by kernel_rfl) (by kernel_rfl) (fun _ _ _ h => h) (Or.inl ⟨by kernel_rfl, fun w hS => by go_simp⟩) hHeld ?_
      change wpAnyH _ _ _ _ _ _ _ { tmps := List.toArray (.slice (some ⟨b, off, none⟩) ts.length cap :: _ :: _ :: _ :: _ :: _ :: _ :: .slice (some ⟨gg, 0, none⟩) (k + 1) cap2 :: _ :: .pointer (some ⟨z, 0, none⟩) :: _ :: _ :: _ :: _ :: _ :: _ :: _ :: _ :: _ :: _ :: _ :: .slice va k vc :: .slice (some ⟨b, off, none⟩) ts.length cap :: .pointer (some ⟨z, 0, none⟩) :: .int .i64 (T : Int) :: .pointer (some ⟨b, off + T * 2, none⟩) :: .pointer (some ⟨b, off + T * 2, none⟩) :: .string s :: .string (s ++ ⟨#[32]⟩) :: .agg #[.int .i64 (T : Int), .int .i64 (O : Int), .int .i64 (F : Int)] :: .slice (some ⟨b, off, none⟩) ts.length cap :: .agg #[.int .i64 n1, .int .i64 a1, .int .i64 d1] :: .int .i64 d1 :: .string ⟨A.toArray⟩ :: .string (s ++ ⟨#[32]⟩ ++ ⟨A.toArray⟩) :: .string (s ++ ⟨#[32]⟩ ++ ⟨A.toArray⟩ ++ ⟨#[45]⟩) :: .agg #[.int .i64 (T : Int), .int .i64 (O : Int), .int .i64 (F : Int)] :: .slice (some ⟨b, off, none⟩) ts.length cap :: .agg #[.int .i64 n2, .int .i64 a2, .int .i64 d2] :: .int .i64 a2 :: .string ⟨B.toArray⟩ :: .string (s ++ ⟨#[32]⟩ ++ ⟨A.toArray⟩ ++ ⟨#[45]⟩ ++ ⟨B.toArray⟩) :: .slice (some ⟨wd.heap.size, 0, none⟩) 1 1 :: .slice (some ⟨gg, 0, none⟩) (k + 1) cap2 :: _ :: _ :: _ :: []), defers := [] } _
      refine wpAnyH_done (by kernel_rfl) ?_ _
      clear y0 y1 y2 y3 L9 hown hgrow hat hlt2 B1 B2 B3 B4 B5 hL S1 CON COF CT1 CT2 z0 z1 z2 q0 oV hbV
      go_wp2
      go_roundw
      case rel => exact ⟨k + 1, by omega, by go_num, O9, B9⟩
      case measure => simp [intOf]; omega
    · obtain rfl : k = es.length := by omega
      rw [List.take_length] at ho
      have R : Hid (JtAns ts es ch (jnL ts es)) := hide (.inl ⟨hP.out, rfl⟩)
      have hb9 := btrans hb hbr
      have hjl : Hid ((jnL ts es).length ≤ 1000) := hide (jnL_le hG.out hnm.out h5)
      rcases ho.2 with ⟨rfl, h0⟩ | ⟨g, c2, cur, rfl, hg1, hg2, hg3, _⟩
      · have hes : es = [] := List.length_eq_zero_iff.1 h0
        subst hes
        have CJ := Tryz.strings_Join_none none 0 ⟨#[32, 47, 32]⟩ wr
        rw [jnL_nil] at R
        go_wp2_with fail
        refine CJ.mono ?_
        rintro e w6 ⟨rfl, hw⟩
        subst w6
        go_wp2
        go_ret
        exact ⟨[], rfl, R.out, hb9⟩
      have hcells : ∀ (j : Nat) x, (es.map (wordL ts))[j]? = some x → wr.cell? ⟨g, 0 + j, none⟩ = some (.string x) := fun j x hx => by
        have hj : j < (es.map (wordL ts)).length := (List.getElem?_eq_some_iff.1 hx).1
        rw [List.length_map] at hj
        rw [Nat.zero_add, ho.cellAt j (by omega), List.getElem?_map, hx]; rfl
      have eJ : Lib.join ((es.map (wordL ts)).map (·.data.toList)) (⟨#[32, 47, 32]⟩ : ByteArray).data.toList = jnL ts es := by
        unfold jnL
        rw [List.map_map]
        rfl
      have CJ := Tryz.strings_Join g 0 c2 (es.map (wordL ts)) ⟨#[32, 47, 32]⟩ wr hcells (lt_of_block hg2) (by rw [List.length_map]; omega) (by rw [List.length_map]; exact hg3) (by rw [eJ]; have := hjl.out; omega)
      rw [eJ, List.length_map] at CJ
      clear hcells ho hg2 hz' hz eJ
      go_wp2_with fail
      refine CJ.mono ?_
      rintro e w6 ⟨rfl, hb6⟩
      have hb7 := btrans hb9 hb6
      clear CJ
      go_wp2
      go_ret
      exact ⟨_, rfl, R.out, hb7⟩
end Go.Proofs.YtajeiiebddnchaaGreatDoor.J
