/- runOk of the program. -/
import Derived.Test.YthfknkmabjgklaaLG
import Derived.Test.YthfknkmabjgklaaRK
import Derived.Deep.RegionHeld3
namespace Go.Proofs.Ythfknkmabjgklaa
open Go.RowKit
theorem blk4 {w : World} {g : Nat} {c0 c1 c2 c3 : Value} {t : TypeId} (h : w.heap[g]? = some (.cells #[c0, c1, c2, c3] t (0, 0))) :
    (w.cell? ⟨g, 0, none⟩ = some c0 ∧ w.cell? ⟨g, 1, none⟩ = some c1 ∧ w.cell? ⟨g, 2, none⟩ = some c2 ∧ w.cell? ⟨g, 3, none⟩ = some c3) ∧ True :=
  ⟨⟨Go.Joins.cell_of_block h 0, Go.Joins.cell_of_block h 1, Go.Joins.cell_of_block h 2, Go.Joins.cell_of_block h 3⟩, trivial⟩
/-- Rows of uses, to be read. -/
def LegV (w : World) (g N : Nat) (lg : Nat → List RideV) : Prop := ∀ i, i < N → ∃ a c, w.cell? ⟨g, i, none⟩ = some (.slice a (lg i).length c) ∧ Rides w a (lg i)
theorem LegV.below {w w' : World} {g N : Nat} {lg : Nat → List RideV} (h : LegV w g N lg) (hb : Below w.heap.size w w') : LegV w' g N lg := fun i hi => by
  obtain ⟨a, c, h1, h2⟩ := h i hi
  exact ⟨a, c, ble hb h1, h2.below hb⟩
theorem LegT.view {B B2 : Nat} {w : World} {g N : Nat} {vs : List Value} {us : List RideV} (h : LegT B B2 w g N vs us) : LegV w g N (rowU us) := fun i hi => by
  have hv : i < vs.length := by rw [h.len]; exact hi
  have h1 := h.each i hv
  obtain ⟨a, c, e⟩ := own_form h1
  refine ⟨a, c, ?_, ?_⟩
  · rw [h.own.cellAt i (by omega), List.getElem?_eq_getElem hv, e]
  · rw [e] at h1; exact Rides.own h1
def runB (N : Nat) (lg : Nat → List RideV) (r : RunV) : Bool := inB r.t 0 ((N : Int) - 1) && (inB r.l 0 (((lg r.t.toNat).length : Int) - 1) && decide (r.f < r.o))
set_option maxRecDepth 100000 in
set_option maxHeartbeats 3200000 in
theorem cRunOk (g N : Nat) (lg : Nat → List RideV) (t l f o : Int) (w : World) (h : LegV w g N lg) (hN : N ≤ 1048576) (hlg : ∀ i, (lg i).length ≤ 1048576) :
    Calls Try.prog 50 #[.slice (some ⟨g, 0, none⟩) N N, .agg #[.int .i64 t, .int .i64 l, .int .i64 f, .int .i64 o]] w fun e w' => e = .returned (.bool (runB N lg ⟨t, l, f, o⟩)) ∧ Below w.heap.size w w' := by
  have HB := balloc w (.cells #[.int .i64 t, .int .i64 l, .int .i64 f, .int .i64 o] 72)
  have hX := one_block w (.cells #[.int .i64 t, .int .i64 l, .int .i64 f, .int .i64 o] 72)
  have hV := h.below HB
  have E0 : Hid (runB N lg ⟨t, l, f, o⟩ = (inB t 0 ((N : Int) - 1) && (inB l 0 (((lg t.toNat).length : Int) - 1) && decide (f < o)))) := hide rfl
  have hwN : IntKind.i64.wrap ((N : Int) - 1) = (N : Int) - 1 := wrap_in _ (by omega) (by omega)
  go_enter Try.func50, Try.ntmps50
  go_wp2_with fail
  generalize w.alloc (.cells #[.int .i64 t, .int .i64 l, .int .i64 f, .int .i64 o] 72) = wu at *
  generalize hrb : w.heap.size = rb at *
  replace hrb := hide hrb
  obtain ⟨⟨x0, x1, x2, x3⟩, -⟩ := blk4 hX
  cases hT : inB t 0 ((N : Int) - 1)
  · have E : Hid (runB N lg ⟨t, l, f, o⟩ = false) := hide (by rw [E0.out, hT]; rfl)
    clear E0 hV h
    refine wp_region_held_drew (S := (fun w' => w'.cell? ⟨rb, 0, none⟩ = some (.int .i64 t) ∧ w'.cell? ⟨rb, 1, none⟩ = some (.int .i64 l) ∧ w'.cell? ⟨rb, 2, none⟩ = some (.int .i64 f) ∧ w'.cell? ⟨rb, 3, none⟩ = some (.int .i64 o))) (by kernel_rfl) ?_ (fun hHeld => ?_)
    · exact ⟨x0, x1, x2, x3⟩
    have Bd : Below wu.heap.size wu wu.drew := (Below.refl _ _).drew
    have HBd := HB.drew
    have d0 := ble Bd x0
    have d1 := ble Bd x1
    have d2 := ble Bd x2
    have d3 := ble Bd x3
    generalize wu.drew = wd at *
    refine wpAnyH_take (i := 0) (v := .pointer (some ⟨rb, 0, none⟩)) rfl (by kernel_rfl) (by kernel_rfl) (by kernel_rfl) (fun _ _ _ h => h) (Or.inl ⟨by kernel_rfl, fun w hS => by go_simp⟩) hHeld ?_
    change wpAnyH _ _ _ _ _ _ _ { tmps := List.toArray (_ :: _ :: _ :: _ :: _ :: .pointer (some ⟨rb, 0, none⟩) :: _ :: _ :: _ :: _ :: _ :: _ :: _ :: _ :: _ :: _ :: _ :: _ :: _ :: _ :: _ :: _ :: _ :: _ :: _ :: _ :: _ :: _ :: _ :: _ :: []), defers := [] } _
    refine wpAnyH_take (i := 1) (v := .int .i64 t) rfl (by kernel_rfl) (by kernel_rfl) (by kernel_rfl) (fun _ _ _ h => h) (Or.inl ⟨by kernel_rfl, fun w hS => by (obtain ⟨hS0, hS1, hS2, hS3⟩ := hS; go_simp)⟩) hHeld ?_
    change wpAnyH _ _ _ _ _ _ _ { tmps := List.toArray (_ :: _ :: _ :: _ :: _ :: .pointer (some ⟨rb, 0, none⟩) :: .int .i64 t :: _ :: _ :: _ :: _ :: _ :: _ :: _ :: _ :: _ :: _ :: _ :: _ :: _ :: _ :: _ :: _ :: _ :: _ :: _ :: _ :: _ :: _ :: _ :: []), defers := [] } _
    refine wpAnyH_take (i := 2) (v := .slice (some ⟨g, 0, none⟩) N N) rfl (by kernel_rfl) (by kernel_rfl) (by kernel_rfl) (fun _ _ _ h => h) (Or.inl ⟨by kernel_rfl, fun w hS => by go_simp⟩) hHeld ?_
    change wpAnyH _ _ _ _ _ _ _ { tmps := List.toArray (_ :: _ :: _ :: _ :: _ :: .pointer (some ⟨rb, 0, none⟩) :: .int .i64 t :: .slice (some ⟨g, 0, none⟩) N N :: _ :: _ :: _ :: _ :: _ :: _ :: _ :: _ :: _ :: _ :: _ :: _ :: _ :: _ :: _ :: _ :: _ :: _ :: _ :: _ :: _ :: _ :: []), defers := [] } _
    refine wpAnyH_take (i := 3) (v := .int .i64 (N : Int)) rfl (by kernel_rfl) (by kernel_rfl) (by kernel_rfl) (fun _ _ _ h => h) (Or.inl ⟨by kernel_rfl, fun w hS => by go_simp⟩) hHeld ?_
    change wpAnyH _ _ _ _ _ _ _ { tmps := List.toArray (_ :: _ :: _ :: _ :: _ :: .pointer (some ⟨rb, 0, none⟩) :: .int .i64 t :: .slice (some ⟨g, 0, none⟩) N N :: .int .i64 (N : Int) :: _ :: _ :: _ :: _ :: _ :: _ :: _ :: _ :: _ :: _ :: _ :: _ :: _ :: _ :: _ :: _ :: _ :: _ :: _ :: _ :: _ :: []), defers := [] } _
    refine wpAnyH_take (i := 4) (v := .int .i64 ((N : Int) - 1)) rfl (by kernel_rfl) (by kernel_rfl) (by kernel_rfl) (fun _ _ _ h => h) (Or.inl ⟨by kernel_rfl, fun w hS => by go_simp⟩) hHeld ?_
    change wpAnyH _ _ _ _ _ _ _ { tmps := List.toArray (_ :: _ :: _ :: _ :: _ :: .pointer (some ⟨rb, 0, none⟩) :: .int .i64 t :: .slice (some ⟨g, 0, none⟩) N N :: .int .i64 (N : Int) :: .int .i64 ((N : Int) - 1) :: _ :: _ :: _ :: _ :: _ :: _ :: _ :: _ :: _ :: _ :: _ :: _ :: _ :: _ :: _ :: _ :: _ :: _ :: _ :: _ :: []), defers := [] } _
    refine wpAnyH_ready (rs := [5]) (by kernel_rfl) (by simp) ?_
    refine (AllReadyH.cons rfl (fun KK hK => ?_) AllReadyH.nil)
    go_simp
    refine (cWithin t 0 ((N : Int) - 1) wd).mono ?_
    rintro e wp ⟨rfl, hwp⟩
    subst wp
    rw [hT]
    go_wp2_with fail
    clear hHeld
    refine hK.out _ _ (⟨d0, d1, d2, d3⟩) (fun hHeld => ?_)
    clear hK KK
    change wpAnyH _ _ _ _ _ _ _ { tmps := List.toArray (_ :: _ :: _ :: _ :: _ :: .pointer (some ⟨rb, 0, none⟩) :: .int .i64 t :: .slice (some ⟨g, 0, none⟩) N N :: .int .i64 (N : Int) :: .int .i64 ((N : Int) - 1) :: .bool false :: _ :: _ :: _ :: _ :: _ :: _ :: _ :: _ :: _ :: _ :: _ :: _ :: _ :: _ :: _ :: _ :: _ :: _ :: _ :: []), defers := [] } _
    refine wpAnyH_take (i := 6) (v := .bool false) rfl (by kernel_rfl) (by kernel_rfl) (by kernel_rfl) (fun _ _ _ h => h) (Or.inl ⟨by kernel_rfl, fun w hS => by go_simp⟩) hHeld ?_
    change wpAnyH _ _ _ _ _ _ _ { tmps := List.toArray (_ :: _ :: _ :: _ :: _ :: .pointer (some ⟨rb, 0, none⟩) :: .int .i64 t :: .slice (some ⟨g, 0, none⟩) N N :: .int .i64 (N : Int) :: .int .i64 ((N : Int) - 1) :: .bool false :: .bool false :: _ :: _ :: _ :: _ :: _ :: _ :: _ :: _ :: _ :: _ :: _ :: _ :: _ :: _ :: _ :: _ :: _ :: _ :: []), defers := [] } _
    refine wpAnyH_take (i := 7) (v := undef) rfl (by kernel_rfl) (by kernel_rfl) (by kernel_rfl) (fun _ _ _ h => h) (Or.inr ⟨by kernel_rfl, rfl⟩) hHeld ?_
    change wpAnyH _ _ _ _ _ _ _ { tmps := List.toArray (_ :: _ :: _ :: _ :: _ :: .pointer (some ⟨rb, 0, none⟩) :: .int .i64 t :: .slice (some ⟨g, 0, none⟩) N N :: .int .i64 (N : Int) :: .int .i64 ((N : Int) - 1) :: .bool false :: .bool false :: undef :: _ :: _ :: _ :: _ :: _ :: _ :: _ :: _ :: _ :: _ :: _ :: _ :: _ :: _ :: _ :: _ :: _ :: []), defers := [] } _
    refine wpAnyH_take (i := 8) (v := undef) rfl (by kernel_rfl) (by kernel_rfl) (by kernel_rfl) (fun _ _ _ h => h) (Or.inr ⟨by kernel_rfl, rfl⟩) hHeld ?_
    change wpAnyH _ _ _ _ _ _ _ { tmps := List.toArray (_ :: _ :: _ :: _ :: _ :: .pointer (some ⟨rb, 0, none⟩) :: .int .i64 t :: .slice (some ⟨g, 0, none⟩) N N :: .int .i64 (N : Int) :: .int .i64 ((N : Int) - 1) :: .bool false :: .bool false :: undef :: undef :: _ :: _ :: _ :: _ :: _ :: _ :: _ :: _ :: _ :: _ :: _ :: _ :: _ :: _ :: _ :: _ :: []), defers := [] } _
    refine wpAnyH_take (i := 9) (v := undef) rfl (by kernel_rfl) (by kernel_rfl) (by kernel_rfl) (fun _ _ _ h => h) (Or.inr ⟨by kernel_rfl, rfl⟩) hHeld ?_
    change wpAnyH _ _ _ _ _ _ _ { tmps := List.toArray (_ :: _ :: _ :: _ :: _ :: .pointer (some ⟨rb, 0, none⟩) :: .int .i64 t :: .slice (some ⟨g, 0, none⟩) N N :: .int .i64 (N : Int) :: .int .i64 ((N : Int) - 1) :: .bool false :: .bool false :: undef :: undef :: undef :: _ :: _ :: _ :: _ :: _ :: _ :: _ :: _ :: _ :: _ :: _ :: _ :: _ :: _ :: _ :: []), defers := [] } _
    refine wpAnyH_take (i := 10) (v := undef) rfl (by kernel_rfl) (by kernel_rfl) (by kernel_rfl) (fun _ _ _ h => h) (Or.inr ⟨by kernel_rfl, rfl⟩) hHeld ?_
    change wpAnyH _ _ _ _ _ _ _ { tmps := List.toArray (_ :: _ :: _ :: _ :: _ :: .pointer (some ⟨rb, 0, none⟩) :: .int .i64 t :: .slice (some ⟨g, 0, none⟩) N N :: .int .i64 (N : Int) :: .int .i64 ((N : Int) - 1) :: .bool false :: .bool false :: undef :: undef :: undef :: undef :: _ :: _ :: _ :: _ :: _ :: _ :: _ :: _ :: _ :: _ :: _ :: _ :: _ :: _ :: []), defers := [] } _
    refine wpAnyH_take (i := 11) (v := undef) rfl (by kernel_rfl) (by kernel_rfl) (by kernel_rfl) (fun _ _ _ h => h) (Or.inr ⟨by kernel_rfl, rfl⟩) hHeld ?_
    change wpAnyH _ _ _ _ _ _ _ { tmps := List.toArray (_ :: _ :: _ :: _ :: _ :: .pointer (some ⟨rb, 0, none⟩) :: .int .i64 t :: .slice (some ⟨g, 0, none⟩) N N :: .int .i64 (N : Int) :: .int .i64 ((N : Int) - 1) :: .bool false :: .bool false :: undef :: undef :: undef :: undef :: undef :: _ :: _ :: _ :: _ :: _ :: _ :: _ :: _ :: _ :: _ :: _ :: _ :: _ :: []), defers := [] } _
    refine wpAnyH_take (i := 12) (v := undef) rfl (by kernel_rfl) (by kernel_rfl) (by kernel_rfl) (fun _ _ _ h => h) (Or.inr ⟨by kernel_rfl, rfl⟩) hHeld ?_
    change wpAnyH _ _ _ _ _ _ _ { tmps := List.toArray (_ :: _ :: _ :: _ :: _ :: .pointer (some ⟨rb, 0, none⟩) :: .int .i64 t :: .slice (some ⟨g, 0, none⟩) N N :: .int .i64 (N : Int) :: .int .i64 ((N : Int) - 1) :: .bool false :: .bool false :: undef :: undef :: undef :: undef :: undef :: undef :: _ :: _ :: _ :: _ :: _ :: _ :: _ :: _ :: _ :: _ :: _ :: _ :: []), defers := [] } _
    refine wpAnyH_take (i := 13) (v := undef) rfl (by kernel_rfl) (by kernel_rfl) (by kernel_rfl) (fun _ _ _ h => h) (Or.inr ⟨by kernel_rfl, rfl⟩) hHeld ?_
    change wpAnyH _ _ _ _ _ _ _ { tmps := List.toArray (_ :: _ :: _ :: _ :: _ :: .pointer (some ⟨rb, 0, none⟩) :: .int .i64 t :: .slice (some ⟨g, 0, none⟩) N N :: .int .i64 (N : Int) :: .int .i64 ((N : Int) - 1) :: .bool false :: .bool false :: undef :: undef :: undef :: undef :: undef :: undef :: undef :: _ :: _ :: _ :: _ :: _ :: _ :: _ :: _ :: _ :: _ :: _ :: []), defers := [] } _
    refine wpAnyH_take (i := 14) (v := undef) rfl (by kernel_rfl) (by kernel_rfl) (by kernel_rfl) (fun _ _ _ h => h) (Or.inr ⟨by kernel_rfl, rfl⟩) hHeld ?_
    change wpAnyH _ _ _ _ _ _ _ { tmps := List.toArray (_ :: _ :: _ :: _ :: _ :: .pointer (some ⟨rb, 0, none⟩) :: .int .i64 t :: .slice (some ⟨g, 0, none⟩) N N :: .int .i64 (N : Int) :: .int .i64 ((N : Int) - 1) :: .bool false :: .bool false :: undef :: undef :: undef :: undef :: undef :: undef :: undef :: undef :: _ :: _ :: _ :: _ :: _ :: _ :: _ :: _ :: _ :: _ :: []), defers := [] } _
    refine wpAnyH_take (i := 15) (v := undef) rfl (by kernel_rfl) (by kernel_rfl) (by kernel_rfl) (fun _ _ _ h => h) (Or.inr ⟨by kernel_rfl, rfl⟩) hHeld ?_
    change wpAnyH _ _ _ _ _ _ _ { tmps := List.toArray (_ :: _ :: _ :: _ :: _ :: .pointer (some ⟨rb, 0, none⟩) :: .int .i64 t :: .slice (some ⟨g, 0, none⟩) N N :: .int .i64 (N : Int) :: .int .i64 ((N : Int) - 1) :: .bool false :: .bool false :: undef :: undef :: undef :: undef :: undef :: undef :: undef :: undef :: undef :: _ :: _ :: _ :: _ :: _ :: _ :: _ :: _ :: _ :: []), defers := [] } _
    refine wpAnyH_take (i := 16) (v := undef) rfl (by kernel_rfl) (by kernel_rfl) (by kernel_rfl) (fun _ _ _ h => h) (Or.inr ⟨by kernel_rfl, rfl⟩) hHeld ?_
    change wpAnyH _ _ _ _ _ _ _ { tmps := List.toArray (_ :: _ :: _ :: _ :: _ :: .pointer (some ⟨rb, 0, none⟩) :: .int .i64 t :: .slice (some ⟨g, 0, none⟩) N N :: .int .i64 (N : Int) :: .int .i64 ((N : Int) - 1) :: .bool false :: .bool false :: undef :: undef :: undef :: undef :: undef :: undef :: undef :: undef :: undef :: undef :: _ :: _ :: _ :: _ :: _ :: _ :: _ :: _ :: []), defers := [] } _
    refine wpAnyH_take (i := 17) (v := .bool false) rfl (by kernel_rfl) (by kernel_rfl) (by kernel_rfl) (fun _ _ _ h => h) (Or.inl ⟨by kernel_rfl, fun w hS => by go_simp⟩) hHeld ?_
    change wpAnyH _ _ _ _ _ _ _ { tmps := List.toArray (_ :: _ :: _ :: _ :: _ :: .pointer (some ⟨rb, 0, none⟩) :: .int .i64 t :: .slice (some ⟨g, 0, none⟩) N N :: .int .i64 (N : Int) :: .int .i64 ((N : Int) - 1) :: .bool false :: .bool false :: undef :: undef :: undef :: undef :: undef :: undef :: undef :: undef :: undef :: undef :: .bool false :: _ :: _ :: _ :: _ :: _ :: _ :: _ :: []), defers := [] } _
    refine wpAnyH_take (i := 18) (v := .bool false) rfl (by kernel_rfl) (by kernel_rfl) (by kernel_rfl) (fun _ _ _ h => h) (Or.inl ⟨by kernel_rfl, fun w hS => by go_simp⟩) hHeld ?_
    change wpAnyH _ _ _ _ _ _ _ { tmps := List.toArray (_ :: _ :: _ :: _ :: _ :: .pointer (some ⟨rb, 0, none⟩) :: .int .i64 t :: .slice (some ⟨g, 0, none⟩) N N :: .int .i64 (N : Int) :: .int .i64 ((N : Int) - 1) :: .bool false :: .bool false :: undef :: undef :: undef :: undef :: undef :: undef :: undef :: undef :: undef :: undef :: .bool false :: .bool false :: _ :: _ :: _ :: _ :: _ :: _ :: []), defers := [] } _
    refine wpAnyH_take (i := 19) (v := undef) rfl (by kernel_rfl) (by kernel_rfl) (by kernel_rfl) (fun _ _ _ h => h) (Or.inr ⟨by kernel_rfl, rfl⟩) hHeld ?_
    change wpAnyH _ _ _ _ _ _ _ { tmps := List.toArray (_ :: _ :: _ :: _ :: _ :: .pointer (some ⟨rb, 0, none⟩) :: .int .i64 t :: .slice (some ⟨g, 0, none⟩) N N :: .int .i64 (N : Int) :: .int .i64 ((N : Int) - 1) :: .bool false :: .bool false :: undef :: undef :: undef :: undef :: undef :: undef :: undef :: undef :: undef :: undef :: .bool false :: .bool false :: undef :: _ :: _ :: _ :: _ :: _ :: []), defers := [] } _
    refine wpAnyH_take (i := 20) (v := undef) rfl (by kernel_rfl) (by kernel_rfl) (by kernel_rfl) (fun _ _ _ h => h) (Or.inr ⟨by kernel_rfl, rfl⟩) hHeld ?_
    change wpAnyH _ _ _ _ _ _ _ { tmps := List.toArray (_ :: _ :: _ :: _ :: _ :: .pointer (some ⟨rb, 0, none⟩) :: .int .i64 t :: .slice (some ⟨g, 0, none⟩) N N :: .int .i64 (N : Int) :: .int .i64 ((N : Int) - 1) :: .bool false :: .bool false :: undef :: undef :: undef :: undef :: undef :: undef :: undef :: undef :: undef :: undef :: .bool false :: .bool false :: undef :: undef :: _ :: _ :: _ :: _ :: []), defers := [] } _
    refine wpAnyH_take (i := 21) (v := undef) rfl (by kernel_rfl) (by kernel_rfl) (by kernel_rfl) (fun _ _ _ h => h) (Or.inr ⟨by kernel_rfl, rfl⟩) hHeld ?_
    change wpAnyH _ _ _ _ _ _ _ { tmps := List.toArray (_ :: _ :: _ :: _ :: _ :: .pointer (some ⟨rb, 0, none⟩) :: .int .i64 t :: .slice (some ⟨g, 0, none⟩) N N :: .int .i64 (N : Int) :: .int .i64 ((N : Int) - 1) :: .bool false :: .bool false :: undef :: undef :: undef :: undef :: undef :: undef :: undef :: undef :: undef :: undef :: .bool false :: .bool false :: undef :: undef :: undef :: _ :: _ :: _ :: []), defers := [] } _
    refine wpAnyH_take (i := 22) (v := undef) rfl (by kernel_rfl) (by kernel_rfl) (by kernel_rfl) (fun _ _ _ h => h) (Or.inr ⟨by kernel_rfl, rfl⟩) hHeld ?_
    change wpAnyH _ _ _ _ _ _ _ { tmps := List.toArray (_ :: _ :: _ :: _ :: _ :: .pointer (some ⟨rb, 0, none⟩) :: .int .i64 t :: .slice (some ⟨g, 0, none⟩) N N :: .int .i64 (N : Int) :: .int .i64 ((N : Int) - 1) :: .bool false :: .bool false :: undef :: undef :: undef :: undef :: undef :: undef :: undef :: undef :: undef :: undef :: .bool false :: .bool false :: undef :: undef :: undef :: undef :: _ :: _ :: []), defers := [] } _
    refine wpAnyH_take (i := 23) (v := undef) rfl (by kernel_rfl) (by kernel_rfl) (by kernel_rfl) (fun _ _ _ h => h) (Or.inr ⟨by kernel_rfl, rfl⟩) hHeld ?_
    change wpAnyH _ _ _ _ _ _ _ { tmps := List.toArray (_ :: _ :: _ :: _ :: _ :: .pointer (some ⟨rb, 0, none⟩) :: .int .i64 t :: .slice (some ⟨g, 0, none⟩) N N :: .int .i64 (N : Int) :: .int .i64 ((N : Int) - 1) :: .bool false :: .bool false :: undef :: undef :: undef :: undef :: undef :: undef :: undef :: undef :: undef :: undef :: .bool false :: .bool false :: undef :: undef :: undef :: undef :: undef :: _ :: []), defers := [] } _
    refine wpAnyH_take (i := 24) (v := .bool false) rfl (by kernel_rfl) (by kernel_rfl) (by kernel_rfl) (fun _ _ _ h => h) (Or.inl ⟨by kernel_rfl, fun w hS => by go_simp⟩) hHeld ?_
    change wpAnyH _ _ _ _ _ _ _ { tmps := List.toArray (_ :: _ :: _ :: _ :: _ :: .pointer (some ⟨rb, 0, none⟩) :: .int .i64 t :: .slice (some ⟨g, 0, none⟩) N N :: .int .i64 (N : Int) :: .int .i64 ((N : Int) - 1) :: .bool false :: .bool false :: undef :: undef :: undef :: undef :: undef :: undef :: undef :: undef :: undef :: undef :: .bool false :: .bool false :: undef :: undef :: undef :: undef :: undef :: .bool false :: []), defers := [] } _
    refine wpAnyH_take (i := 25) (v := .bool false) rfl (by kernel_rfl) (by kernel_rfl) (by kernel_rfl) (fun _ _ _ h => h) (Or.inl ⟨by kernel_rfl, fun w hS => by go_simp⟩) hHeld ?_
    change wpAnyH _ _ _ _ _ _ _ { tmps := List.toArray (_ :: _ :: _ :: _ :: .bool false :: .pointer (some ⟨rb, 0, none⟩) :: .int .i64 t :: .slice (some ⟨g, 0, none⟩) N N :: .int .i64 (N : Int) :: .int .i64 ((N : Int) - 1) :: .bool false :: .bool false :: undef :: undef :: undef :: undef :: undef :: undef :: undef :: undef :: undef :: undef :: .bool false :: .bool false :: undef :: undef :: undef :: undef :: undef :: .bool false :: []), defers := [] } _
    refine wpAnyH_done (by kernel_rfl) ?_ _
    go_wp2
    go_ret
    exact ⟨ret_bool E.out.symm, by rw [hrb.out]; exact HBd⟩
  obtain ⟨t0, t1⟩ := inB_true hT
  obtain ⟨i, rfl⟩ := Int.eq_ofNat_of_zero_le t0
  have hiN : i < N := by omega
  have hi0 : (0 : Int) ≤ (i : Int) := by omega
  have hi1 : (i : Int) < (N : Int) := by omega
  obtain ⟨la, lc, c0, -⟩ := hV i hiN
  have hl1 := hlg i
  rw [show ((i : Int)).toNat = i by omega] at E0
  generalize (lg i).length = ln at *
  have hwl : IntKind.i64.wrap ((ln : Int) - 1) = (ln : Int) - 1 := wrap_in _ (by omega) (by omega)
  clear hV h t0 t1
  cases hLl : inB l 0 ((ln : Int) - 1)
  · have E : Hid (runB N lg ⟨(i : Int), l, f, o⟩ = false) := hide (by rw [E0.out, hT, hLl]; rfl)
    clear E0
    refine wp_region_held_drew (S := (fun w' => w'.cell? ⟨rb, 0, none⟩ = some (.int .i64 (i : Int)) ∧ w'.cell? ⟨rb, 1, none⟩ = some (.int .i64 l) ∧ w'.cell? ⟨rb, 2, none⟩ = some (.int .i64 f) ∧ w'.cell? ⟨rb, 3, none⟩ = some (.int .i64 o) ∧ w'.cell? ⟨g, i, none⟩ = some (.slice la ln lc))) (by kernel_rfl) ?_ (fun hHeld => ?_)
    · exact ⟨x0, x1, x2, x3, c0⟩
    have Bd : Below wu.heap.size wu wu.drew := (Below.refl _ _).drew
    have HBd := HB.drew
    have d0 := ble Bd x0
    have d1 := ble Bd x1
    have d2 := ble Bd x2
    have d3 := ble Bd x3
    have d4 := ble Bd c0
    generalize wu.drew = wd at *
    refine wpAnyH_take (i := 0) (v := .pointer (some ⟨rb, 0, none⟩)) rfl (by kernel_rfl) (by kernel_rfl) (by kernel_rfl) (fun _ _ _ h => h) (Or.inl ⟨by kernel_rfl, fun w hS => by go_simp⟩) hHeld ?_
    change wpAnyH _ _ _ _ _ _ _ { tmps := List.toArray (_ :: _ :: _ :: _ :: _ :: .pointer (some ⟨rb, 0, none⟩) :: _ :: _ :: _ :: _ :: _ :: _ :: _ :: _ :: _ :: _ :: _ :: _ :: _ :: _ :: _ :: _ :: _ :: _ :: _ :: _ :: _ :: _ :: _ :: _ :: []), defers := [] } _
    refine wpAnyH_take (i := 1) (v := .int .i64 (i : Int)) rfl (by kernel_rfl) (by kernel_rfl) (by kernel_rfl) (fun _ _ _ h => h) (Or.inl ⟨by kernel_rfl, fun w hS => by (obtain ⟨hS0, hS1, hS2, hS3, hS4⟩ := hS; go_simp)⟩) hHeld ?_
    change wpAnyH _ _ _ _ _ _ _ { tmps := List.toArray (_ :: _ :: _ :: _ :: _ :: .pointer (some ⟨rb, 0, none⟩) :: .int .i64 (i : Int) :: _ :: _ :: _ :: _ :: _ :: _ :: _ :: _ :: _ :: _ :: _ :: _ :: _ :: _ :: _ :: _ :: _ :: _ :: _ :: _ :: _ :: _ :: _ :: []), defers := [] } _
    refine wpAnyH_take (i := 2) (v := .slice (some ⟨g, 0, none⟩) N N) rfl (by kernel_rfl) (by kernel_rfl) (by kernel_rfl) (fun _ _ _ h => h) (Or.inl ⟨by kernel_rfl, fun w hS => by go_simp⟩) hHeld ?_
    change wpAnyH _ _ _ _ _ _ _ { tmps := List.toArray (_ :: _ :: _ :: _ :: _ :: .pointer (some ⟨rb, 0, none⟩) :: .int .i64 (i : Int) :: .slice (some ⟨g, 0, none⟩) N N :: _ :: _ :: _ :: _ :: _ :: _ :: _ :: _ :: _ :: _ :: _ :: _ :: _ :: _ :: _ :: _ :: _ :: _ :: _ :: _ :: _ :: _ :: []), defers := [] } _
    refine wpAnyH_take (i := 3) (v := .int .i64 (N : Int)) rfl (by kernel_rfl) (by kernel_rfl) (by kernel_rfl) (fun _ _ _ h => h) (Or.inl ⟨by kernel_rfl, fun w hS => by go_simp⟩) hHeld ?_
    change wpAnyH _ _ _ _ _ _ _ { tmps := List.toArray (_ :: _ :: _ :: _ :: _ :: .pointer (some ⟨rb, 0, none⟩) :: .int .i64 (i : Int) :: .slice (some ⟨g, 0, none⟩) N N :: .int .i64 (N : Int) :: _ :: _ :: _ :: _ :: _ :: _ :: _ :: _ :: _ :: _ :: _ :: _ :: _ :: _ :: _ :: _ :: _ :: _ :: _ :: _ :: _ :: []), defers := [] } _
    refine wpAnyH_take (i := 4) (v := .int .i64 ((N : Int) - 1)) rfl (by kernel_rfl) (by kernel_rfl) (by kernel_rfl) (fun _ _ _ h => h) (Or.inl ⟨by kernel_rfl, fun w hS => by go_simp⟩) hHeld ?_
    change wpAnyH _ _ _ _ _ _ _ { tmps := List.toArray (_ :: _ :: _ :: _ :: _ :: .pointer (some ⟨rb, 0, none⟩) :: .int .i64 (i : Int) :: .slice (some ⟨g, 0, none⟩) N N :: .int .i64 (N : Int) :: .int .i64 ((N : Int) - 1) :: _ :: _ :: _ :: _ :: _ :: _ :: _ :: _ :: _ :: _ :: _ :: _ :: _ :: _ :: _ :: _ :: _ :: _ :: _ :: _ :: []), defers := [] } _
    refine wpAnyH_ready (rs := [5]) (by kernel_rfl) (by simp) ?_
    refine (AllReadyH.cons rfl (fun KK hK => ?_) AllReadyH.nil)
    go_simp
    refine (cWithin (i : Int) 0 ((N : Int) - 1) wd).mono ?_
    rintro e wp ⟨rfl, hwp⟩
    subst wp
    rw [hT]
    go_wp2_with fail
    clear hHeld
    refine hK.out _ _ (⟨d0, d1, d2, d3, d4⟩) (fun hHeld => ?_)
    clear hK KK
    change wpAnyH _ _ _ _ _ _ _ { tmps := List.toArray (_ :: _ :: _ :: _ :: _ :: .pointer (some ⟨rb, 0, none⟩) :: .int .i64 (i : Int) :: .slice (some ⟨g, 0, none⟩) N N :: .int .i64 (N : Int) :: .int .i64 ((N : Int) - 1) :: .bool true :: _ :: _ :: _ :: _ :: _ :: _ :: _ :: _ :: _ :: _ :: _ :: _ :: _ :: _ :: _ :: _ :: _ :: _ :: _ :: []), defers := [] } _
    refine wpAnyH_take (i := 6) (v := .bool true) rfl (by kernel_rfl) (by kernel_rfl) (by kernel_rfl) (fun _ _ _ h => h) (Or.inl ⟨by kernel_rfl, fun w hS => by go_simp⟩) hHeld ?_
    change wpAnyH _ _ _ _ _ _ _ { tmps := List.toArray (_ :: _ :: _ :: _ :: _ :: .pointer (some ⟨rb, 0, none⟩) :: .int .i64 (i : Int) :: .slice (some ⟨g, 0, none⟩) N N :: .int .i64 (N : Int) :: .int .i64 ((N : Int) - 1) :: .bool true :: .bool true :: _ :: _ :: _ :: _ :: _ :: _ :: _ :: _ :: _ :: _ :: _ :: _ :: _ :: _ :: _ :: _ :: _ :: _ :: []), defers := [] } _
    refine wpAnyH_take (i := 7) (v := .pointer (some ⟨rb, 1, none⟩)) rfl (by kernel_rfl) (by kernel_rfl) (by kernel_rfl) (fun _ _ _ h => h) (Or.inl ⟨by kernel_rfl, fun w hS => by go_simp⟩) hHeld ?_
    change wpAnyH _ _ _ _ _ _ _ { tmps := List.toArray (_ :: _ :: _ :: _ :: _ :: .pointer (some ⟨rb, 0, none⟩) :: .int .i64 (i : Int) :: .slice (some ⟨g, 0, none⟩) N N :: .int .i64 (N : Int) :: .int .i64 ((N : Int) - 1) :: .bool true :: .bool true :: .pointer (some ⟨rb, 1, none⟩) :: _ :: _ :: _ :: _ :: _ :: _ :: _ :: _ :: _ :: _ :: _ :: _ :: _ :: _ :: _ :: _ :: _ :: []), defers := [] } _
    refine wpAnyH_take (i := 8) (v := .int .i64 l) rfl (by kernel_rfl) (by kernel_rfl) (by kernel_rfl) (fun _ _ _ h => h) (Or.inl ⟨by kernel_rfl, fun w hS => by (obtain ⟨hS0, hS1, hS2, hS3, hS4⟩ := hS; go_simp)⟩) hHeld ?_
    change wpAnyH _ _ _ _ _ _ _ { tmps := List.toArray (_ :: _ :: _ :: _ :: _ :: .pointer (some ⟨rb, 0, none⟩) :: .int .i64 (i : Int) :: .slice (some ⟨g, 0, none⟩) N N :: .int .i64 (N : Int) :: .int .i64 ((N : Int) - 1) :: .bool true :: .bool true :: .pointer (some ⟨rb, 1, none⟩) :: .int .i64 l :: _ :: _ :: _ :: _ :: _ :: _ :: _ :: _ :: _ :: _ :: _ :: _ :: _ :: _ :: _ :: _ :: []), defers := [] } _
    refine wpAnyH_take (i := 9) (v := .slice (some ⟨g, 0, none⟩) N N) rfl (by kernel_rfl) (by kernel_rfl) (by kernel_rfl) (fun _ _ _ h => h) (Or.inl ⟨by kernel_rfl, fun w hS => by go_simp⟩) hHeld ?_
    change wpAnyH _ _ _ _ _ _ _ { tmps := List.toArray (_ :: _ :: _ :: _ :: _ :: .pointer (some ⟨rb, 0, none⟩) :: .int .i64 (i : Int) :: .slice (some ⟨g, 0, none⟩) N N :: .int .i64 (N : Int) :: .int .i64 ((N : Int) - 1) :: .bool true :: .bool true :: .pointer (some ⟨rb, 1, none⟩) :: .int .i64 l :: .slice (some ⟨g, 0, none⟩) N N :: _ :: _ :: _ :: _ :: _ :: _ :: _ :: _ :: _ :: _ :: _ :: _ :: _ :: _ :: _ :: []), defers := [] } _
    refine wpAnyH_take (i := 10) (v := .pointer (some ⟨rb, 0, none⟩)) rfl (by kernel_rfl) (by kernel_rfl) (by kernel_rfl) (fun _ _ _ h => h) (Or.inl ⟨by kernel_rfl, fun w hS => by go_simp⟩) hHeld ?_
    change wpAnyH _ _ _ _ _ _ _ { tmps := List.toArray (_ :: _ :: _ :: _ :: _ :: .pointer (some ⟨rb, 0, none⟩) :: .int .i64 (i : Int) :: .slice (some ⟨g, 0, none⟩) N N :: .int .i64 (N : Int) :: .int .i64 ((N : Int) - 1) :: .bool true :: .bool true :: .pointer (some ⟨rb, 1, none⟩) :: .int .i64 l :: .slice (some ⟨g, 0, none⟩) N N :: .pointer (some ⟨rb, 0, none⟩) :: _ :: _ :: _ :: _ :: _ :: _ :: _ :: _ :: _ :: _ :: _ :: _ :: _ :: _ :: []), defers := [] } _
    refine wpAnyH_take (i := 11) (v := .int .i64 (i : Int)) rfl (by kernel_rfl) (by kernel_rfl) (by kernel_rfl) (fun _ _ _ h => h) (Or.inl ⟨by kernel_rfl, fun w hS => by (obtain ⟨hS0, hS1, hS2, hS3, hS4⟩ := hS; go_simp)⟩) hHeld ?_
    change wpAnyH _ _ _ _ _ _ _ { tmps := List.toArray (_ :: _ :: _ :: _ :: _ :: .pointer (some ⟨rb, 0, none⟩) :: .int .i64 (i : Int) :: .slice (some ⟨g, 0, none⟩) N N :: .int .i64 (N : Int) :: .int .i64 ((N : Int) - 1) :: .bool true :: .bool true :: .pointer (some ⟨rb, 1, none⟩) :: .int .i64 l :: .slice (some ⟨g, 0, none⟩) N N :: .pointer (some ⟨rb, 0, none⟩) :: .int .i64 (i : Int) :: _ :: _ :: _ :: _ :: _ :: _ :: _ :: _ :: _ :: _ :: _ :: _ :: _ :: []), defers := [] } _
    refine wpAnyH_take (i := 12) (v := .pointer (some ⟨g, i, none⟩)) rfl (by kernel_rfl) (by kernel_rfl) (by kernel_rfl) (fun _ _ _ h => h) (Or.inl ⟨by kernel_rfl, fun w hS => by go_simp⟩) hHeld ?_
    change wpAnyH _ _ _ _ _ _ _ { tmps := List.toArray (_ :: _ :: _ :: _ :: _ :: .pointer (some ⟨rb, 0, none⟩) :: .int .i64 (i : Int) :: .slice (some ⟨g, 0, none⟩) N N :: .int .i64 (N : Int) :: .int .i64 ((N : Int) - 1) :: .bool true :: .bool true :: .pointer (some ⟨rb, 1, none⟩) :: .int .i64 l :: .slice (some ⟨g, 0, none⟩) N N :: .pointer (some ⟨rb, 0, none⟩) :: .int .i64 (i : Int) :: .pointer (some ⟨g, i, none⟩) :: _ :: _ :: _ :: _ :: _ :: _ :: _ :: _ :: _ :: _ :: _ :: _ :: []), defers := [] } _
    refine wpAnyH_take (i := 13) (v := .slice la ln lc) rfl (by kernel_rfl) (by kernel_rfl) (by kernel_rfl) (fun _ _ _ h => h) (Or.inl ⟨by kernel_rfl, fun w hS => by (obtain ⟨hS0, hS1, hS2, hS3, hS4⟩ := hS; go_simp)⟩) hHeld ?_
    change wpAnyH _ _ _ _ _ _ _ { tmps := List.toArray (_ :: _ :: _ :: _ :: _ :: .pointer (some ⟨rb, 0, none⟩) :: .int .i64 (i : Int) :: .slice (some ⟨g, 0, none⟩) N N :: .int .i64 (N : Int) :: .int .i64 ((N : Int) - 1) :: .bool true :: .bool true :: .pointer (some ⟨rb, 1, none⟩) :: .int .i64 l :: .slice (some ⟨g, 0, none⟩) N N :: .pointer (some ⟨rb, 0, none⟩) :: .int .i64 (i : Int) :: .pointer (some ⟨g, i, none⟩) :: .slice la ln lc :: _ :: _ :: _ :: _ :: _ :: _ :: _ :: _ :: _ :: _ :: _ :: []), defers := [] } _
    refine wpAnyH_take (i := 14) (v := .int .i64 (ln : Int)) rfl (by kernel_rfl) (by kernel_rfl) (by kernel_rfl) (fun _ _ _ h => h) (Or.inl ⟨by kernel_rfl, fun w hS => by go_simp⟩) hHeld ?_
    change wpAnyH _ _ _ _ _ _ _ { tmps := List.toArray (_ :: _ :: _ :: _ :: _ :: .pointer (some ⟨rb, 0, none⟩) :: .int .i64 (i : Int) :: .slice (some ⟨g, 0, none⟩) N N :: .int .i64 (N : Int) :: .int .i64 ((N : Int) - 1) :: .bool true :: .bool true :: .pointer (some ⟨rb, 1, none⟩) :: .int .i64 l :: .slice (some ⟨g, 0, none⟩) N N :: .pointer (some ⟨rb, 0, none⟩) :: .int .i64 (i : Int) :: .pointer (some ⟨g, i, none⟩) :: .slice la ln lc :: .int .i64 (ln : Int) :: _ :: _ :: _ :: _ :: _ :: _ :: _ :: _ :: _ :: _ :: []), defers := [] } _
    refine wpAnyH_take (i := 15) (v := .int .i64 ((ln : Int) - 1)) rfl (by kernel_rfl) (by kernel_rfl) (by kernel_rfl) (fun _ _ _ h => h) (Or.inl ⟨by kernel_rfl, fun w hS => by go_simp⟩) hHeld ?_
    change wpAnyH _ _ _ _ _ _ _ { tmps := List.toArray (_ :: _ :: _ :: _ :: _ :: .pointer (some ⟨rb, 0, none⟩) :: .int .i64 (i : Int) :: .slice (some ⟨g, 0, none⟩) N N :: .int .i64 (N : Int) :: .int .i64 ((N : Int) - 1) :: .bool true :: .bool true :: .pointer (some ⟨rb, 1, none⟩) :: .int .i64 l :: .slice (some ⟨g, 0, none⟩) N N :: .pointer (some ⟨rb, 0, none⟩) :: .int .i64 (i : Int) :: .pointer (some ⟨g, i, none⟩) :: .slice la ln lc :: .int .i64 (ln : Int) :: .int .i64 ((ln : Int) - 1) :: _ :: _ :: _ :: _ :: _ :: _ :: _ :: _ :: _ :: []), defers := [] } _
    refine wpAnyH_ready (rs := [16]) (by kernel_rfl) (by simp) ?_
    refine (AllReadyH.cons rfl (fun KK hK => ?_) AllReadyH.nil)
    go_simp
    refine (cWithin l 0 ((ln : Int) - 1) wd).mono ?_
    rintro e wp ⟨rfl, hwp⟩
    subst wp
    rw [hLl]
    go_wp2_with fail
    clear hHeld
    refine hK.out _ _ (⟨d0, d1, d2, d3, d4⟩) (fun hHeld => ?_)
    clear hK KK
    change wpAnyH _ _ _ _ _ _ _ { tmps := List.toArray (_ :: _ :: _ :: _ :: _ :: .pointer (some ⟨rb, 0, none⟩) :: .int .i64 (i : Int) :: .slice (some ⟨g, 0, none⟩) N N :: .int .i64 (N : Int) :: .int .i64 ((N : Int) - 1) :: .bool true :: .bool true :: .pointer (some ⟨rb, 1, none⟩) :: .int .i64 l :: .slice (some ⟨g, 0, none⟩) N N :: .pointer (some ⟨rb, 0, none⟩) :: .int .i64 (i : Int) :: .pointer (some ⟨g, i, none⟩) :: .slice la ln lc :: .int .i64 (ln : Int) :: .int .i64 ((ln : Int) - 1) :: .bool false :: _ :: _ :: _ :: _ :: _ :: _ :: _ :: _ :: []), defers := [] } _
    refine wpAnyH_take (i := 17) (v := .bool false) rfl (by kernel_rfl) (by kernel_rfl) (by kernel_rfl) (fun _ _ _ h => h) (Or.inl ⟨by kernel_rfl, fun w hS => by go_simp⟩) hHeld ?_
    change wpAnyH _ _ _ _ _ _ _ { tmps := List.toArray (_ :: _ :: _ :: _ :: _ :: .pointer (some ⟨rb, 0, none⟩) :: .int .i64 (i : Int) :: .slice (some ⟨g, 0, none⟩) N N :: .int .i64 (N : Int) :: .int .i64 ((N : Int) - 1) :: .bool true :: .bool true :: .pointer (some ⟨rb, 1, none⟩) :: .int .i64 l :: .slice (some ⟨g, 0, none⟩) N N :: .pointer (some ⟨rb, 0, none⟩) :: .int .i64 (i : Int) :: .pointer (some ⟨g, i, none⟩) :: .slice la ln lc :: .int .i64 (ln : Int) :: .int .i64 ((ln : Int) - 1) :: .bool false :: .bool false :: _ :: _ :: _ :: _ :: _ :: _ :: _ :: []), defers := [] } _
    refine wpAnyH_take (i := 18) (v := .bool false) rfl (by kernel_rfl) (by kernel_rfl) (by kernel_rfl) (fun _ _ _ h => h) (Or.inl ⟨by kernel_rfl, fun w hS => by go_simp⟩) hHeld ?_
    change wpAnyH _ _ _ _ _ _ _ { tmps := List.toArray (_ :: _ :: _ :: _ :: _ :: .pointer (some ⟨rb, 0, none⟩) :: .int .i64 (i : Int) :: .slice (some ⟨g, 0, none⟩) N N :: .int .i64 (N : Int) :: .int .i64 ((N : Int) - 1) :: .bool true :: .bool true :: .pointer (some ⟨rb, 1, none⟩) :: .int .i64 l :: .slice (some ⟨g, 0, none⟩) N N :: .pointer (some ⟨rb, 0, none⟩) :: .int .i64 (i : Int) :: .pointer (some ⟨g, i, none⟩) :: .slice la ln lc :: .int .i64 (ln : Int) :: .int .i64 ((ln : Int) - 1) :: .bool false :: .bool false :: .bool false :: _ :: _ :: _ :: _ :: _ :: _ :: []), defers := [] } _
    refine wpAnyH_take (i := 19) (v := undef) rfl (by kernel_rfl) (by kernel_rfl) (by kernel_rfl) (fun _ _ _ h => h) (Or.inr ⟨by kernel_rfl, rfl⟩) hHeld ?_
    change wpAnyH _ _ _ _ _ _ _ { tmps := List.toArray (_ :: _ :: _ :: _ :: _ :: .pointer (some ⟨rb, 0, none⟩) :: .int .i64 (i : Int) :: .slice (some ⟨g, 0, none⟩) N N :: .int .i64 (N : Int) :: .int .i64 ((N : Int) - 1) :: .bool true :: .bool true :: .pointer (some ⟨rb, 1, none⟩) :: .int .i64 l :: .slice (some ⟨g, 0, none⟩) N N :: .pointer (some ⟨rb, 0, none⟩) :: .int .i64 (i : Int) :: .pointer (some ⟨g, i, none⟩) :: .slice la ln lc :: .int .i64 (ln : Int) :: .int .i64 ((ln : Int) - 1) :: .bool false :: .bool false :: .bool false :: undef :: _ :: _ :: _ :: _ :: _ :: []), defers := [] } _
    refine wpAnyH_take (i := 20) (v := undef) rfl (by kernel_rfl) (by kernel_rfl) (by kernel_rfl) (fun _ _ _ h => h) (Or.inr ⟨by kernel_rfl, rfl⟩) hHeld ?_
    change wpAnyH _ _ _ _ _ _ _ { tmps := List.toArray (_ :: _ :: _ :: _ :: _ :: .pointer (some ⟨rb, 0, none⟩) :: .int .i64 (i : Int) :: .slice (some ⟨g, 0, none⟩) N N :: .int .i64 (N : Int) :: .int .i64 ((N : Int) - 1) :: .bool true :: .bool true :: .pointer (some ⟨rb, 1, none⟩) :: .int .i64 l :: .slice (some ⟨g, 0, none⟩) N N :: .pointer (some ⟨rb, 0, none⟩) :: .int .i64 (i : Int) :: .pointer (some ⟨g, i, none⟩) :: .slice la ln lc :: .int .i64 (ln : Int) :: .int .i64 ((ln : Int) - 1) :: .bool false :: .bool false :: .bool false :: undef :: undef :: _ :: _ :: _ :: _ :: []), defers := [] } _
    refine wpAnyH_take (i := 21) (v := undef) rfl (by kernel_rfl) (by kernel_rfl) (by kernel_rfl) (fun _ _ _ h => h) (Or.inr ⟨by kernel_rfl, rfl⟩) hHeld ?_
    change wpAnyH _ _ _ _ _ _ _ { tmps := List.toArray (_ :: _ :: _ :: _ :: _ :: .pointer (some ⟨rb, 0, none⟩) :: .int .i64 (i : Int) :: .slice (some ⟨g, 0, none⟩) N N :: .int .i64 (N : Int) :: .int .i64 ((N : Int) - 1) :: .bool true :: .bool true :: .pointer (some ⟨rb, 1, none⟩) :: .int .i64 l :: .slice (some ⟨g, 0, none⟩) N N :: .pointer (some ⟨rb, 0, none⟩) :: .int .i64 (i : Int) :: .pointer (some ⟨g, i, none⟩) :: .slice la ln lc :: .int .i64 (ln : Int) :: .int .i64 ((ln : Int) - 1) :: .bool false :: .bool false :: .bool false :: undef :: undef :: undef :: _ :: _ :: _ :: []), defers := [] } _
    refine wpAnyH_take (i := 22) (v := undef) rfl (by kernel_rfl) (by kernel_rfl) (by kernel_rfl) (fun _ _ _ h => h) (Or.inr ⟨by kernel_rfl, rfl⟩) hHeld ?_
    change wpAnyH _ _ _ _ _ _ _ { tmps := List.toArray (_ :: _ :: _ :: _ :: _ :: .pointer (some ⟨rb, 0, none⟩) :: .int .i64 (i : Int) :: .slice (some ⟨g, 0, none⟩) N N :: .int .i64 (N : Int) :: .int .i64 ((N : Int) - 1) :: .bool true :: .bool true :: .pointer (some ⟨rb, 1, none⟩) :: .int .i64 l :: .slice (some ⟨g, 0, none⟩) N N :: .pointer (some ⟨rb, 0, none⟩) :: .int .i64 (i : Int) :: .pointer (some ⟨g, i, none⟩) :: .slice la ln lc :: .int .i64 (ln : Int) :: .int .i64 ((ln : Int) - 1) :: .bool false :: .bool false :: .bool false :: undef :: undef :: undef :: undef :: _ :: _ :: []), defers := [] } _
    refine wpAnyH_take (i := 23) (v := undef) rfl (by kernel_rfl) (by kernel_rfl) (by kernel_rfl) (fun _ _ _ h => h) (Or.inr ⟨by kernel_rfl, rfl⟩) hHeld ?_
    change wpAnyH _ _ _ _ _ _ _ { tmps := List.toArray (_ :: _ :: _ :: _ :: _ :: .pointer (some ⟨rb, 0, none⟩) :: .int .i64 (i : Int) :: .slice (some ⟨g, 0, none⟩) N N :: .int .i64 (N : Int) :: .int .i64 ((N : Int) - 1) :: .bool true :: .bool true :: .pointer (some ⟨rb, 1, none⟩) :: .int .i64 l :: .slice (some ⟨g, 0, none⟩) N N :: .pointer (some ⟨rb, 0, none⟩) :: .int .i64 (i : Int) :: .pointer (some ⟨g, i, none⟩) :: .slice la ln lc :: .int .i64 (ln : Int) :: .int .i64 ((ln : Int) - 1) :: .bool false :: .bool false :: .bool false :: undef :: undef :: undef :: undef :: undef :: _ :: []), defers := [] } _
    refine wpAnyH_take (i := 24) (v := .bool false) rfl (by kernel_rfl) (by kernel_rfl) (by kernel_rfl) (fun _ _ _ h => h) (Or.inl ⟨by kernel_rfl, fun w hS => by go_simp⟩) hHeld ?_
    change wpAnyH _ _ _ _ _ _ _ { tmps := List.toArray (_ :: _ :: _ :: _ :: _ :: .pointer (some ⟨rb, 0, none⟩) :: .int .i64 (i : Int) :: .slice (some ⟨g, 0, none⟩) N N :: .int .i64 (N : Int) :: .int .i64 ((N : Int) - 1) :: .bool true :: .bool true :: .pointer (some ⟨rb, 1, none⟩) :: .int .i64 l :: .slice (some ⟨g, 0, none⟩) N N :: .pointer (some ⟨rb, 0, none⟩) :: .int .i64 (i : Int) :: .pointer (some ⟨g, i, none⟩) :: .slice la ln lc :: .int .i64 (ln : Int) :: .int .i64 ((ln : Int) - 1) :: .bool false :: .bool false :: .bool false :: undef :: undef :: undef :: undef :: undef :: .bool false :: []), defers := [] } _
    refine wpAnyH_take (i := 25) (v := .bool false) rfl (by kernel_rfl) (by kernel_rfl) (by kernel_rfl) (fun _ _ _ h => h) (Or.inl ⟨by kernel_rfl, fun w hS => by go_simp⟩) hHeld ?_
    change wpAnyH _ _ _ _ _ _ _ { tmps := List.toArray (_ :: _ :: _ :: _ :: .bool false :: .pointer (some ⟨rb, 0, none⟩) :: .int .i64 (i : Int) :: .slice (some ⟨g, 0, none⟩) N N :: .int .i64 (N : Int) :: .int .i64 ((N : Int) - 1) :: .bool true :: .bool true :: .pointer (some ⟨rb, 1, none⟩) :: .int .i64 l :: .slice (some ⟨g, 0, none⟩) N N :: .pointer (some ⟨rb, 0, none⟩) :: .int .i64 (i : Int) :: .pointer (some ⟨g, i, none⟩) :: .slice la ln lc :: .int .i64 (ln : Int) :: .int .i64 ((ln : Int) - 1) :: .bool false :: .bool false :: .bool false :: undef :: undef :: undef :: undef :: undef :: .bool false :: []), defers := [] } _
    refine wpAnyH_done (by kernel_rfl) ?_ _
    go_wp2
    go_ret
    exact ⟨ret_bool E.out.symm, by rw [hrb.out]; exact HBd⟩
  · have E : Hid (runB N lg ⟨(i : Int), l, f, o⟩ = decide (f < o)) := hide (by rw [E0.out, hT, hLl]; rfl)
    clear E0
    refine wp_region_held_drew (S := (fun w' => w'.cell? ⟨rb, 0, none⟩ = some (.int .i64 (i : Int)) ∧ w'.cell? ⟨rb, 1, none⟩ = some (.int .i64 l) ∧ w'.cell? ⟨rb, 2, none⟩ = some (.int .i64 f) ∧ w'.cell? ⟨rb, 3, none⟩ = some (.int .i64 o) ∧ w'.cell? ⟨g, i, none⟩ = some (.slice la ln lc))) (by kernel_rfl) ?_ (fun hHeld => ?_)
    · exact ⟨x0, x1, x2, x3, c0⟩
    have Bd : Below wu.heap.size wu wu.drew := (Below.refl _ _).drew
    have HBd := HB.drew
    have d0 := ble Bd x0
    have d1 := ble Bd x1
    have d2 := ble Bd x2
    have d3 := ble Bd x3
    have d4 := ble Bd c0
    generalize wu.drew = wd at *
    refine wpAnyH_take (i := 0) (v := .pointer (some ⟨rb, 0, none⟩)) rfl (by kernel_rfl) (by kernel_rfl) (by kernel_rfl) (fun _ _ _ h => h) (Or.inl ⟨by kernel_rfl, fun w hS => by go_simp⟩) hHeld ?_
    change wpAnyH _ _ _ _ _ _ _ { tmps := List.toArray (_ :: _ :: _ :: _ :: _ :: .pointer (some ⟨rb, 0, none⟩) :: _ :: _ :: _ :: _ :: _ :: _ :: _ :: _ :: _ :: _ :: _ :: _ :: _ :: _ :: _ :: _ :: _ :: _ :: _ :: _ :: _ :: _ :: _ :: _ :: []), defers := [] } _
    refine wpAnyH_take (i := 1) (v := .int .i64 (i : Int)) rfl (by kernel_rfl) (by kernel_rfl) (by kernel_rfl) (fun _ _ _ h => h) (Or.inl ⟨by kernel_rfl, fun w hS => by (obtain ⟨hS0, hS1, hS2, hS3, hS4⟩ := hS; go_simp)⟩) hHeld ?_
    change wpAnyH _ _ _ _ _ _ _ { tmps := List.toArray (_ :: _ :: _ :: _ :: _ :: .pointer (some ⟨rb, 0, none⟩) :: .int .i64 (i : Int) :: _ :: _ :: _ :: _ :: _ :: _ :: _ :: _ :: _ :: _ :: _ :: _ :: _ :: _ :: _ :: _ :: _ :: _ :: _ :: _ :: _ :: _ :: _ :: []), defers := [] } _
    refine wpAnyH_take (i := 2) (v := .slice (some ⟨g, 0, none⟩) N N) rfl (by kernel_rfl) (by kernel_rfl) (by kernel_rfl) (fun _ _ _ h => h) (Or.inl ⟨by kernel_rfl, fun w hS => by go_simp⟩) hHeld ?_
    change wpAnyH _ _ _ _ _ _ _ { tmps := List.toArray (_ :: _ :: _ :: _ :: _ :: .pointer (some ⟨rb, 0, none⟩) :: .int .i64 (i : Int) :: .slice (some ⟨g, 0, none⟩) N N :: _ :: _ :: _ :: _ :: _ :: _ :: _ :: _ :: _ :: _ :: _ :: _ :: _ :: _ :: _ :: _ :: _ :: _ :: _ :: _ :: _ :: _ :: []), defers := [] } _
    refine wpAnyH_take (i := 3) (v := .int .i64 (N : Int)) rfl (by kernel_rfl) (by kernel_rfl) (by kernel_rfl) (fun _ _ _ h => h) (Or.inl ⟨by kernel_rfl, fun w hS => by go_simp⟩) hHeld ?_
    change wpAnyH _ _ _ _ _ _ _ { tmps := List.toArray (_ :: _ :: _ :: _ :: _ :: .pointer (some ⟨rb, 0, none⟩) :: .int .i64 (i : Int) :: .slice (some ⟨g, 0, none⟩) N N :: .int .i64 (N : Int) :: _ :: _ :: _ :: _ :: _ :: _ :: _ :: _ :: _ :: _ :: _ :: _ :: _ :: _ :: _ :: _ :: _ :: _ :: _ :: _ :: _ :: []), defers := [] } _
    refine wpAnyH_take (i := 4) (v := .int .i64 ((N : Int) - 1)) rfl (by kernel_rfl) (by kernel_rfl) (by kernel_rfl) (fun _ _ _ h => h) (Or.inl ⟨by kernel_rfl, fun w hS => by go_simp⟩) hHeld ?_
    change wpAnyH _ _ _ _ _ _ _ { tmps := List.toArray (_ :: _ :: _ :: _ :: _ :: .pointer (some ⟨rb, 0, none⟩) :: .int .i64 (i : Int) :: .slice (some ⟨g, 0, none⟩) N N :: .int .i64 (N : Int) :: .int .i64 ((N : Int) - 1) :: _ :: _ :: _ :: _ :: _ :: _ :: _ :: _ :: _ :: _ :: _ :: _ :: _ :: _ :: _ :: _ :: _ :: _ :: _ :: _ :: []), defers := [] } _
    refine wpAnyH_ready (rs := [5]) (by kernel_rfl) (by simp) ?_
    refine (AllReadyH.cons rfl (fun KK hK => ?_) AllReadyH.nil)
    go_simp
    refine (cWithin (i : Int) 0 ((N : Int) - 1) wd).mono ?_
    rintro e wp ⟨rfl, hwp⟩
    subst wp
    rw [hT]
    go_wp2_with fail
    clear hHeld
    refine hK.out _ _ (⟨d0, d1, d2, d3, d4⟩) (fun hHeld => ?_)
    clear hK KK
    change wpAnyH _ _ _ _ _ _ _ { tmps := List.toArray (_ :: _ :: _ :: _ :: _ :: .pointer (some ⟨rb, 0, none⟩) :: .int .i64 (i : Int) :: .slice (some ⟨g, 0, none⟩) N N :: .int .i64 (N : Int) :: .int .i64 ((N : Int) - 1) :: .bool true :: _ :: _ :: _ :: _ :: _ :: _ :: _ :: _ :: _ :: _ :: _ :: _ :: _ :: _ :: _ :: _ :: _ :: _ :: _ :: []), defers := [] } _
    refine wpAnyH_take (i := 6) (v := .bool true) rfl (by kernel_rfl) (by kernel_rfl) (by kernel_rfl) (fun _ _ _ h => h) (Or.inl ⟨by kernel_rfl, fun w hS => by go_simp⟩) hHeld ?_
    change wpAnyH _ _ _ _ _ _ _ { tmps := List.toArray (_ :: _ :: _ :: _ :: _ :: .pointer (some ⟨rb, 0, none⟩) :: .int .i64 (i : Int) :: .slice (some ⟨g, 0, none⟩) N N :: .int .i64 (N : Int) :: .int .i64 ((N : Int) - 1) :: .bool true :: .bool true :: _ :: _ :: _ :: _ :: _ :: _ :: _ :: _ :: _ :: _ :: _ :: _ :: _ :: _ :: _ :: _ :: _ :: _ :: []), defers := [] } _
    refine wpAnyH_take (i := 7) (v := .pointer (some ⟨rb, 1, none⟩)) rfl (by kernel_rfl) (by kernel_rfl) (by kernel_rfl) (fun _ _ _ h => h) (Or.inl ⟨by kernel_rfl, fun w hS => by go_simp⟩) hHeld ?_
    change wpAnyH _ _ _ _ _ _ _ { tmps := List.toArray (_ :: _ :: _ :: _ :: _ :: .pointer (some ⟨rb, 0, none⟩) :: .int .i64 (i : Int) :: .slice (some ⟨g, 0, none⟩) N N :: .int .i64 (N : Int) :: .int .i64 ((N : Int) - 1) :: .bool true :: .bool true :: .pointer (some ⟨rb, 1, none⟩) :: _ :: _ :: _ :: _ :: _ :: _ :: _ :: _ :: _ :: _ :: _ :: _ :: _ :: _ :: _ :: _ :: _ :: []), defers := [] } _
    refine wpAnyH_take (i := 8) (v := .int .i64 l) rfl (by kernel_rfl) (by kernel_rfl) (by kernel_rfl) (fun _ _ _ h => h) (Or.inl ⟨by kernel_rfl, fun w hS => by (obtain ⟨hS0, hS1, hS2, hS3, hS4⟩ := hS; go_simp)⟩) hHeld ?_
    change wpAnyH _ _ _ _ _ _ _ { tmps := List.toArray (_ :: _ :: _ :: _ :: _ :: .pointer (some ⟨rb, 0, none⟩) :: .int .i64 (i : Int) :: .slice (some ⟨g, 0, none⟩) N N :: .int .i64 (N : Int) :: .int .i64 ((N : Int) - 1) :: .bool true :: .bool true :: .pointer (some ⟨rb, 1, none⟩) :: .int .i64 l :: _ :: _ :: _ :: _ :: _ :: _ :: _ :: _ :: _ :: _ :: _ :: _ :: _ :: _ :: _ :: _ :: []), defers := [] } _
    refine wpAnyH_take (i := 9) (v := .slice (some ⟨g, 0, none⟩) N N) rfl (by kernel_rfl) (by kernel_rfl) (by kernel_rfl) (fun _ _ _ h => h) (Or.inl ⟨by kernel_rfl, fun w hS => by go_simp⟩) hHeld ?_
    change wpAnyH _ _ _ _ _ _ _ { tmps := List.toArray (_ :: _ :: _ :: _ :: _ :: .pointer (some ⟨rb, 0, none⟩) :: .int .i64 (i : Int) :: .slice (some ⟨g, 0, none⟩) N N :: .int .i64 (N : Int) :: .int .i64 ((N : Int) - 1) :: .bool true :: .bool true :: .pointer (some ⟨rb, 1, none⟩) :: .int .i64 l :: .slice (some ⟨g, 0, none⟩) N N :: _ :: _ :: _ :: _ :: _ :: _ :: _ :: _ :: _ :: _ :: _ :: _ :: _ :: _ :: _ :: []), defers := [] } _
    refine wpAnyH_take (i := 10) (v := .pointer (some ⟨rb, 0, none⟩)) rfl (by kernel_rfl) (by kernel_rfl) (by kernel_rfl) (fun _ _ _ h => h) (Or.inl ⟨by kernel_rfl, fun w hS => by go_simp⟩) hHeld ?_
    change wpAnyH _ _ _ _ _ _ _ { tmps := List.toArray (_ :: _ :: _ :: _ :: _ :: .pointer (some ⟨rb, 0, none⟩) :: .int .i64 (i : Int) :: .slice (some ⟨g, 0, none⟩) N N :: .int .i64 (N : Int) :: .int .i64 ((N : Int) - 1) :: .bool true :: .bool true :: .pointer (some ⟨rb, 1, none⟩) :: .int .i64 l :: .slice (some ⟨g, 0, none⟩) N N :: .pointer (some ⟨rb, 0, none⟩) :: _ :: _ :: _ :: _ :: _ :: _ :: _ :: _ :: _ :: _ :: _ :: _ :: _ :: _ :: []), defers := [] } _
    refine wpAnyH_take (i := 11) (v := .int .i64 (i : Int)) rfl (by kernel_rfl) (by kernel_rfl) (by kernel_rfl) (fun _ _ _ h => h) (Or.inl ⟨by kernel_rfl, fun w hS => by (obtain ⟨hS0, hS1, hS2, hS3, hS4⟩ := hS; go_simp)⟩) hHeld ?_
    change wpAnyH _ _ _ _ _ _ _ { tmps := List.toArray (_ :: _ :: _ :: _ :: _ :: .pointer (some ⟨rb, 0, none⟩) :: .int .i64 (i : Int) :: .slice (some ⟨g, 0, none⟩) N N :: .int .i64 (N : Int) :: .int .i64 ((N : Int) - 1) :: .bool true :: .bool true :: .pointer (some ⟨rb, 1, none⟩) :: .int .i64 l :: .slice (some ⟨g, 0, none⟩) N N :: .pointer (some ⟨rb, 0, none⟩) :: .int .i64 (i : Int) :: _ :: _ :: _ :: _ :: _ :: _ :: _ :: _ :: _ :: _ :: _ :: _ :: _ :: []), defers := [] } _
    refine wpAnyH_take (i := 12) (v := .pointer (some ⟨g, i, none⟩)) rfl (by kernel_rfl) (by kernel_rfl) (by kernel_rfl) (fun _ _ _ h => h) (Or.inl ⟨by kernel_rfl, fun w hS => by go_simp⟩) hHeld ?_
    change wpAnyH _ _ _ _ _ _ _ { tmps := List.toArray (_ :: _ :: _ :: _ :: _ :: .pointer (some ⟨rb, 0, none⟩) :: .int .i64 (i : Int) :: .slice (some ⟨g, 0, none⟩) N N :: .int .i64 (N : Int) :: .int .i64 ((N : Int) - 1) :: .bool true :: .bool true :: .pointer (some ⟨rb, 1, none⟩) :: .int .i64 l :: .slice (some ⟨g, 0, none⟩) N N :: .pointer (some ⟨rb, 0, none⟩) :: .int .i64 (i : Int) :: .pointer (some ⟨g, i, none⟩) :: _ :: _ :: _ :: _ :: _ :: _ :: _ :: _ :: _ :: _ :: _ :: _ :: []), defers := [] } _
    refine wpAnyH_take (i := 13) (v := .slice la ln lc) rfl (by kernel_rfl) (by kernel_rfl) (by kernel_rfl) (fun _ _ _ h => h) (Or.inl ⟨by kernel_rfl, fun w hS => by (obtain ⟨hS0, hS1, hS2, hS3, hS4⟩ := hS; go_simp)⟩) hHeld ?_
    change wpAnyH _ _ _ _ _ _ _ { tmps := List.toArray (_ :: _ :: _ :: _ :: _ :: .pointer (some ⟨rb, 0, none⟩) :: .int .i64 (i : Int) :: .slice (some ⟨g, 0, none⟩) N N :: .int .i64 (N : Int) :: .int .i64 ((N : Int) - 1) :: .bool true :: .bool true :: .pointer (some ⟨rb, 1, none⟩) :: .int .i64 l :: .slice (some ⟨g, 0, none⟩) N N :: .pointer (some ⟨rb, 0, none⟩) :: .int .i64 (i : Int) :: .pointer (some ⟨g, i, none⟩) :: .slice la ln lc :: _ :: _ :: _ :: _ :: _ :: _ :: _ :: _ :: _ :: _ :: _ :: []), defers := [] } _
    refine wpAnyH_take (i := 14) (v := .int .i64 (ln : Int)) rfl (by kernel_rfl) (by kernel_rfl) (by kernel_rfl) (fun _ _ _ h => h) (Or.inl ⟨by kernel_rfl, fun w hS => by go_simp⟩) hHeld ?_
    change wpAnyH _ _ _ _ _ _ _ { tmps := List.toArray (_ :: _ :: _ :: _ :: _ :: .pointer (some ⟨rb, 0, none⟩) :: .int .i64 (i : Int) :: .slice (some ⟨g, 0, none⟩) N N :: .int .i64 (N : Int) :: .int .i64 ((N : Int) - 1) :: .bool true :: .bool true :: .pointer (some ⟨rb, 1, none⟩) :: .int .i64 l :: .slice (some ⟨g, 0, none⟩) N N :: .pointer (some ⟨rb, 0, none⟩) :: .int .i64 (i : Int) :: .pointer (some ⟨g, i, none⟩) :: .slice la ln lc :: .int .i64 (ln : Int) :: _ :: _ :: _ :: _ :: _ :: _ :: _ :: _ :: _ :: _ :: []), defers := [] } _
    refine wpAnyH_take (i := 15) (v := .int .i64 ((ln : Int) - 1)) rfl (by kernel_rfl) (by kernel_rfl) (by kernel_rfl) (fun _ _ _ h => h) (Or.inl ⟨by kernel_rfl, fun w hS => by go_simp⟩) hHeld ?_
    change wpAnyH _ _ _ _ _ _ _ { tmps := List.toArray (_ :: _ :: _ :: _ :: _ :: .pointer (some ⟨rb, 0, none⟩) :: .int .i64 (i : Int) :: .slice (some ⟨g, 0, none⟩) N N :: .int .i64 (N : Int) :: .int .i64 ((N : Int) - 1) :: .bool true :: .bool true :: .pointer (some ⟨rb, 1, none⟩) :: .int .i64 l :: .slice (some ⟨g, 0, none⟩) N N :: .pointer (some ⟨rb, 0, none⟩) :: .int .i64 (i : Int) :: .pointer (some ⟨g, i, none⟩) :: .slice la ln lc :: .int .i64 (ln : Int) :: .int .i64 ((ln : Int) - 1) :: _ :: _ :: _ :: _ :: _ :: _ :: _ :: _ :: _ :: []), defers := [] } _
    refine wpAnyH_ready (rs := [16]) (by kernel_rfl) (by simp) ?_
    refine (AllReadyH.cons rfl (fun KK hK => ?_) AllReadyH.nil)
    go_simp
    refine (cWithin l 0 ((ln : Int) - 1) wd).mono ?_
    rintro e wp ⟨rfl, hwp⟩
    subst wp
    rw [hLl]
    go_wp2_with fail
    clear hHeld
    refine hK.out _ _ (⟨d0, d1, d2, d3, d4⟩) (fun hHeld => ?_)
    clear hK KK
    change wpAnyH _ _ _ _ _ _ _ { tmps := List.toArray (_ :: _ :: _ :: _ :: _ :: .pointer (some ⟨rb, 0, none⟩) :: .int .i64 (i : Int) :: .slice (some ⟨g, 0, none⟩) N N :: .int .i64 (N : Int) :: .int .i64 ((N : Int) - 1) :: .bool true :: .bool true :: .pointer (some ⟨rb, 1, none⟩) :: .int .i64 l :: .slice (some ⟨g, 0, none⟩) N N :: .pointer (some ⟨rb, 0, none⟩) :: .int .i64 (i : Int) :: .pointer (some ⟨g, i, none⟩) :: .slice la ln lc :: .int .i64 (ln : Int) :: .int .i64 ((ln : Int) - 1) :: .bool true :: _ :: _ :: _ :: _ :: _ :: _ :: _ :: _ :: []), defers := [] } _
    refine wpAnyH_take (i := 17) (v := .bool true) rfl (by kernel_rfl) (by kernel_rfl) (by kernel_rfl) (fun _ _ _ h => h) (Or.inl ⟨by kernel_rfl, fun w hS => by go_simp⟩) hHeld ?_
    change wpAnyH _ _ _ _ _ _ _ { tmps := List.toArray (_ :: _ :: _ :: _ :: _ :: .pointer (some ⟨rb, 0, none⟩) :: .int .i64 (i : Int) :: .slice (some ⟨g, 0, none⟩) N N :: .int .i64 (N : Int) :: .int .i64 ((N : Int) - 1) :: .bool true :: .bool true :: .pointer (some ⟨rb, 1, none⟩) :: .int .i64 l :: .slice (some ⟨g, 0, none⟩) N N :: .pointer (some ⟨rb, 0, none⟩) :: .int .i64 (i : Int) :: .pointer (some ⟨g, i, none⟩) :: .slice la ln lc :: .int .i64 (ln : Int) :: .int .i64 ((ln : Int) - 1) :: .bool true :: .bool true :: _ :: _ :: _ :: _ :: _ :: _ :: _ :: []), defers := [] } _
    refine wpAnyH_take (i := 18) (v := .bool true) rfl (by kernel_rfl) (by kernel_rfl) (by kernel_rfl) (fun _ _ _ h => h) (Or.inl ⟨by kernel_rfl, fun w hS => by go_simp⟩) hHeld ?_
    change wpAnyH _ _ _ _ _ _ _ { tmps := List.toArray (_ :: _ :: _ :: _ :: _ :: .pointer (some ⟨rb, 0, none⟩) :: .int .i64 (i : Int) :: .slice (some ⟨g, 0, none⟩) N N :: .int .i64 (N : Int) :: .int .i64 ((N : Int) - 1) :: .bool true :: .bool true :: .pointer (some ⟨rb, 1, none⟩) :: .int .i64 l :: .slice (some ⟨g, 0, none⟩) N N :: .pointer (some ⟨rb, 0, none⟩) :: .int .i64 (i : Int) :: .pointer (some ⟨g, i, none⟩) :: .slice la ln lc :: .int .i64 (ln : Int) :: .int .i64 ((ln : Int) - 1) :: .bool true :: .bool true :: .bool true :: _ :: _ :: _ :: _ :: _ :: _ :: []), defers := [] } _
    refine wpAnyH_take (i := 19) (v := .pointer (some ⟨rb, 2, none⟩)) rfl (by kernel_rfl) (by kernel_rfl) (by kernel_rfl) (fun _ _ _ h => h) (Or.inl ⟨by kernel_rfl, fun w hS => by go_simp⟩) hHeld ?_
    change wpAnyH _ _ _ _ _ _ _ { tmps := List.toArray (_ :: _ :: _ :: _ :: _ :: .pointer (some ⟨rb, 0, none⟩) :: .int .i64 (i : Int) :: .slice (some ⟨g, 0, none⟩) N N :: .int .i64 (N : Int) :: .int .i64 ((N : Int) - 1) :: .bool true :: .bool true :: .pointer (some ⟨rb, 1, none⟩) :: .int .i64 l :: .slice (some ⟨g, 0, none⟩) N N :: .pointer (some ⟨rb, 0, none⟩) :: .int .i64 (i : Int) :: .pointer (some ⟨g, i, none⟩) :: .slice la ln lc :: .int .i64 (ln : Int) :: .int .i64 ((ln : Int) - 1) :: .bool true :: .bool true :: .bool true :: .pointer (some ⟨rb, 2, none⟩) :: _ :: _ :: _ :: _ :: _ :: []), defers := [] } _
    refine wpAnyH_take (i := 20) (v := .int .i64 f) rfl (by kernel_rfl) (by kernel_rfl) (by kernel_rfl) (fun _ _ _ h => h) (Or.inl ⟨by kernel_rfl, fun w hS => by (obtain ⟨hS0, hS1, hS2, hS3, hS4⟩ := hS; go_simp)⟩) hHeld ?_
    change wpAnyH _ _ _ _ _ _ _ { tmps := List.toArray (_ :: _ :: _ :: _ :: _ :: .pointer (some ⟨rb, 0, none⟩) :: .int .i64 (i : Int) :: .slice (some ⟨g, 0, none⟩) N N :: .int .i64 (N : Int) :: .int .i64 ((N : Int) - 1) :: .bool true :: .bool true :: .pointer (some ⟨rb, 1, none⟩) :: .int .i64 l :: .slice (some ⟨g, 0, none⟩) N N :: .pointer (some ⟨rb, 0, none⟩) :: .int .i64 (i : Int) :: .pointer (some ⟨g, i, none⟩) :: .slice la ln lc :: .int .i64 (ln : Int) :: .int .i64 ((ln : Int) - 1) :: .bool true :: .bool true :: .bool true :: .pointer (some ⟨rb, 2, none⟩) :: .int .i64 f :: _ :: _ :: _ :: _ :: []), defers := [] } _
    refine wpAnyH_take (i := 21) (v := .pointer (some ⟨rb, 3, none⟩)) rfl (by kernel_rfl) (by kernel_rfl) (by kernel_rfl) (fun _ _ _ h => h) (Or.inl ⟨by kernel_rfl, fun w hS => by go_simp⟩) hHeld ?_
    change wpAnyH _ _ _ _ _ _ _ { tmps := List.toArray (_ :: _ :: _ :: _ :: _ :: .pointer (some ⟨rb, 0, none⟩) :: .int .i64 (i : Int) :: .slice (some ⟨g, 0, none⟩) N N :: .int .i64 (N : Int) :: .int .i64 ((N : Int) - 1) :: .bool true :: .bool true :: .pointer (some ⟨rb, 1, none⟩) :: .int .i64 l :: .slice (some ⟨g, 0, none⟩) N N :: .pointer (some ⟨rb, 0, none⟩) :: .int .i64 (i : Int) :: .pointer (some ⟨g, i, none⟩) :: .slice la ln lc :: .int .i64 (ln : Int) :: .int .i64 ((ln : Int) - 1) :: .bool true :: .bool true :: .bool true :: .pointer (some ⟨rb, 2, none⟩) :: .int .i64 f :: .pointer (some ⟨rb, 3, none⟩) :: _ :: _ :: _ :: []), defers := [] } _
    refine wpAnyH_take (i := 22) (v := .int .i64 o) rfl (by kernel_rfl) (by kernel_rfl) (by kernel_rfl) (fun _ _ _ h => h) (Or.inl ⟨by kernel_rfl, fun w hS => by (obtain ⟨hS0, hS1, hS2, hS3, hS4⟩ := hS; go_simp)⟩) hHeld ?_
    change wpAnyH _ _ _ _ _ _ _ { tmps := List.toArray (_ :: _ :: _ :: _ :: _ :: .pointer (some ⟨rb, 0, none⟩) :: .int .i64 (i : Int) :: .slice (some ⟨g, 0, none⟩) N N :: .int .i64 (N : Int) :: .int .i64 ((N : Int) - 1) :: .bool true :: .bool true :: .pointer (some ⟨rb, 1, none⟩) :: .int .i64 l :: .slice (some ⟨g, 0, none⟩) N N :: .pointer (some ⟨rb, 0, none⟩) :: .int .i64 (i : Int) :: .pointer (some ⟨g, i, none⟩) :: .slice la ln lc :: .int .i64 (ln : Int) :: .int .i64 ((ln : Int) - 1) :: .bool true :: .bool true :: .bool true :: .pointer (some ⟨rb, 2, none⟩) :: .int .i64 f :: .pointer (some ⟨rb, 3, none⟩) :: .int .i64 o :: _ :: _ :: []), defers := [] } _
    refine wpAnyH_take (i := 23) (v := .bool (decide (f < o))) rfl (by kernel_rfl) (by kernel_rfl) (by kernel_rfl) (fun _ _ _ h => h) (Or.inl ⟨by kernel_rfl, fun w hS => by go_simp⟩) hHeld ?_
    change wpAnyH _ _ _ _ _ _ _ { tmps := List.toArray (_ :: _ :: _ :: _ :: _ :: .pointer (some ⟨rb, 0, none⟩) :: .int .i64 (i : Int) :: .slice (some ⟨g, 0, none⟩) N N :: .int .i64 (N : Int) :: .int .i64 ((N : Int) - 1) :: .bool true :: .bool true :: .pointer (some ⟨rb, 1, none⟩) :: .int .i64 l :: .slice (some ⟨g, 0, none⟩) N N :: .pointer (some ⟨rb, 0, none⟩) :: .int .i64 (i : Int) :: .pointer (some ⟨g, i, none⟩) :: .slice la ln lc :: .int .i64 (ln : Int) :: .int .i64 ((ln : Int) - 1) :: .bool true :: .bool true :: .bool true :: .pointer (some ⟨rb, 2, none⟩) :: .int .i64 f :: .pointer (some ⟨rb, 3, none⟩) :: .int .i64 o :: .bool (decide (f < o)) :: _ :: []), defers := [] } _
    refine wpAnyH_take (i := 24) (v := .bool (decide (f < o))) rfl (by kernel_rfl) (by kernel_rfl) (by kernel_rfl) (fun _ _ _ h => h) (Or.inl ⟨by kernel_rfl, fun w hS => by go_simp⟩) hHeld ?_
    change wpAnyH _ _ _ _ _ _ _ { tmps := List.toArray (_ :: _ :: _ :: _ :: _ :: .pointer (some ⟨rb, 0, none⟩) :: .int .i64 (i : Int) :: .slice (some ⟨g, 0, none⟩) N N :: .int .i64 (N : Int) :: .int .i64 ((N : Int) - 1) :: .bool true :: .bool true :: .pointer (some ⟨rb, 1, none⟩) :: .int .i64 l :: .slice (some ⟨g, 0, none⟩) N N :: .pointer (some ⟨rb, 0, none⟩) :: .int .i64 (i : Int) :: .pointer (some ⟨g, i, none⟩) :: .slice la ln lc :: .int .i64 (ln : Int) :: .int .i64 ((ln : Int) - 1) :: .bool true :: .bool true :: .bool true :: .pointer (some ⟨rb, 2, none⟩) :: .int .i64 f :: .pointer (some ⟨rb, 3, none⟩) :: .int .i64 o :: .bool (decide (f < o)) :: .bool (decide (f < o)) :: []), defers := [] } _
    refine wpAnyH_take (i := 25) (v := .bool (decide (f < o))) rfl (by kernel_rfl) (by kernel_rfl) (by kernel_rfl) (fun _ _ _ h => h) (Or.inl ⟨by kernel_rfl, fun w hS => by go_simp⟩) hHeld ?_
    change wpAnyH _ _ _ _ _ _ _ { tmps := List.toArray (_ :: _ :: _ :: _ :: .bool (decide (f < o)) :: .pointer (some ⟨rb, 0, none⟩) :: .int .i64 (i : Int) :: .slice (some ⟨g, 0, none⟩) N N :: .int .i64 (N : Int) :: .int .i64 ((N : Int) - 1) :: .bool true :: .bool true :: .pointer (some ⟨rb, 1, none⟩) :: .int .i64 l :: .slice (some ⟨g, 0, none⟩) N N :: .pointer (some ⟨rb, 0, none⟩) :: .int .i64 (i : Int) :: .pointer (some ⟨g, i, none⟩) :: .slice la ln lc :: .int .i64 (ln : Int) :: .int .i64 ((ln : Int) - 1) :: .bool true :: .bool true :: .bool true :: .pointer (some ⟨rb, 2, none⟩) :: .int .i64 f :: .pointer (some ⟨rb, 3, none⟩) :: .int .i64 o :: .bool (decide (f < o)) :: .bool (decide (f < o)) :: []), defers := [] } _
    refine wpAnyH_done (by kernel_rfl) ?_ _
    go_wp2
    go_ret
    exact ⟨ret_bool E.out.symm, by rw [hrb.out]; exact HBd⟩
end Go.Proofs.Ythfknkmabjgklaa
