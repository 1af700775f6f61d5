/- Shrink of the model. -/
import Derived.Test.YtnbfkkmjehhihaaDoorZD
namespace Go.Proofs.YtnbfkkmjehhihaaDoor
open Go.RowKit

theorem cTrainsV {n : Int} {ts : List SpanV} {r : Bool} (h : trainsOk n ts = r) (a : Option Addr) (cap : Nat) (w : World) (he : Spans w a ts) (hl : ts.length ≤ 1048576) :
    Calls Tryd.prog 10 #[.int .i64 n, .slice a ts.length cap] w fun e w' => e = .returned (.bool r) ∧ Below w.heap.size w w' := by
  rw [← h]; exact cTrainsS a cap n ts w he hl

set_option maxRecDepth 20000 in
set_option maxHeartbeats 3200000 in
theorem cShrS (a : Option Addr) (cap : Nat) (n : Int) (ts : List SpanV) (k : Int) (w : World) (he : Spans w a ts) (hl : ts.length ≤ 1048576) :
    Calls Tryd.prog 23 #[.int .i64 n, .slice a ts.length cap, .int .i64 k] w fun e w' => ∃ v, e = .returned (.tuple #[v, .bool (shrR n ts k).isSome]) ∧
      w'.ownsRow w.heap.size 52 2 v ((shrR n ts k).getD []).length (flatSpans ((shrR n ts k).getD [])) ∧ Below w.heap.size w w' := by
  cases h : trainsOk n ts
  · have R := hide (shrR_no (k := k) h)
    generalize shrR n ts k = r at *
    go_enter Tryd.func23, Tryd.ntmps23
    go_wp2_with fail
    refine wp_region_any (by kernel_rfl) ?_
    change wpAny _ _ _ _ _ _ _ (World.drew _)
    refine wpAny_take (i := 0) (v := .int .i64 n) rfl (by kernel_rfl) (by kernel_rfl) (by kernel_rfl) (fun _ _ _ h => h) (Or.inl ⟨by kernel_rfl, fun w => by go_simp⟩) ?_
    change wpAny _ _ _ _ _ _ { tmps := #[.int .i64 n, .slice a ts.length cap, .int .i64 k, undef, undef, undef, .slice none 0 0, .bool false, .int .i64 n, undef, undef, undef, undef, undef, undef, undef, undef, undef, undef, undef, undef, undef, undef, undef, undef, undef, undef, undef, undef, undef, undef, undef, undef, undef, undef, undef, undef, undef, undef, undef, undef, undef, undef, undef, undef, undef, undef, undef], defers := [] } _
    refine wpAny_take (i := 1) (v := .slice a ts.length cap) rfl (by kernel_rfl) (by kernel_rfl) (by kernel_rfl) (fun _ _ _ h => h) (Or.inl ⟨by kernel_rfl, fun w => by go_simp⟩) ?_
    change wpAny _ _ _ _ _ _ { tmps := #[.int .i64 n, .slice a ts.length cap, .int .i64 k, undef, undef, undef, .slice none 0 0, .bool false, .int .i64 n, .slice a ts.length cap, undef, undef, undef, undef, undef, undef, undef, undef, undef, undef, undef, undef, undef, undef, undef, undef, undef, undef, undef, undef, undef, undef, undef, undef, undef, undef, undef, undef, undef, undef, undef, undef, undef, undef, undef, undef, undef, undef], defers := [] } _
    refine wpAny_ready (rs := [2]) (by kernel_rfl) (by simp) ?_
    refine AllReady.cons rfl (fun K hK => ?_) AllReady.nil
    go_simp
    go_wp2_with (first | (go_at_call 10; refine (cTrainsV h _ _ _ (he.below (Below.refl _ _).drew) hl).mono ?_; rintro e w1 ⟨rfl, hb⟩; have HB1 := undrew hb; clear hb))
    try (refine hK _ _ ?_)
    try (clear hK K)
    change wpAny _ _ _ _ _ _ { tmps := #[.int .i64 n, .slice a ts.length cap, .int .i64 k, undef, undef, undef, .slice none 0 0, .bool false, .int .i64 n, .slice a ts.length cap, .bool false, undef, undef, undef, undef, undef, undef, undef, undef, undef, undef, undef, undef, undef, undef, undef, undef, undef, undef, undef, undef, undef, undef, undef, undef, undef, undef, undef, undef, undef, undef, undef, undef, undef, undef, undef, undef, undef], defers := [] } _
    refine wpAny_take (i := 3) (v := .bool true) rfl (by kernel_rfl) (by kernel_rfl) (by kernel_rfl) (fun _ _ _ h => h) (Or.inl ⟨by kernel_rfl, fun w => by go_simp⟩) ?_
    change wpAny _ _ _ _ _ _ { tmps := #[.int .i64 n, .slice a ts.length cap, .int .i64 k, undef, undef, undef, .slice none 0 0, .bool false, .int .i64 n, .slice a ts.length cap, .bool false, .bool true, undef, undef, undef, undef, undef, undef, undef, undef, undef, undef, undef, undef, undef, undef, undef, undef, undef, undef, undef, undef, undef, undef, undef, undef, undef, undef, undef, undef, undef, undef, undef, undef, undef, undef, undef, undef], defers := [] } _
    refine wpAny_take (i := 4) (v := .bool true) rfl (by kernel_rfl) (by kernel_rfl) (by kernel_rfl) (fun _ _ _ h => h) (Or.inl ⟨by kernel_rfl, fun w => by go_simp⟩) ?_
    change wpAny _ _ _ _ _ _ { tmps := #[.int .i64 n, .slice a ts.length cap, .int .i64 k, undef, undef, undef, .slice none 0 0, .bool false, .int .i64 n, .slice a ts.length cap, .bool false, .bool true, .bool true, undef, undef, undef, undef, undef, undef, undef, undef, undef, undef, undef, undef, undef, undef, undef, undef, undef, undef, undef, undef, undef, undef, undef, undef, undef, undef, undef, undef, undef, undef, undef, undef, undef, undef, undef], defers := [] } _
    refine wpAny_take (i := 5) (v := undef) rfl (by kernel_rfl) (by kernel_rfl) (by kernel_rfl) (fun _ _ _ h => h) (Or.inr ⟨by kernel_rfl, rfl⟩) ?_
    change wpAny _ _ _ _ _ _ { tmps := #[.int .i64 n, .slice a ts.length cap, .int .i64 k, undef, undef, undef, .slice none 0 0, .bool false, .int .i64 n, .slice a ts.length cap, .bool false, .bool true, .bool true, undef, undef, undef, undef, undef, undef, undef, undef, undef, undef, undef, undef, undef, undef, undef, undef, undef, undef, undef, undef, undef, undef, undef, undef, undef, undef, undef, undef, undef, undef, undef, undef, undef, undef, undef], defers := [] } _
    refine wpAny_take (i := 6) (v := undef) rfl (by kernel_rfl) (by kernel_rfl) (by kernel_rfl) (fun _ _ _ h => h) (Or.inr ⟨by kernel_rfl, rfl⟩) ?_
    change wpAny _ _ _ _ _ _ { tmps := #[.int .i64 n, .slice a ts.length cap, .int .i64 k, undef, undef, undef, .slice none 0 0, .bool false, .int .i64 n, .slice a ts.length cap, .bool false, .bool true, .bool true, undef, undef, undef, undef, undef, undef, undef, undef, undef, undef, undef, undef, undef, undef, undef, undef, undef, undef, undef, undef, undef, undef, undef, undef, undef, undef, undef, undef, undef, undef, undef, undef, undef, undef, undef], defers := [] } _
    refine wpAny_take (i := 7) (v := undef) rfl (by kernel_rfl) (by kernel_rfl) (by kernel_rfl) (fun _ _ _ h => h) (Or.inr ⟨by kernel_rfl, rfl⟩) ?_
    change wpAny _ _ _ _ _ _ { tmps := #[.int .i64 n, .slice a ts.length cap, .int .i64 k, undef, undef, undef, .slice none 0 0, .bool false, .int .i64 n, .slice a ts.length cap, .bool false, .bool true, .bool true, undef, undef, undef, undef, undef, undef, undef, undef, undef, undef, undef, undef, undef, undef, undef, undef, undef, undef, undef, undef, undef, undef, undef, undef, undef, undef, undef, undef, undef, undef, undef, undef, undef, undef, undef], defers := [] } _
    refine wpAny_take (i := 8) (v := undef) rfl (by kernel_rfl) (by kernel_rfl) (by kernel_rfl) (fun _ _ _ h => h) (Or.inr ⟨by kernel_rfl, rfl⟩) ?_
    change wpAny _ _ _ _ _ _ { tmps := #[.int .i64 n, .slice a ts.length cap, .int .i64 k, undef, undef, undef, .slice none 0 0, .bool false, .int .i64 n, .slice a ts.length cap, .bool false, .bool true, .bool true, undef, undef, undef, undef, undef, undef, undef, undef, undef, undef, undef, undef, undef, undef, undef, undef, undef, undef, undef, undef, undef, undef, undef, undef, undef, undef, undef, undef, undef, undef, undef, undef, undef, undef, undef], defers := [] } _
    refine wpAny_take (i := 9) (v := undef) rfl (by kernel_rfl) (by kernel_rfl) (by kernel_rfl) (fun _ _ _ h => h) (Or.inr ⟨by kernel_rfl, rfl⟩) ?_
    change wpAny _ _ _ _ _ _ { tmps := #[.int .i64 n, .slice a ts.length cap, .int .i64 k, undef, undef, undef, .slice none 0 0, .bool false, .int .i64 n, .slice a ts.length cap, .bool false, .bool true, .bool true, undef, undef, undef, undef, undef, undef, undef, undef, undef, undef, undef, undef, undef, undef, undef, undef, undef, undef, undef, undef, undef, undef, undef, undef, undef, undef, undef, undef, undef, undef, undef, undef, undef, undef, undef], defers := [] } _
    refine wpAny_take (i := 10) (v := undef) rfl (by kernel_rfl) (by kernel_rfl) (by kernel_rfl) (fun _ _ _ h => h) (Or.inr ⟨by kernel_rfl, rfl⟩) ?_
    change wpAny _ _ _ _ _ _ { tmps := #[.int .i64 n, .slice a ts.length cap, .int .i64 k, undef, undef, undef, .slice none 0 0, .bool false, .int .i64 n, .slice a ts.length cap, .bool false, .bool true, .bool true, undef, undef, undef, undef, undef, undef, undef, undef, undef, undef, undef, undef, undef, undef, undef, undef, undef, undef, undef, undef, undef, undef, undef, undef, undef, undef, undef, undef, undef, undef, undef, undef, undef, undef, undef], defers := [] } _
    refine wpAny_take (i := 11) (v := .bool true) rfl (by kernel_rfl) (by kernel_rfl) (by kernel_rfl) (fun _ _ _ h => h) (Or.inl ⟨by kernel_rfl, fun w => by go_simp⟩) ?_
    change wpAny _ _ _ _ _ _ { tmps := #[.int .i64 n, .slice a ts.length cap, .int .i64 k, undef, undef, undef, .slice none 0 0, .bool false, .int .i64 n, .slice a ts.length cap, .bool false, .bool true, .bool true, undef, undef, undef, undef, undef, undef, .bool true, undef, undef, undef, undef, undef, undef, undef, undef, undef, undef, undef, undef, undef, undef, undef, undef, undef, undef, undef, undef, undef, undef, undef, undef, undef, undef, undef, undef], defers := [] } _
    refine wpAny_take (i := 12) (v := .bool true) rfl (by kernel_rfl) (by kernel_rfl) (by kernel_rfl) (fun _ _ _ h => h) (Or.inl ⟨by kernel_rfl, fun w => by go_simp⟩) ?_
    change wpAny _ _ _ _ _ _ { tmps := #[.int .i64 n, .slice a ts.length cap, .int .i64 k, undef, undef, undef, .slice none 0 0, .bool false, .int .i64 n, .slice a ts.length cap, .bool false, .bool true, .bool true, undef, undef, undef, undef, undef, undef, .bool true, .bool true, undef, undef, undef, undef, undef, undef, undef, undef, undef, undef, undef, undef, undef, undef, undef, undef, undef, undef, undef, undef, undef, undef, undef, undef, undef, undef, undef], defers := [] } _
    refine wpAny_take (i := 13) (v := undef) rfl (by kernel_rfl) (by kernel_rfl) (by kernel_rfl) (fun _ _ _ h => h) (Or.inr ⟨by kernel_rfl, rfl⟩) ?_
    change wpAny _ _ _ _ _ _ { tmps := #[.int .i64 n, .slice a ts.length cap, .int .i64 k, undef, undef, undef, .slice none 0 0, .bool false, .int .i64 n, .slice a ts.length cap, .bool false, .bool true, .bool true, undef, undef, undef, undef, undef, undef, .bool true, .bool true, undef, undef, undef, undef, undef, undef, undef, undef, undef, undef, undef, undef, undef, undef, undef, undef, undef, undef, undef, undef, undef, undef, undef, undef, undef, undef, undef], defers := [] } _
    refine wpAny_take (i := 14) (v := undef) rfl (by kernel_rfl) (by kernel_rfl) (by kernel_rfl) (fun _ _ _ h => h) (Or.inr ⟨by kernel_rfl, rfl⟩) ?_
    change wpAny _ _ _ _ _ _ { tmps := #[.int .i64 n, .slice a ts.length cap, .int .i64 k, undef, undef, undef, .slice none 0 0, .bool false, .int .i64 n, .slice a ts.length cap, .bool false, .bool true, .bool true, undef, undef, undef, undef, undef, undef, .bool true, .bool true, undef, undef, undef, undef, undef, undef, undef, undef, undef, undef, undef, undef, undef, undef, undef, undef, undef, undef, undef, undef, undef, undef, undef, undef, undef, undef, undef], defers := [] } _
    refine wpAny_take (i := 15) (v := undef) rfl (by kernel_rfl) (by kernel_rfl) (by kernel_rfl) (fun _ _ _ h => h) (Or.inr ⟨by kernel_rfl, rfl⟩) ?_
    change wpAny _ _ _ _ _ _ { tmps := #[.int .i64 n, .slice a ts.length cap, .int .i64 k, undef, undef, undef, .slice none 0 0, .bool false, .int .i64 n, .slice a ts.length cap, .bool false, .bool true, .bool true, undef, undef, undef, undef, undef, undef, .bool true, .bool true, undef, undef, undef, undef, undef, undef, undef, undef, undef, undef, undef, undef, undef, undef, undef, undef, undef, undef, undef, undef, undef, undef, undef, undef, undef, undef, undef], defers := [] } _
    refine wpAny_take (i := 16) (v := undef) rfl (by kernel_rfl) (by kernel_rfl) (by kernel_rfl) (fun _ _ _ h => h) (Or.inr ⟨by kernel_rfl, rfl⟩) ?_
    change wpAny _ _ _ _ _ _ { tmps := #[.int .i64 n, .slice a ts.length cap, .int .i64 k, undef, undef, undef, .slice none 0 0, .bool false, .int .i64 n, .slice a ts.length cap, .bool false, .bool true, .bool true, undef, undef, undef, undef, undef, undef, .bool true, .bool true, undef, undef, undef, undef, undef, undef, undef, undef, undef, undef, undef, undef, undef, undef, undef, undef, undef, undef, undef, undef, undef, undef, undef, undef, undef, undef, undef], defers := [] } _
    refine wpAny_take (i := 17) (v := undef) rfl (by kernel_rfl) (by kernel_rfl) (by kernel_rfl) (fun _ _ _ h => h) (Or.inr ⟨by kernel_rfl, rfl⟩) ?_
    change wpAny _ _ _ _ _ _ { tmps := #[.int .i64 n, .slice a ts.length cap, .int .i64 k, undef, undef, undef, .slice none 0 0, .bool false, .int .i64 n, .slice a ts.length cap, .bool false, .bool true, .bool true, undef, undef, undef, undef, undef, undef, .bool true, .bool true, undef, undef, undef, undef, undef, undef, undef, undef, undef, undef, undef, undef, undef, undef, undef, undef, undef, undef, undef, undef, undef, undef, undef, undef, undef, undef, undef], defers := [] } _
    refine wpAny_take (i := 18) (v := undef) rfl (by kernel_rfl) (by kernel_rfl) (by kernel_rfl) (fun _ _ _ h => h) (Or.inr ⟨by kernel_rfl, rfl⟩) ?_
    change wpAny _ _ _ _ _ _ { tmps := #[.int .i64 n, .slice a ts.length cap, .int .i64 k, undef, undef, undef, .slice none 0 0, .bool false, .int .i64 n, .slice a ts.length cap, .bool false, .bool true, .bool true, undef, undef, undef, undef, undef, undef, .bool true, .bool true, undef, undef, undef, undef, undef, undef, undef, undef, undef, undef, undef, undef, undef, undef, undef, undef, undef, undef, undef, undef, undef, undef, undef, undef, undef, undef, undef], defers := [] } _
    refine wpAny_take (i := 19) (v := undef) rfl (by kernel_rfl) (by kernel_rfl) (by kernel_rfl) (fun _ _ _ h => h) (Or.inr ⟨by kernel_rfl, rfl⟩) ?_
    change wpAny _ _ _ _ _ _ { tmps := #[.int .i64 n, .slice a ts.length cap, .int .i64 k, undef, undef, undef, .slice none 0 0, .bool false, .int .i64 n, .slice a ts.length cap, .bool false, .bool true, .bool true, undef, undef, undef, undef, undef, undef, .bool true, .bool true, undef, undef, undef, undef, undef, undef, undef, undef, undef, undef, undef, undef, undef, undef, undef, undef, undef, undef, undef, undef, undef, undef, undef, undef, undef, undef, undef], defers := [] } _
    refine wpAny_take (i := 20) (v := undef) rfl (by kernel_rfl) (by kernel_rfl) (by kernel_rfl) (fun _ _ _ h => h) (Or.inr ⟨by kernel_rfl, rfl⟩) ?_
    change wpAny _ _ _ _ _ _ { tmps := #[.int .i64 n, .slice a ts.length cap, .int .i64 k, undef, undef, undef, .slice none 0 0, .bool false, .int .i64 n, .slice a ts.length cap, .bool false, .bool true, .bool true, undef, undef, undef, undef, undef, undef, .bool true, .bool true, undef, undef, undef, undef, undef, undef, undef, undef, undef, undef, undef, undef, undef, undef, undef, undef, undef, undef, undef, undef, undef, undef, undef, undef, undef, undef, undef], defers := [] } _
    refine wpAny_take (i := 21) (v := undef) rfl (by kernel_rfl) (by kernel_rfl) (by kernel_rfl) (fun _ _ _ h => h) (Or.inr ⟨by kernel_rfl, rfl⟩) ?_
    change wpAny _ _ _ _ _ _ { tmps := #[.int .i64 n, .slice a ts.length cap, .int .i64 k, undef, undef, undef, .slice none 0 0, .bool false, .int .i64 n, .slice a ts.length cap, .bool false, .bool true, .bool true, undef, undef, undef, undef, undef, undef, .bool true, .bool true, undef, undef, undef, undef, undef, undef, undef, undef, undef, undef, undef, undef, undef, undef, undef, undef, undef, undef, undef, undef, undef, undef, undef, undef, undef, undef, undef], defers := [] } _
    refine wpAny_take (i := 22) (v := undef) rfl (by kernel_rfl) (by kernel_rfl) (by kernel_rfl) (fun _ _ _ h => h) (Or.inr ⟨by kernel_rfl, rfl⟩) ?_
    change wpAny _ _ _ _ _ _ { tmps := #[.int .i64 n, .slice a ts.length cap, .int .i64 k, undef, undef, undef, .slice none 0 0, .bool false, .int .i64 n, .slice a ts.length cap, .bool false, .bool true, .bool true, undef, undef, undef, undef, undef, undef, .bool true, .bool true, undef, undef, undef, undef, undef, undef, undef, undef, undef, undef, undef, undef, undef, undef, undef, undef, undef, undef, undef, undef, undef, undef, undef, undef, undef, undef, undef], defers := [] } _
    refine wpAny_take (i := 23) (v := undef) rfl (by kernel_rfl) (by kernel_rfl) (by kernel_rfl) (fun _ _ _ h => h) (Or.inr ⟨by kernel_rfl, rfl⟩) ?_
    change wpAny _ _ _ _ _ _ { tmps := #[.int .i64 n, .slice a ts.length cap, .int .i64 k, undef, undef, undef, .slice none 0 0, .bool false, .int .i64 n, .slice a ts.length cap, .bool false, .bool true, .bool true, undef, undef, undef, undef, undef, undef, .bool true, .bool true, undef, undef, undef, undef, undef, undef, undef, undef, undef, undef, undef, undef, undef, undef, undef, undef, undef, undef, undef, undef, undef, undef, undef, undef, undef, undef, undef], defers := [] } _
    refine wpAny_take (i := 24) (v := .bool true) rfl (by kernel_rfl) (by kernel_rfl) (by kernel_rfl) (fun _ _ _ h => h) (Or.inl ⟨by kernel_rfl, fun w => by go_simp⟩) ?_
    change wpAny _ _ _ _ _ _ { tmps := #[.int .i64 n, .slice a ts.length cap, .int .i64 k, undef, undef, undef, .slice none 0 0, .bool false, .int .i64 n, .slice a ts.length cap, .bool false, .bool true, .bool true, undef, undef, undef, undef, undef, undef, .bool true, .bool true, undef, undef, undef, undef, undef, undef, undef, undef, undef, undef, undef, .bool true, undef, undef, undef, undef, undef, undef, undef, undef, undef, undef, undef, undef, undef, undef, undef], defers := [] } _
    refine wpAny_done (by kernel_rfl) ?_ _
    go_wp2
    go_ret2
    exact ⟨_, by rw [R.out]; rfl, by rw [R.out]; exact nil_row _ _, HB1⟩
  rw [shrR_yes h]
  have hwr : IntKind.i64.wrap ((ts.length : Int) - 1) = (ts.length : Int) - 1 := wrap_in _ (by omega) (by omega)
  cases hp : inB k 0 ((ts.length : Int) - 1)
  · have R := hide (shr_place hp)
    generalize shr ts k = r at *
    go_enter Tryd.func23, Tryd.ntmps23
    go_wp2_with fail
    refine wp_region_any (by kernel_rfl) ?_
    change wpAny _ _ _ _ _ _ _ (World.drew _)
    refine wpAny_take (i := 0) (v := .int .i64 n) rfl (by kernel_rfl) (by kernel_rfl) (by kernel_rfl) (fun _ _ _ h => h) (Or.inl ⟨by kernel_rfl, fun w => by go_simp⟩) ?_
    change wpAny _ _ _ _ _ _ { tmps := #[.int .i64 n, .slice a ts.length cap, .int .i64 k, undef, undef, undef, .slice none 0 0, .bool false, .int .i64 n, undef, undef, undef, undef, undef, undef, undef, undef, undef, undef, undef, undef, undef, undef, undef, undef, undef, undef, undef, undef, undef, undef, undef, undef, undef, undef, undef, undef, undef, undef, undef, undef, undef, undef, undef, undef, undef, undef, undef], defers := [] } _
    refine wpAny_take (i := 1) (v := .slice a ts.length cap) rfl (by kernel_rfl) (by kernel_rfl) (by kernel_rfl) (fun _ _ _ h => h) (Or.inl ⟨by kernel_rfl, fun w => by go_simp⟩) ?_
    change wpAny _ _ _ _ _ _ { tmps := #[.int .i64 n, .slice a ts.length cap, .int .i64 k, undef, undef, undef, .slice none 0 0, .bool false, .int .i64 n, .slice a ts.length cap, undef, undef, undef, undef, undef, undef, undef, undef, undef, undef, undef, undef, undef, undef, undef, undef, undef, undef, undef, undef, undef, undef, undef, undef, undef, undef, undef, undef, undef, undef, undef, undef, undef, undef, undef, undef, undef, undef], defers := [] } _
    refine wpAny_ready (rs := [2]) (by kernel_rfl) (by simp) ?_
    refine AllReady.cons rfl (fun K hK => ?_) AllReady.nil
    go_simp
    go_wp2_with (first | (go_at_call 10; refine (cTrainsV h _ _ _ (he.below (Below.refl _ _).drew) hl).mono ?_; rintro e w1 ⟨rfl, hb⟩; have HB1 := undrew hb; clear hb))
    try (refine hK _ _ ?_)
    try (clear hK K)
    change wpAny _ _ _ _ _ _ { tmps := #[.int .i64 n, .slice a ts.length cap, .int .i64 k, undef, undef, undef, .slice none 0 0, .bool false, .int .i64 n, .slice a ts.length cap, .bool true, undef, undef, undef, undef, undef, undef, undef, undef, undef, undef, undef, undef, undef, undef, undef, undef, undef, undef, undef, undef, undef, undef, undef, undef, undef, undef, undef, undef, undef, undef, undef, undef, undef, undef, undef, undef, undef], defers := [] } _
    refine wpAny_take (i := 3) (v := .bool false) rfl (by kernel_rfl) (by kernel_rfl) (by kernel_rfl) (fun _ _ _ h => h) (Or.inl ⟨by kernel_rfl, fun w => by go_simp⟩) ?_
    change wpAny _ _ _ _ _ _ { tmps := #[.int .i64 n, .slice a ts.length cap, .int .i64 k, undef, undef, undef, .slice none 0 0, .bool false, .int .i64 n, .slice a ts.length cap, .bool true, .bool false, undef, undef, undef, undef, undef, undef, undef, undef, undef, undef, undef, undef, undef, undef, undef, undef, undef, undef, undef, undef, undef, undef, undef, undef, undef, undef, undef, undef, undef, undef, undef, undef, undef, undef, undef, undef], defers := [] } _
    refine wpAny_take (i := 4) (v := .bool false) rfl (by kernel_rfl) (by kernel_rfl) (by kernel_rfl) (fun _ _ _ h => h) (Or.inl ⟨by kernel_rfl, fun w => by go_simp⟩) ?_
    change wpAny _ _ _ _ _ _ { tmps := #[.int .i64 n, .slice a ts.length cap, .int .i64 k, undef, undef, undef, .slice none 0 0, .bool false, .int .i64 n, .slice a ts.length cap, .bool true, .bool false, .bool false, undef, undef, undef, undef, undef, undef, undef, undef, undef, undef, undef, undef, undef, undef, undef, undef, undef, undef, undef, undef, undef, undef, undef, undef, undef, undef, undef, undef, undef, undef, undef, undef, undef, undef, undef], defers := [] } _
    refine wpAny_take (i := 5) (v := .int .i64 k) rfl (by kernel_rfl) (by kernel_rfl) (by kernel_rfl) (fun _ _ _ h => h) (Or.inl ⟨by kernel_rfl, fun w => by go_simp⟩) ?_
    change wpAny _ _ _ _ _ _ { tmps := #[.int .i64 n, .slice a ts.length cap, .int .i64 k, undef, undef, undef, .slice none 0 0, .bool false, .int .i64 n, .slice a ts.length cap, .bool true, .bool false, .bool false, .int .i64 k, undef, undef, undef, undef, undef, undef, undef, undef, undef, undef, undef, undef, undef, undef, undef, undef, undef, undef, undef, undef, undef, undef, undef, undef, undef, undef, undef, undef, undef, undef, undef, undef, undef, undef], defers := [] } _
    refine wpAny_take (i := 6) (v := .slice a ts.length cap) rfl (by kernel_rfl) (by kernel_rfl) (by kernel_rfl) (fun _ _ _ h => h) (Or.inl ⟨by kernel_rfl, fun w => by go_simp⟩) ?_
    change wpAny _ _ _ _ _ _ { tmps := #[.int .i64 n, .slice a ts.length cap, .int .i64 k, undef, undef, undef, .slice none 0 0, .bool false, .int .i64 n, .slice a ts.length cap, .bool true, .bool false, .bool false, .int .i64 k, .slice a ts.length cap, undef, undef, undef, undef, undef, undef, undef, undef, undef, undef, undef, undef, undef, undef, undef, undef, undef, undef, undef, undef, undef, undef, undef, undef, undef, undef, undef, undef, undef, undef, undef, undef, undef], defers := [] } _
    refine wpAny_take (i := 7) (v := .int .i64 (ts.length : Int)) rfl (by kernel_rfl) (by kernel_rfl) (by kernel_rfl) (fun _ _ _ h => h) (Or.inl ⟨by kernel_rfl, fun w => by go_simp⟩) ?_
    change wpAny _ _ _ _ _ _ { tmps := #[.int .i64 n, .slice a ts.length cap, .int .i64 k, undef, undef, undef, .slice none 0 0, .bool false, .int .i64 n, .slice a ts.length cap, .bool true, .bool false, .bool false, .int .i64 k, .slice a ts.length cap, .int .i64 (ts.length : Int), undef, undef, undef, undef, undef, undef, undef, undef, undef, undef, undef, undef, undef, undef, undef, undef, undef, undef, undef, undef, undef, undef, undef, undef, undef, undef, undef, undef, undef, undef, undef, undef], defers := [] } _
    refine wpAny_take (i := 8) (v := .int .i64 ((ts.length : Int) - 1)) rfl (by kernel_rfl) (by kernel_rfl) (by kernel_rfl) (fun _ _ _ h => h) (Or.inl ⟨by kernel_rfl, fun w => by go_simp⟩) ?_
    change wpAny _ _ _ _ _ _ { tmps := #[.int .i64 n, .slice a ts.length cap, .int .i64 k, undef, undef, undef, .slice none 0 0, .bool false, .int .i64 n, .slice a ts.length cap, .bool true, .bool false, .bool false, .int .i64 k, .slice a ts.length cap, .int .i64 (ts.length : Int), .int .i64 ((ts.length : Int) - 1), undef, undef, undef, undef, undef, undef, undef, undef, undef, undef, undef, undef, undef, undef, undef, undef, undef, undef, undef, undef, undef, undef, undef, undef, undef, undef, undef, undef, undef, undef, undef], defers := [] } _
    refine wpAny_ready (rs := [9]) (by kernel_rfl) (by simp) ?_
    refine AllReady.cons rfl (fun K hK => ?_) AllReady.nil
    go_simp
    go_wp2_with (first | (go_at_call 33; refine (cInV hp _).mono ?_; rintro e w2 ⟨rfl, rfl⟩))
    try (refine hK _ _ ?_)
    try (clear hK K)
    change wpAny _ _ _ _ _ _ { tmps := #[.int .i64 n, .slice a ts.length cap, .int .i64 k, undef, undef, undef, .slice none 0 0, .bool false, .int .i64 n, .slice a ts.length cap, .bool true, .bool false, .bool false, .int .i64 k, .slice a ts.length cap, .int .i64 (ts.length : Int), .int .i64 ((ts.length : Int) - 1), .bool false, undef, undef, undef, undef, undef, undef, undef, undef, undef, undef, undef, undef, undef, undef, undef, undef, undef, undef, undef, undef, undef, undef, undef, undef, undef, undef, undef, undef, undef, undef], defers := [] } _
    refine wpAny_take (i := 10) (v := .bool true) rfl (by kernel_rfl) (by kernel_rfl) (by kernel_rfl) (fun _ _ _ h => h) (Or.inl ⟨by kernel_rfl, fun w => by go_simp⟩) ?_
    change wpAny _ _ _ _ _ _ { tmps := #[.int .i64 n, .slice a ts.length cap, .int .i64 k, undef, undef, undef, .slice none 0 0, .bool false, .int .i64 n, .slice a ts.length cap, .bool true, .bool false, .bool false, .int .i64 k, .slice a ts.length cap, .int .i64 (ts.length : Int), .int .i64 ((ts.length : Int) - 1), .bool false, .bool true, undef, undef, undef, undef, undef, undef, undef, undef, undef, undef, undef, undef, undef, undef, undef, undef, undef, undef, undef, undef, undef, undef, undef, undef, undef, undef, undef, undef, undef], defers := [] } _
    refine wpAny_take (i := 11) (v := .bool true) rfl (by kernel_rfl) (by kernel_rfl) (by kernel_rfl) (fun _ _ _ h => h) (Or.inl ⟨by kernel_rfl, fun w => by go_simp⟩) ?_
    change wpAny _ _ _ _ _ _ { tmps := #[.int .i64 n, .slice a ts.length cap, .int .i64 k, undef, undef, undef, .slice none 0 0, .bool false, .int .i64 n, .slice a ts.length cap, .bool true, .bool false, .bool false, .int .i64 k, .slice a ts.length cap, .int .i64 (ts.length : Int), .int .i64 ((ts.length : Int) - 1), .bool false, .bool true, .bool true, undef, undef, undef, undef, undef, undef, undef, undef, undef, undef, undef, undef, undef, undef, undef, undef, undef, undef, undef, undef, undef, undef, undef, undef, undef, undef, undef, undef], defers := [] } _
    refine wpAny_take (i := 12) (v := .bool true) rfl (by kernel_rfl) (by kernel_rfl) (by kernel_rfl) (fun _ _ _ h => h) (Or.inl ⟨by kernel_rfl, fun w => by go_simp⟩) ?_
    change wpAny _ _ _ _ _ _ { tmps := #[.int .i64 n, .slice a ts.length cap, .int .i64 k, undef, undef, undef, .slice none 0 0, .bool false, .int .i64 n, .slice a ts.length cap, .bool true, .bool false, .bool false, .int .i64 k, .slice a ts.length cap, .int .i64 (ts.length : Int), .int .i64 ((ts.length : Int) - 1), .bool false, .bool true, .bool true, .bool true, undef, undef, undef, undef, undef, undef, undef, undef, undef, undef, undef, undef, undef, undef, undef, undef, undef, undef, undef, undef, undef, undef, undef, undef, undef, undef, undef], defers := [] } _
    refine wpAny_take (i := 13) (v := undef) rfl (by kernel_rfl) (by kernel_rfl) (by kernel_rfl) (fun _ _ _ h => h) (Or.inr ⟨by kernel_rfl, rfl⟩) ?_
    change wpAny _ _ _ _ _ _ { tmps := #[.int .i64 n, .slice a ts.length cap, .int .i64 k, undef, undef, undef, .slice none 0 0, .bool false, .int .i64 n, .slice a ts.length cap, .bool true, .bool false, .bool false, .int .i64 k, .slice a ts.length cap, .int .i64 (ts.length : Int), .int .i64 ((ts.length : Int) - 1), .bool false, .bool true, .bool true, .bool true, undef, undef, undef, undef, undef, undef, undef, undef, undef, undef, undef, undef, undef, undef, undef, undef, undef, undef, undef, undef, undef, undef, undef, undef, undef, undef, undef], defers := [] } _
    refine wpAny_take (i := 14) (v := undef) rfl (by kernel_rfl) (by kernel_rfl) (by kernel_rfl) (fun _ _ _ h => h) (Or.inr ⟨by kernel_rfl, rfl⟩) ?_
    change wpAny _ _ _ _ _ _ { tmps := #[.int .i64 n, .slice a ts.length cap, .int .i64 k, undef, undef, undef, .slice none 0 0, .bool false, .int .i64 n, .slice a ts.length cap, .bool true, .bool false, .bool false, .int .i64 k, .slice a ts.length cap, .int .i64 (ts.length : Int), .int .i64 ((ts.length : Int) - 1), .bool false, .bool true, .bool true, .bool true, undef, undef, undef, undef, undef, undef, undef, undef, undef, undef, undef, undef, undef, undef, undef, undef, undef, undef, undef, undef, undef, undef, undef, undef, undef, undef, undef], defers := [] } _
    refine wpAny_take (i := 15) (v := undef) rfl (by kernel_rfl) (by kernel_rfl) (by kernel_rfl) (fun _ _ _ h => h) (Or.inr ⟨by kernel_rfl, rfl⟩) ?_
    change wpAny _ _ _ _ _ _ { tmps := #[.int .i64 n, .slice a ts.length cap, .int .i64 k, undef, undef, undef, .slice none 0 0, .bool false, .int .i64 n, .slice a ts.length cap, .bool true, .bool false, .bool false, .int .i64 k, .slice a ts.length cap, .int .i64 (ts.length : Int), .int .i64 ((ts.length : Int) - 1), .bool false, .bool true, .bool true, .bool true, undef, undef, undef, undef, undef, undef, undef, undef, undef, undef, undef, undef, undef, undef, undef, undef, undef, undef, undef, undef, undef, undef, undef, undef, undef, undef, undef], defers := [] } _
    refine wpAny_take (i := 16) (v := undef) rfl (by kernel_rfl) (by kernel_rfl) (by kernel_rfl) (fun _ _ _ h => h) (Or.inr ⟨by kernel_rfl, rfl⟩) ?_
    change wpAny _ _ _ _ _ _ { tmps := #[.int .i64 n, .slice a ts.length cap, .int .i64 k, undef, undef, undef, .slice none 0 0, .bool false, .int .i64 n, .slice a ts.length cap, .bool true, .bool false, .bool false, .int .i64 k, .slice a ts.length cap, .int .i64 (ts.length : Int), .int .i64 ((ts.length : Int) - 1), .bool false, .bool true, .bool true, .bool true, undef, undef, undef, undef, undef, undef, undef, undef, undef, undef, undef, undef, undef, undef, undef, undef, undef, undef, undef, undef, undef, undef, undef, undef, undef, undef, undef], defers := [] } _
    refine wpAny_take (i := 17) (v := undef) rfl (by kernel_rfl) (by kernel_rfl) (by kernel_rfl) (fun _ _ _ h => h) (Or.inr ⟨by kernel_rfl, rfl⟩) ?_
    change wpAny _ _ _ _ _ _ { tmps := #[.int .i64 n, .slice a ts.length cap, .int .i64 k, undef, undef, undef, .slice none 0 0, .bool false, .int .i64 n, .slice a ts.length cap, .bool true, .bool false, .bool false, .int .i64 k, .slice a ts.length cap, .int .i64 (ts.length : Int), .int .i64 ((ts.length : Int) - 1), .bool false, .bool true, .bool true, .bool true, undef, undef, undef, undef, undef, undef, undef, undef, undef, undef, undef, undef, undef, undef, undef, undef, undef, undef, undef, undef, undef, undef, undef, undef, undef, undef, undef], defers := [] } _
    refine wpAny_take (i := 18) (v := undef) rfl (by kernel_rfl) (by kernel_rfl) (by kernel_rfl) (fun _ _ _ h => h) (Or.inr ⟨by kernel_rfl, rfl⟩) ?_
    change wpAny _ _ _ _ _ _ { tmps := #[.int .i64 n, .slice a ts.length cap, .int .i64 k, undef, undef, undef, .slice none 0 0, .bool false, .int .i64 n, .slice a ts.length cap, .bool true, .bool false, .bool false, .int .i64 k, .slice a ts.length cap, .int .i64 (ts.length : Int), .int .i64 ((ts.length : Int) - 1), .bool false, .bool true, .bool true, .bool true, undef, undef, undef, undef, undef, undef, undef, undef, undef, undef, undef, undef, undef, undef, undef, undef, undef, undef, undef, undef, undef, undef, undef, undef, undef, undef, undef], defers := [] } _
    refine wpAny_take (i := 19) (v := undef) rfl (by kernel_rfl) (by kernel_rfl) (by kernel_rfl) (fun _ _ _ h => h) (Or.inr ⟨by kernel_rfl, rfl⟩) ?_
    change wpAny _ _ _ _ _ _ { tmps := #[.int .i64 n, .slice a ts.length cap, .int .i64 k, undef, undef, undef, .slice none 0 0, .bool false, .int .i64 n, .slice a ts.length cap, .bool true, .bool false, .bool false, .int .i64 k, .slice a ts.length cap, .int .i64 (ts.length : Int), .int .i64 ((ts.length : Int) - 1), .bool false, .bool true, .bool true, .bool true, undef, undef, undef, undef, undef, undef, undef, undef, undef, undef, undef, undef, undef, undef, undef, undef, undef, undef, undef, undef, undef, undef, undef, undef, undef, undef, undef], defers := [] } _
    refine wpAny_take (i := 20) (v := undef) rfl (by kernel_rfl) (by kernel_rfl) (by kernel_rfl) (fun _ _ _ h => h) (Or.inr ⟨by kernel_rfl, rfl⟩) ?_
    change wpAny _ _ _ _ _ _ { tmps := #[.int .i64 n, .slice a ts.length cap, .int .i64 k, undef, undef, undef, .slice none 0 0, .bool false, .int .i64 n, .slice a ts.length cap, .bool true, .bool false, .bool false, .int .i64 k, .slice a ts.length cap, .int .i64 (ts.length : Int), .int .i64 ((ts.length : Int) - 1), .bool false, .bool true, .bool true, .bool true, undef, undef, undef, undef, undef, undef, undef, undef, undef, undef, undef, undef, undef, undef, undef, undef, undef, undef, undef, undef, undef, undef, undef, undef, undef, undef, undef], defers := [] } _
    refine wpAny_take (i := 21) (v := undef) rfl (by kernel_rfl) (by kernel_rfl) (by kernel_rfl) (fun _ _ _ h => h) (Or.inr ⟨by kernel_rfl, rfl⟩) ?_
    change wpAny _ _ _ _ _ _ { tmps := #[.int .i64 n, .slice a ts.length cap, .int .i64 k, undef, undef, undef, .slice none 0 0, .bool false, .int .i64 n, .slice a ts.length cap, .bool true, .bool false, .bool false, .int .i64 k, .slice a ts.length cap, .int .i64 (ts.length : Int), .int .i64 ((ts.length : Int) - 1), .bool false, .bool true, .bool true, .bool true, undef, undef, undef, undef, undef, undef, undef, undef, undef, undef, undef, undef, undef, undef, undef, undef, undef, undef, undef, undef, undef, undef, undef, undef, undef, undef, undef], defers := [] } _
    refine wpAny_take (i := 22) (v := undef) rfl (by kernel_rfl) (by kernel_rfl) (by kernel_rfl) (fun _ _ _ h => h) (Or.inr ⟨by kernel_rfl, rfl⟩) ?_
    change wpAny _ _ _ _ _ _ { tmps := #[.int .i64 n, .slice a ts.length cap, .int .i64 k, undef, undef, undef, .slice none 0 0, .bool false, .int .i64 n, .slice a ts.length cap, .bool true, .bool false, .bool false, .int .i64 k, .slice a ts.length cap, .int .i64 (ts.length : Int), .int .i64 ((ts.length : Int) - 1), .bool false, .bool true, .bool true, .bool true, undef, undef, undef, undef, undef, undef, undef, undef, undef, undef, undef, undef, undef, undef, undef, undef, undef, undef, undef, undef, undef, undef, undef, undef, undef, undef, undef], defers := [] } _
    refine wpAny_take (i := 23) (v := undef) rfl (by kernel_rfl) (by kernel_rfl) (by kernel_rfl) (fun _ _ _ h => h) (Or.inr ⟨by kernel_rfl, rfl⟩) ?_
    change wpAny _ _ _ _ _ _ { tmps := #[.int .i64 n, .slice a ts.length cap, .int .i64 k, undef, undef, undef, .slice none 0 0, .bool false, .int .i64 n, .slice a ts.length cap, .bool true, .bool false, .bool false, .int .i64 k, .slice a ts.length cap, .int .i64 (ts.length : Int), .int .i64 ((ts.length : Int) - 1), .bool false, .bool true, .bool true, .bool true, undef, undef, undef, undef, undef, undef, undef, undef, undef, undef, undef, undef, undef, undef, undef, undef, undef, undef, undef, undef, undef, undef, undef, undef, undef, undef, undef], defers := [] } _
    refine wpAny_take (i := 24) (v := .bool true) rfl (by kernel_rfl) (by kernel_rfl) (by kernel_rfl) (fun _ _ _ h => h) (Or.inl ⟨by kernel_rfl, fun w => by go_simp⟩) ?_
    change wpAny _ _ _ _ _ _ { tmps := #[.int .i64 n, .slice a ts.length cap, .int .i64 k, undef, undef, undef, .slice none 0 0, .bool false, .int .i64 n, .slice a ts.length cap, .bool true, .bool false, .bool false, .int .i64 k, .slice a ts.length cap, .int .i64 (ts.length : Int), .int .i64 ((ts.length : Int) - 1), .bool false, .bool true, .bool true, .bool true, undef, undef, undef, undef, undef, undef, undef, undef, undef, undef, undef, .bool true, undef, undef, undef, undef, undef, undef, undef, undef, undef, undef, undef, undef, undef, undef, undef], defers := [] } _
    refine wpAny_done (by kernel_rfl) ?_ _
    go_wp2
    go_ret2
    exact ⟨_, by rw [R.out]; rfl, by rw [R.out]; exact nil_row _ _, HB1⟩
  obtain ⟨q, rfl, hq⟩ := place_of hp
  have hpw : inB (q : Int) 0 (IntKind.i64.wrap ((ts.length : Int) - 1)) = true := by rw [hwr]; exact hp
  clear hwr
  have hR1 : rAt ts q = fAt ts q → shr ts (q : Int) = none := fun h => shr_one h
  have hR2 : rAt ts q ≠ fAt ts q → shr ts (q : Int) = some (putTo ts (q : Int) ⟨rAt ts q + 1, fAt ts q⟩ false ts.length) := fun g => by
    rw [shr_go hp g, putTo_set hq _ (Nat.le_refl _), List.take_of_length_le (by simp)]; rfl
  have CP := fun x y w he => cPut a cap ts (q : Int) x y false w he hl
  have hat := ok_at h hq
  obtain ⟨n1, n2⟩ := inB_true (trains_of h).1
  have hcs : ∃ b off, a = some ⟨b, off, none⟩ ∧ w.cell? ⟨b, off + q * 2, none⟩ = some (.int .i64 (rAt ts q)) ∧ w.cell? ⟨b, off + q * 2 + 1, none⟩ = some (.int .i64 (fAt ts q)) := by
    rcases he with he | ⟨b, off, rfl, hc⟩
    · simp [he] at hq
    · exact ⟨b, off, rfl, (hc q hq).1, (hc q hq).2⟩
  obtain ⟨ba, off, rfl, p0, p1⟩ := hcs
  have hba := cell_lt p0
  have hqi : (q : Int) < (ts.length : Int) := by omega
  generalize shr ts (q : Int) = r at *
  generalize rAt ts q = x at *
  generalize fAt ts q = y at *
  by_cases hxy : x = y
  · have R := hide (hR1 hxy)
    clear hR1 hR2 CP
    subst hxy
    go_enter Tryd.func23, Tryd.ntmps23
    go_wp2_with fail
    go_region_held3 (fun w' => w'.cell? ⟨ba, off + q * 2, none⟩ = some (.int .i64 x) ∧ w'.cell? ⟨ba, off + q * 2 + 1, none⟩ = some (.int .i64 x)) (go_keep) (first | (go_at_call 33; with_reducible refine (cInV hpw _).mono ?_; rintro e w2 ⟨rfl, rfl⟩) | (go_at_call 10; with_reducible refine (cTrainsV h _ _ _ (by first | with_reducible exact he | with_reducible exact he.below (Below.refl _ _).drew) hl).mono ?_; rintro e w1 ⟨rfl, hb⟩; have HB1 := (by first | with_reducible exact undrew hb | with_reducible exact hb); have P0 := ble HB1 p0; have P1 := ble HB1 p1; clear hb))
    go_wp2
    go_ret2
    exact ⟨_, by rw [R.out]; rfl, by rw [R.out]; exact nil_row _ _, HB1⟩
  · have R := hide (hR2 hxy)
    have CPx := fun w he => CP (x + 1) y w he
    have CPw : ∀ w, Spans w (some ⟨ba, off, none⟩) ts → Calls Tryd.prog 39 #[.slice (some ⟨ba, off, none⟩) ts.length cap, .int .i64 (q : Int), .agg #[.int .i64 (IntKind.i64.wrap (x + 1)), .int .i64 y], .bool false] w _ := fun w he => by
      rw [show IntKind.i64.wrap (x + 1) = x + 1 from wrap_in _ (by omega) (by omega)]; exact CPx w he
    generalize putTo ts (q : Int) ⟨x + 1, y⟩ false ts.length = PT at *
    clear hR1 hR2 CP
    have hxy2 : (x == y) = false := by simpa using hxy
    have hxy3 : decide (x = y) = false := decide_eq_false hxy
    go_enter Tryd.func23, Tryd.ntmps23
    go_wp2_with fail
    go_region_held3 (fun w' => w'.cell? ⟨ba, off + q * 2, none⟩ = some (.int .i64 x) ∧ w'.cell? ⟨ba, off + q * 2 + 1, none⟩ = some (.int .i64 y)) (go_keep) (first | (go_at_call 33; with_reducible refine (cInV hpw _).mono ?_; rintro e w2 ⟨rfl, rfl⟩) | (go_at_call 10; with_reducible refine (cTrainsV h _ _ _ (by first | with_reducible exact he | with_reducible exact he.below (Below.refl _ _).drew) hl).mono ?_; rintro e w1 ⟨rfl, hb⟩; have HB1 := (by first | with_reducible exact undrew hb | with_reducible exact hb); have P0 := ble HB1 p0; have P1 := ble HB1 p1; clear hb))
    have he1 := he.below HB1
    have hba1 := cell_lt P0
    go_wp2_with fail
    go_region_held3 (fun w' => w'.cell? ⟨ba, off + q * 2, none⟩ = some (.int .i64 x) ∧ w'.cell? ⟨ba, off + q * 2 + 1, none⟩ = some (.int .i64 y)) (go_keep) (first | (go_at_call 39; first | with_reducible refine (CPx _ (by first | with_reducible exact he1 | with_reducible exact he1.below (Below.refl _ _).drew)).mono ?_ | with_reducible refine (CPw _ (by first | with_reducible exact he1 | with_reducible exact he1.below (Below.refl _ _).drew)).mono ?_; rintro e w6 ⟨v, rfl, ho, hb⟩; have HB6 := (by first | with_reducible exact undrew hb | with_reducible exact hb); have Q0 := ble HB6 P0; have Q1 := ble HB6 P1; clear hb))
    go_wp2
    go_ret2
    exact ⟨_, by rw [R.out]; rfl, by rw [R.out]; exact Go.Joins.ownsRow_le ho HB1.size, btrans HB1 HB6⟩
end Go.Proofs.YtnbfkkmjehhihaaDoor
