/- legsOf of a list that is not ridden. -/
import Derived.Test.YthfknkmabjgklaaBB
import Derived.Deep.AppendLies
namespace Go.Proofs.Ythfknkmabjgklaa
open Go.RowKit
set_option maxRecDepth 100000 in
set_option maxHeartbeats 3200000 in
theorem cLegs0 (a : Option Addr) (cap : Nat) (n : Int) (es : List EdgeV) (ta : Option Addr) (tc : Nat) (ts : List TripV) (w : World) (he : Edges w a es) (hl : es.length ≤ 1048576) (hz : Trips w ta ts) (hS : Small ts) (hR : ¬ Ridden n es ts) :
    Calls Try.prog 39 #[.agg #[.int .i64 n, .slice a es.length cap], .slice ta ts.length tc] w fun e w' => ∃ g, e = .returned (.slice (some ⟨g, 0, none⟩) ts.length ts.length) ∧ LegV w' g ts.length (fun _ => []) ∧ Below w.heap.size w w' := by
  have hW := balloc w (.cells #[.int .i64 n, .slice a es.length cap] 32)
  have X0 := one_block w (.cells #[.int .i64 n, .slice a es.length cap] 32)
  obtain ⟨i0, hi, hz0, hz1, hz2⟩ := info_parts infoUseS
  have hSl := hS.1
  go_enter Try.func39, Try.ntmps39
  go_wp2_with (at_make; refine wpList_make_full _ rfl _ _ 74 rfl (w.alloc (.cells #[.int .i64 n, .slice a es.length cap] 32)).heap.size 76 i0 (.slice none 0 0) 1 Try.underlying74 hi hz0 hz1 _ _ _ _ ts.length rfl rfl rfl rfl (by rw [hz2]; omega) (by unfold maxLen; omega) (Nat.le_refl _) ?_; intro w1 hown hgrow; have hbel : Below (w.alloc (.cells #[.int .i64 n, .slice a es.length cap] 32)).heap.size (w.alloc (.cells #[.int .i64 n, .slice a es.length cap] 32)) w1 := (Below.refl _ _).grown hgrow (Nat.le_refl _) (fun k hk => by cases hk); obtain ⟨⟨x0, x1⟩, -⟩ := blk2 (blk_keep hbel X0))
  have HB := btrans hW hbel
  have hV : LegV w1 (w.alloc (.cells #[.int .i64 n, .slice a es.length cap] 32)).heap.size ts.length (fun _ => []) := fun i hi => by
    refine ⟨none, 0, ?_, .inl rfl⟩
    have h := hown.cellAt i (by omega)
    rw [h]
    simp [toList_madeCells_one, Value.cells, hi]
  have he1 := he.below HB
  have hz1' := hz.below HB
  have hsz2 : (w.alloc (.cells #[.int .i64 n, .slice a es.length cap] 32)).heap.size = w.heap.size + 1 := by simp
  rw [hsz2] at hV
  clear hown hgrow hW X0 hbel hsz2
  refine (cUsesI a cap n es ta tc ts w1 he1 hl hz1' hS).mono ?_
  rintro e w2 ⟨hb, hA⟩
  replace HB := btrans HB hb
  replace hV := hV.below hb
  rcases hA with ⟨h, -⟩ | ⟨-, rfl⟩
  · exact absurd h hR
  clear hb he1 hz1' x0 x1 he hz
  have fin : ∀ wr, Below w2.heap.size w2 wr → ∃ g, Ending.returned (.slice (some ⟨w.heap.size + 1, 0, none⟩) ts.length ts.length) = .returned (.slice (some ⟨g, 0, none⟩) ts.length ts.length) ∧ LegV wr g ts.length (fun _ => []) ∧ Below w.heap.size w wr := fun wr h => ⟨_, rfl, hV.below h, btrans HB h⟩
  go_wp2
  go_loopw [7, 15] (fun _ ix wr => ix = .int .i64 0 ∧ wr = w2) (fun _ ix _ => 0)
  case atStart => exact ⟨rfl, rfl⟩
  case round =>
    obtain ⟨rfl, rfl⟩ := hrel
    go_wp2
    go_ret
    exact fin _ (Below.refl _ _)
end Go.Proofs.Ythfknkmabjgklaa
