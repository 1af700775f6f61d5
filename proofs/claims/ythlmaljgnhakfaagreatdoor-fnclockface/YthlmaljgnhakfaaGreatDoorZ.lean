/- The program's order of trips, and its timetables. -/
import Derived.Test.YthlmaljgnhakfaaGreatDoorY
import Derived.Shelf.SlSortCmp.NoneTotal
import Derived.Deep.AppendLies
namespace Go.Proofs.YthlmaljgnhakfaaGreatDoor
open Go.RowKit Go.Shelf Go.Lib Go.Sort

/-- The places of all trips in the order of their names. -/
structure Ord (b off n : Nat) (nm : Nat → ByteArray) (g : Nat) (d : List Nat) (w' : World) : Prop where
  perm : d.Perm (List.range n)
  sorted : ∀ i j, i < j → j < n → ¬ cmpN (fun i => nm (d.getD i 0)) j i < 0
  cell : ∀ j, j < n → w'.cell? ⟨g, j, none⟩ = some (.pointer (some ⟨b, off + d.getD j 0 * 2, none⟩))
def OrdPost (b off n : Nat) (nm : Nat → ByteArray) (w : World) (e : Ending) (w' : World) : Prop :=
  ∃ g c d, e = .returned (.slice (some ⟨g, 0, none⟩) n c) ∧ Ord b off n nm g d w' ∧ Below w.heap.size w w'
set_option maxHeartbeats 3200000 in
theorem cInOrder (b off cap n : Nat) (nm : Nat → ByteArray) (w : World) (hn : 0 < n) (hn2 : n ≤ 24) (hc : ∀ i, i < n → w.cell? ⟨b, off + i * 2, none⟩ = some (.string (nm i))) :
    Calls Tryz.prog 19 #[.slice (some ⟨b, off, none⟩) n cap, .func (.func 20) #[] #[]] w (OrdPost b off n nm w) := by
  obtain ⟨i0, hi, hz0, hz1, hz2⟩ := info_parts infoPtr
  have hbl : b < w.heap.size := cell_lt (hc 0 hn)
  have hC := hide hc
  clear hc
  go_enter Tryz.func19, Tryz.ntmps19
  go_wp2
  go_loopw [5, 6, 9] (fun v _ i wr => ∃ k : Nat, k ≤ n ∧ i = .int .i64 k ∧ wr.ownsRow w.heap.size 52 1 v k (ptrs b off k) ∧ Below w.heap.size w wr) (fun _ _ i _ => n - (intOf i).toNat)
  case atStart => exact ⟨0, Nat.zero_le _, rfl, World.ownsRow_nil _ _ _ _, Below.refl _ _⟩
  case round =>
    obtain ⟨k, hk, rfl, ho, hb⟩ := hrel
    obtain ⟨va, vc, rfl⟩ := own_form ho
    by_cases hlt : k < n
    · have hlt' : (k : Int) < (n : Int) := by omega
      have hS := hide (ptrs_succ b off k)
      have hN := one_block wr (.cells #[.pointer (some ⟨b, off + k * 2, none⟩)] 52)
      have ho2 := own_keep ho (balloc wr (.cells #[.pointer (some ⟨b, off + k * 2, none⟩)] 52))
      have hb2 := btrans hb (balloc wr (.cells #[.pointer (some ⟨b, off + k * 2, none⟩)] 52))
      have hk0 : (0 : Int) ≤ (k : Int) := Int.natCast_nonneg _
      go_wp2_with (at_builtin; refine wpList_append_own _ rfl _ _ 49 rfl w.heap.size 52 i0 _ 1 8 Tryz.underlying49 hi hz0 hz1 hz2 rfl (by decide) _ _ _ rfl ho2 ⟨wr.heap.size, 0, none⟩ 1 1 [.pointer (some ⟨b, off + k * 2, none⟩)] rfl rfl ?c1 ?c2 ?c3 ?c4 ?c5 ?_)
      case c1 => exact World.news_of_block hN
      case c2 => simp [Value.oneCell']
      case c3 => unfold maxLen; omega
      case c4 => omega
      case c5 => have := hb.size; simp; omega
      intro v2 w2 hown hgrow _
      have hb3 := hb2.grown hgrow hb2.size (own_from ho (Nat.le_refl _))
      rw [← hS.out] at hown
      clear hgrow hN ho2 hb2 ho hS
      go_wp2
      go_roundw
      case rel => exact ⟨k + 1, by omega, by go_num, hown, hb3⟩
      case measure => simp [intOf]; omega
    · have hlt' : ¬ ((k : Int) < (n : Int)) := by omega
      obtain rfl : k = n := by omega
      rcases ho.2 with ⟨_, h0⟩ | ⟨g, c2, cur, hv, _⟩
      · omega
      simp only [Value.slice.injEq] at hv
      obtain ⟨rfl, -, rfl⟩ := hv
      have hg := own_from ho (Nat.le_refl _) g rfl
      have CS := sort_trips b off k g vc nm wr hn hn2 (own_base ho (by omega)) (fun i h => ble hb (hC.out i h))
      go_wp2_with fail
      refine CS.mono ?_
      rintro e w1 ⟨rfl, d, hp, hs, hcell, hgr⟩
      have hb1 := hb.grown hgr hb.size (fun j hj => by simp at hj; omega)
      have hO : Ord b off k nm g d w1 := ⟨hp, fun i j h1 h2 => Int.not_lt.2 (hs i j h1 h2), hcell⟩
      clear CS hgr hp hs hcell
      go_wp2
      go_ret
      exact ⟨g, vc, d, rfl, hO, hb1⟩

set_option maxHeartbeats 1600000 in
theorem cInOrder0 (a : Option Addr) (cap : Nat) (w : World) :
    Calls Tryz.prog 19 #[.slice a 0 cap, .func (.func 20) #[] #[]] w fun e w' => e = .returned (.slice none 0 0) ∧ Below w.heap.size w w' := by
  have hcon := AnyF.slices_SortFunc_none { Tryz.sortT with } none 0 (.func (.func 20) #[] #[]) w
  change Calls Tryz.prog 34 _ _ _ at hcon
  go_enter Tryz.func19, Tryz.ntmps19
  go_wp2
  go_loopw [5, 6, 9] (fun v _ i wr => v = .slice none 0 0 ∧ i = .int .i64 0 ∧ wr = w) (fun _ _ i _ => 0)
  case atStart => exact ⟨rfl, rfl, rfl⟩
  case round =>
    obtain ⟨rfl, rfl, hw⟩ := hrel
    subst wr
    go_wp2_with fail
    refine hcon.mono ?_
    rintro e w1 ⟨rfl, hw⟩
    subst w1
    go_wp2
    go_ret
    exact ⟨rfl, Below.refl _ _⟩
end Go.Proofs.YthlmaljgnhakfaaGreatDoor
