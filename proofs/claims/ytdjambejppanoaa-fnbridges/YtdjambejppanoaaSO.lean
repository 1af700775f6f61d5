/- The library's sort of numbers, at this program. -/
import Derived.Test.YtdjambejppanoaaQU
import Derived.Test.YtdjambejppanoaaShelf
import Derived.Sort.OwnSortedInts
import Derived.Lib.OwnBridge
import Derived.Lib.RowBridge
namespace Go.Proofs.Ytdjambejppanoaa
open Go.RowKit Go.Sort Go.Lib
theorem grown_sorted {w : World} {g n : Nat} {os : Array Obj} (d : Array Int) : w.grownBy (grow (putRow (Value.int .i64) (Sort.ahead w n) g 0 d) os) (some g) := by
  refine ⟨rfl, rfl, rfl, by simp [grow], fun k hk hne => ?_⟩
  rw [heap_grow_old _ _ (by simpa using hk)]
  have : g ≠ k := fun e => hne (by rw [e])
  simp [putRow, mapBlock, Sort.ahead, Array.getElem?_modify, this]
theorem sorted_strict {zs : List Int} (hn : zs.Nodup) : (zs.mergeSort fun x y => decide (x ≤ y)).Pairwise (· < ·) := by
  have h1 : (zs.mergeSort fun x y => decide (x ≤ y)).Pairwise (fun x y => decide (x ≤ y) = true) := List.pairwise_mergeSort (fun a b c h1 h2 => by simp at *; omega) (fun a b => by simp; omega) zs
  have h2 : (zs.mergeSort fun x y => decide (x ≤ y)).Nodup := (List.mergeSort_perm zs _).nodup_iff.2 hn
  have h3 := h1.and h2
  exact h3.imp (fun ⟨a, b⟩ => by simp at a; omega)
theorem cSortOwn (B g cap : Nat) (zs : List Int) (w : World) (ho : w.ownsRow B 3 1 (.slice (some ⟨g, 0, none⟩) zs.length cap) zs.length (zs.map (.int .i64))) (hl : zs.length ≤ 1000) :
    Calls Try.prog 60 #[.slice (some ⟨g, 0, none⟩) zs.length cap] w fun e w' => e = .returned (.tuple #[]) ∧ w.grownBy w' (some g) ∧ w'.ownsRow B 3 1 (.slice (some ⟨g, 0, none⟩) zs.length cap) zs.length ((zs.mergeSort fun x y => decide (x ≤ y)).map (.int .i64)) := by
  obtain ⟨g', gc', hv, hgB, hglt, hgn, hgm, hzl, hHo⟩ := holds_of_ownsRow ho (by intro e; simp only [Value.slice.injEq] at e; cases e.1)
  simp only [Value.slice.injEq, Option.some.injEq, Addr.mk.injEq, and_true, true_and] at hv
  obtain ⟨rfl, rfl⟩ := hv
  obtain ⟨cur, hcur, hcs⟩ : ∃ cur, w.heap[g]? = some (.cells cur 3 (0, 0)) ∧ cur.size = cap * 1 := by
    rcases ho.2 with ⟨e, _⟩ | ⟨g', c', cur, e, _, hh, _, _, hsz, _⟩
    · cases e
    · simp only [Value.slice.injEq, Option.some.injEq, Addr.mk.injEq, and_true, true_and] at e
      obtain ⟨rfl, rfl⟩ := e
      exact ⟨cur, hh, hsz⟩
  have hcon := Any.slices_Sort_int { Try.sortI with } g 0 cap zs w hHo hglt (by omega)
  change Calls Try.prog 60 _ _ _ at hcon
  refine hcon.mono ?_
  rintro e w3 ⟨rfl, n3, os3, rfl⟩
  exact ⟨rfl, grown_sorted _, ownsRow_sortedI (w := w) (n := n3) (os := os3) (base := B) (cap := cap) (ss := zs) (ts := zs.mergeSort fun x y => decide (x ≤ y)) (by simp) hgB hcur hgn hgm hcs⟩
end Go.Proofs.Ytdjambejppanoaa
