/- The program's order of trips, and its timetables. -/
import Derived.Test.YthlmaljgnhakfaaGreatDoorX
import Derived.Shelf.SlSortCmp.Whole1
namespace Go.Proofs.YthlmaljgnhakfaaGreatDoor
open Go.RowKit Go.Shelf Go.Lib Go.Sort
theorem getD_nat {l : List Nat} {i : Nat} (h : i < l.length) : l.getD i 0 = l[i] := by simp [List.getD, h]
def ptrs (b off k : Nat) : List Value := (List.range k).map fun i => .pointer (some ⟨b, off + i * 2, none⟩)
theorem ptrs_succ (b off k : Nat) : ptrs b off (k + 1) = ptrs b off k ++ [.pointer (some ⟨b, off + k * 2, none⟩)] := by simp [ptrs, List.range_succ]
theorem ptrs_len (b off k : Nat) : (ptrs b off k).length = k := by simp [ptrs]
theorem infoPtr : (Tryz.prog.info? 52).map (fun i => (i.zero, i.size, i.bytes)) = some (some (.pointer none), 1, 8) := by kernel_rfl
/-- The places of a list's trips, as pointers. -/
def encP (b off n : Nat) (i : Nat) : Value := .pointer (some ⟨b, off + i % n * 2, none⟩)
theorem sort_trips (b off n g cap : Nat) (nm : Nat → ByteArray) (w : World) (hn : 0 < n) (hn2 : n ≤ 24) (ho : w.ownsRow (b + 1) 52 1 (.slice (some ⟨g, 0, none⟩) n cap) n (ptrs b off n))
    (hc : ∀ i, i < n → w.cell? ⟨b, off + i * 2, none⟩ = some (.string (nm i))) :
    Calls Tryz.prog 34 #[.slice (some ⟨g, 0, none⟩) n cap, .func (.func 20) #[] #[]] w fun e w' => e = .returned (.tuple #[]) ∧
      ∃ d : List Nat, d.Perm (List.range n) ∧ (∀ i j, i < j → j < n → ¬ cmpN (fun i => nm (d.getD i 0)) j i < 0) ∧ (∀ j, j < n → w'.cell? ⟨g, j, none⟩ = some (.pointer (some ⟨b, off + d.getD j 0 * 2, none⟩))) ∧ w.grownBy w' (some g) := by
  have hbg : b < g := own_from ho (Nat.le_refl _) g rfl
  have hgl := owns_lt ho
  have hsz : (List.range n).toArray.size = n := by simp
  have hH : Holds (encP b off n) w g 0 (List.range n).toArray := by
    intro j hj
    rw [hsz] at hj
    refine ⟨?_, ho.frozenAt _⟩
    rw [Nat.zero_add, ho.cellAt j (by omega)]
    have e : (List.range n).toArray[j]! = j := by simp [hj]
    rw [e]
    simp [ptrs, hj, encP, Nat.mod_eq_of_lt hj]
  have eg : ∀ args w, (callFunc 20 args).run Tryz.prog w = .ok (.enter 20 args) w := enters_of Tryz.func20 (by kernel_rfl) rfl
  have hcmp : CmpLays1 Tryz.prog 20 #[] (encP b off n) (cmpN (fun i => nm (i % n))) g 0 (List.range n).toArray.size w := by
    refine CmpReads.lays (fun m os dk _ x y => ?_)
    have hx : ∀ i, (sortWorld (encP b off n) w g 0 m dk os).cell? ⟨b, off + i % n * 2, none⟩ = some (.string (nm (i % n))) := fun i => by
      have hb := (grownBy_sort (encP b off n) (w := w) (g := g) (off := 0) (n := m) (os := os) dk).block b (cell_lt (hc 0 hn)) (fun e => by simp at e; omega)
      exact (World.cell?_of_block hb).trans (hc _ (Nat.mod_lt _ hn))
    exact cByName _ _ _ _ _ _ _ (hx x) (hx y)
  have hcon := Any.slices_SortFunc Tryz.sortT (encP b off n) (fun _ => rfl) (cmpN (fun i => nm (i % n))) (swoN _) 20 #[] g 0 cap (List.range n).toArray w eg hcmp hH hgl (by rw [hsz]; omega)
  change Calls Tryz.prog 34 _ _ _ at hcon
  rw [hsz] at hcon
  refine hcon.mono ?_
  rintro e w' ⟨rfl, d', m, os, hp, hs, rfl⟩
  obtain ⟨hp1, -, hp2⟩ := hp
  rw [hsz] at hp1
  have hp3 : d'.toList.Perm (List.range n) := by
    have e1 : d'.extract 0 n = d' := by rw [← hp1]; simp
    have e2 : (List.range n).toArray.extract 0 n = (List.range n).toArray := by rw [show n = (List.range n).toArray.size from hsz.symm]; simp
    rw [e1, e2] at hp2
    simpa using hp2
  obtain ⟨hl, hlt, -, -⟩ := perm_place hp3
  have hget : ∀ j, j < n → d'[j]! = d'.toList.getD j 0 := fun j hj => by
    have hj' : j < d'.size := by omega
    rw [getElem!_pos d' j hj']
    simp [List.getD, hj']
  have hmod : ∀ j, j < n → d'.toList.getD j 0 % n = d'.toList.getD j 0 := fun j hj => by
    have := hlt j (by omega)
    rw [getD_nat (show j < d'.toList.length by omega)]; exact Nat.mod_eq_of_lt this
  refine ⟨rfl, d'.toList, hp3, fun i j hij hj => ?_, fun j hj => ?_, grownBy_sort _ _⟩
  · have := hs i j (Nat.zero_le _) hij (by omega)
    rw [hget i (by omega), hget j hj] at this
    have h9 : ¬ cmpN (fun i => nm (i % n)) (d'.toList.getD j 0) (d'.toList.getD i 0) < 0 := of_decide_eq_false this
    unfold cmpN at h9 ⊢
    dsimp only at h9 ⊢
    rw [hmod i (by omega), hmod j hj] at h9
    exact h9
  · have := (holds_sortWorld (encP b off n) w g 0 m (List.range n).toArray d' os hgl hH (by rw [hsz]; exact hp1)) j (by omega)
    rw [Nat.zero_add, hget j hj] at this
    rw [this.1, encP, hmod j hj]
end Go.Proofs.YthlmaljgnhakfaaGreatDoor
