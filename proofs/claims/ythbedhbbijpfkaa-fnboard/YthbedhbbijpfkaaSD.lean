/- The sort of departures. -/
import Derived.Test.YthbedhbbijpfkaaSQ
namespace Go.Proofs.Ythbedhbbijpfkaa
open Go.RowKit Go.Sort Go.Lib
theorem orI3 (x y z : Int) : orI [x, y, z] = if x = 0 then (if y = 0 then z else y) else x := by
  simp only [orI]
  split
  · split
    · split
      · next h => exact h.symm
      · rfl
    · rfl
  · rfl
theorem cmpD_lt (d1 : Int) (i1 k1 : Nat) (d2 : Int) (i2 k2 : Nat) : cmpD d1 i1 k1 d2 i2 k2 < 0 ↔ d1 < d2 ∨ (d1 = d2 ∧ (i1 < i2 ∨ (i1 = i2 ∧ k1 < k2))) := by
  unfold cmpD
  rw [orI3]
  rcases cmpI_cases d1 d2 with ⟨h1, e1⟩ | ⟨h1, e1⟩ | ⟨h1, e1⟩ <;> rcases cmpI_cases (i1 : Int) (i2 : Int) with ⟨h2, e2⟩ | ⟨h2, e2⟩ | ⟨h2, e2⟩ <;> rcases cmpI_cases (k1 : Int) (k2 : Int) with ⟨h3, e3⟩ | ⟨h3, e3⟩ | ⟨h3, e3⟩ <;> rw [e1, e2, e3] <;> simp <;> omega
/-- How two places of a timetable compare. -/
def cmpX (ts : List TripV) (x y : Nat × Nat) : Int := cmpD (hcA ts x.1 x.2).d x.1 x.2 (hcA ts y.1 y.2).d y.1 y.2
def SortX (ts : List TripV) (ds : List (Nat × Nat)) : Prop := ∀ i j, i < j → j < ds.length → ¬ cmpX ts (ds.getD j (0, 0)) (ds.getD i (0, 0)) < 0
theorem swoX (ts : List TripV) (f : Nat → Nat × Nat) : SWO (ltOf fun x y => cmpX ts (f x) (f y)) := by
  have e : ∀ x y, ltOf (fun x y => cmpX ts (f x) (f y)) x y = decide (cmpX ts (f x) (f y) < 0) := fun x y => rfl
  constructor
  · intro x; rw [e]; simp only [decide_eq_false_iff_not, cmpX, cmpD_lt]; omega
  · intro x y z h1 h2; rw [e] at *; simp only [decide_eq_true_eq, cmpX, cmpD_lt] at *; omega
  · intro x y z h1 h2; rw [e] at *; simp only [decide_eq_false_iff_not, cmpX, cmpD_lt] at *; omega
theorem flatD_map (b off : Nat) (f : Nat → Nat × Nat) (l : List Nat) : l.flatMap (fun j => depCells b off (f j)) = flatD b off (l.map f) := by
  induction l with
  | nil => rfl
  | cons x l ih => rw [List.flatMap_cons, ih]; rfl
/-- Facts that a call of byMinute wants of one place. -/
theorem place_cells {w0 w : World} {b off : Nat} {ts : List TripV} (hz : Trips w0 (some ⟨b, off, none⟩) ts) {x : Nat × Nat} (h1 : x.1 < ts.length) (h2 : x.2 < ncA ts x.1) (hk : ∀ k, k < w0.heap.size → w.heap[k]? = w0.heap[k]?) :
    ∃ c o p, w.cell? ⟨b, off + x.1 * 2 + 1, none⟩ = some (.slice (some ⟨c, o, none⟩) (ncA ts x.1) p) ∧ w.cell? ⟨c, o + x.2 * 3 + 2, none⟩ = some (.int .i64 (hcA ts x.1 x.2).d) := by
  obtain ⟨b', off', na, cn, hA, -, q2, -, hHl⟩ := hz.at h1
  simp only [Option.some.injEq, Addr.mk.injEq, and_true] at hA
  obtain ⟨rfl, rfl⟩ := hA
  obtain ⟨bc, oc, rfl, -, -, r2⟩ := call_cells hHl h2
  exact ⟨bc, oc, cn, (World.cell?_of_block (hk _ (cell_lt q2))).trans q2, (World.cell?_of_block (hk _ (cell_lt r2))).trans r2⟩
set_option maxRecDepth 20000 in
set_option maxHeartbeats 1600000 in
theorem cSortD (b off : Nat) (ts : List TripV) (w0 w : World) (g cap : Nat) (ds : List (Nat × Nat)) (hz : Trips w0 (some ⟨b, off, none⟩) ts) (hw : Below w0.heap.size w0 w) (hin : ∀ x ∈ ds, x.1 < ts.length ∧ x.2 < ncA ts x.1)
    (ho : w.ownsRow w0.heap.size 58 3 (.slice (some ⟨g, 0, none⟩) ds.length cap) ds.length (flatD b off ds)) (hn : ds.length ≤ 288) (h0 : 0 < ds.length) :
    Calls Try.prog 24 #[.slice (some ⟨g, 0, none⟩) ds.length cap, .func (.func 25) #[] #[]] w fun e w' => e = .returned (.tuple #[]) ∧
      ∃ ds' : List (Nat × Nat), ds'.Perm ds ∧ SortX ts ds' ∧ w'.ownsRow w0.heap.size 58 3 (.slice (some ⟨g, 0, none⟩) ds.length cap) ds.length (flatD b off ds') ∧ w.grownBy w' (some g) := by
  have hgl : g < w.heap.size := owns_lt ho
  have hg0 : w0.heap.size ≤ g := own_from ho (Nat.le_refl _) g rfl
  obtain ⟨n, hnn⟩ : ∃ n, ds.length = n := ⟨_, rfl⟩
  obtain ⟨f, hf⟩ : ∃ f : Nat → Nat × Nat, f = fun j => ds.getD (j % n) (0, 0) := ⟨_, rfl⟩
  have hfm : ∀ j, f j ∈ ds := fun j => by
    have hj : j % n < ds.length := by rw [hnn]; exact Nat.mod_lt _ (by omega)
    rw [hf]; show ds.getD (j % n) (0, 0) ∈ ds
    rw [show ds.getD (j % n) (0, 0) = ds[j % n] by simp [List.getD, hj]]
    exact List.getElem_mem hj
  have hmap : (List.range n).map f = ds := by
    apply List.ext_getElem
    · simp [hnn]
    · intro i h1 h2
      simp at h1
      simp [hf, Nat.mod_eq_of_lt h1, List.getD, h2]
  have hfl : (List.range n).flatMap (fun j => depCells b off (f j)) = flatD b off ds := by rw [flatD_map, hmap]
  have hl3 : ∀ x : Nat, ((fun j => depCells b off (f j)) x).length = 3 := fun _ => rfl
  rw [hnn] at ho hn ⊢
  have hsz : (List.range n).toArray.size = n := by simp
  have ho' : w.ownsRow w0.heap.size 58 3 (.slice (some ⟨g, 0, none⟩) (List.range n).length cap) (List.range n).length ((List.range n).flatMap (fun j => depCells b off (f j))) := by rw [hfl, List.length_range]; exact ho
  have hH := holds_ownK (fun j => depCells b off (f j)) 3 (by omega) hl3 ho'
  have eg : ∀ args w, (callFunc 25 args).run Try.prog w = .ok (.enter 25 args) w := enters_of Try.func25 (by kernel_rfl) rfl
  have hcmp : CmpLays Try.prog 25 #[] (fun j => depCells b off (f j)) 3 (fun x y => cmpX ts (f x) (f y)) g 0 (List.range n).toArray.size w := by
    intro m os dk _ x y
    have hk : ∀ k, k < w0.heap.size → (sortWorldK (fun j => depCells b off (f j)) 3 w g 0 m dk os).heap[k]? = w0.heap[k]? := fun k hk =>
      ((grown_sortK (fun j => depCells b off (f j)) 3 (w := w) (g := g) (q := m) dk os).block k (by have := hw.size; omega) (by intro e; simp at e; omega)).trans (hw.block k hk)
    obtain ⟨c1, o1, p1, a1, a2⟩ := place_cells hz (hin _ (hfm x)).1 (hin _ (hfm x)).2 hk
    obtain ⟨c2, o2, p2, b1, b2⟩ := place_cells hz (hin _ (hfm y)).1 (hin _ (hfm y)).2 hk
    exact cByMinute b off (f x).1 (f x).2 c1 o1 _ p1 (f y).1 (f y).2 c2 o2 _ p2 _ _ _ a1 a2 (hin _ (hfm x)).2 b1 b2 (hin _ (hfm y)).2
  have hcon := AnyQ.slices_SortFunc Try.sortD 3 Try.isAgg58 Try.sizeOf58 (fun j => depCells b off (f j)) hl3 (fun x v hv => depCells_one b off (f x) v hv) (fun x y => cmpX ts (f x) (f y)) (swoX ts f) 25 #[] g 0 cap (List.range n).toArray w eg hcmp hH hgl (by rw [hsz]; omega)
  change Calls Try.prog 24 _ _ _ at hcon
  rw [hsz] at hcon
  refine hcon.mono ?_
  rintro e w' ⟨rfl, d', m, os, hp, hs, rfl⟩
  obtain ⟨hp1, -, hp2⟩ := hp
  rw [hsz] at hp1
  have hp3 : d'.toList.Perm (List.range n) := by
    have e1 : d'.extract 0 n = d' := by rw [← hp1]; simp
    have e2 : (List.range n).toArray.extract 0 n = (List.range n).toArray := by rw [show n = (List.range n).toArray.size from hsz.symm]; simp
    rw [e1, e2] at hp2
    simpa using hp2
  have hpm := hp3.map f
  rw [hmap] at hpm
  refine ⟨rfl, d'.toList.map f, hpm, fun i j hij hj => ?_, ?_, grown_sortK _ _ _ _⟩
  · rw [List.length_map] at hj
    have hj' : j < d'.size := by simpa using hj
    have hs2 := hs i j (Nat.zero_le _) hij (by omega)
    rw [getElem!_pos d' j hj', getElem!_pos d' i (by omega)] at hs2
    have h9 : ¬ cmpX ts (f d'[j]) (f d'[i]) < 0 := of_decide_eq_false hs2
    simpa [List.getD, hj', show i < d'.size by omega] using h9
  · have := own_sortK (fun j => depCells b off (f j)) 3 (by omega) hl3 (q := m) (os := os) ho hp1 hgl
    rw [flatD_map] at this
    exact this
end Go.Proofs.Ythbedhbbijpfkaa
