/- Bays: a row of channels, empty ones, and entering the first that serves. -/
import Derived.Test.YteklmeekapegpaaCH
import Derived.Test.YteklmeekapegpaaC
namespace Go.Proofs.Yteklmeekapegpaa
open Go.RowKit Go.Conc

def bufOf : Option Int → Array Value
  | none => #[]
  | some p => #[.int .i64 p]
/-- The row at g holds the channels cs; in each stands who occ says. -/
structure BaysAt (w : World) (base g : Nat) (cs : List Nat) (occ : Nat → Option Int) : Prop where
  row : w.ownsRow base 66 1 (.slice (some ⟨g, 0, none⟩) cs.length cs.length) cs.length (cs.map (fun c => Value.chan (some c)))
  ch : ∀ k, k < cs.length → ∃ s r, w.heap[cs.getD k 0]? = some (.chan 1 (bufOf (occ k)) false s r false)
  nodup : cs.Nodup
  low : ∀ c ∈ cs, base ≤ c
theorem getD_mem {cs : List Nat} {k : Nat} (hk : k < cs.length) : cs.getD k 0 ∈ cs := by
  have e0 : cs.getD k 0 = cs[k] := by simp [List.getD, hk]
  rw [e0]; exact List.getElem_mem hk
theorem BaysAt.keep {w w' : World} {base g : Nat} {cs : List Nat} {occ : Nat → Option Int} (h : BaysAt w base g cs occ) (heq : ∀ b, b < w.heap.size → b = g ∨ b ∈ cs → w'.heap[b]? = w.heap[b]?) : BaysAt w' base g cs occ := by
  obtain ⟨⟨h1, h2⟩, hc, hn, hl⟩ := h
  refine ⟨⟨h1, ?_⟩, fun k hk => ?_, hn, hl⟩
  · rcases h2 with ⟨h2, _⟩ | ⟨g', cap, cur, hv, hg, hh, r⟩
    · cases h2
    · right
      have e := hv
      simp only [Value.slice.injEq, Option.some.injEq, Addr.mk.injEq] at e
      refine ⟨g', cap, cur, hv, hg, (heq g' (lt_of_block hh) (.inl e.1.1.symm)).trans hh, r⟩
  · obtain ⟨s, r, hh⟩ := hc k hk
    exact ⟨s, r, (heq _ (lt_of_block hh) (.inr (getD_mem hk))).trans hh⟩
theorem BaysAt.below {w w' : World} {base g : Nat} {cs : List Nat} {occ : Nat → Option Int} (h : BaysAt w base g cs occ) (hb : Below w.heap.size w w') : BaysAt w' base g cs occ := h.keep (fun b hb' _ => hb.block b hb')
theorem heap_setChan_other (w : World) (c c' cap : Nat) (buf : Array Value) (closed : Bool) (s r : Nat) (tm : Bool) (h : c ≠ c') : (w.setChan c cap buf closed s r tm).heap[c']? = w.heap[c']? := by
  simp [World.setChan, Array.getElem?_setIfInBounds_ne h]
theorem nodup_ne {cs : List Nat} (hn : cs.Nodup) {i j : Nat} (hi : i < cs.length) (hj : j < cs.length) (hij : i ≠ j) : cs.getD i 0 ≠ cs.getD j 0 := by
  have e1 : cs.getD i 0 = cs[i] := by simp [List.getD, hi]
  have e2 : cs.getD j 0 = cs[j] := by simp [List.getD, hj]
  rw [e1, e2]
  intro h
  exact hij ((List.getElem_inj hn).1 h)
theorem BaysAt.cellsNe {w : World} {base g : Nat} {cs : List Nat} {occ : Nat → Option Int} (h : BaysAt w base g cs occ) {b : Nat} {cur : Array Value} {t : TypeId} {f : Nat × Nat} (hb : w.heap[b]? = some (.cells cur t f)) : b ∉ cs := by
  intro hm
  obtain ⟨i, hi, e⟩ := List.mem_iff_getElem.1 hm
  obtain ⟨s, r, hh⟩ := h.ch i hi
  have e1 : cs.getD i 0 = cs[i] := by simp [List.getD, hi]
  rw [e1, e, hb] at hh
  cases hh
theorem BaysAt.rowBlock {w : World} {base g : Nat} {cs : List Nat} {occ : Nat → Option Int} (h : BaysAt w base g cs occ) : ∃ cur, w.heap[g]? = some (.cells cur 66 (0, 0)) ∧ base ≤ g := by
  rcases h.row.2 with ⟨h2, _⟩ | ⟨g', cap, cur, hv, hg, hh, r⟩
  · cases h2
  · simp only [Value.slice.injEq, Option.some.injEq, Addr.mk.injEq] at hv
    obtain ⟨⟨rfl, _⟩, _⟩ := hv
    exact ⟨cur, hh, hg⟩
def setOcc (occ : Nat → Option Int) (k : Nat) (o : Option Int) : Nat → Option Int := fun j => if j = k then o else occ j
theorem BaysAt.set {w : World} {base g : Nat} {cs : List Nat} {occ : Nat → Option Int} (h : BaysAt w base g cs occ) {k : Nat} (hk : k < cs.length) (o : Option Int) (s r : Nat) : BaysAt (w.setChan (cs.getD k 0) 1 (bufOf o) false s r false) base g cs (setOcc occ k o) := by
  obtain ⟨cur, hg, _⟩ := h.rowBlock
  have hne : cs.getD k 0 ≠ g := fun e => h.cellsNe hg (e ▸ getD_mem hk)
  obtain ⟨⟨h1, h2⟩, hc, hn, hl⟩ := h
  refine ⟨⟨h1, ?_⟩, fun j hj => ?_, hn, hl⟩
  · rcases h2 with ⟨h2, _⟩ | ⟨g', cap, cur, hv, hg, hh, r⟩
    · cases h2
    · right
      have e := hv
      simp only [Value.slice.injEq, Option.some.injEq, Addr.mk.injEq] at e
      refine ⟨g', cap, cur, hv, hg, (heap_setChan_other _ _ _ _ _ _ _ _ _ (by rw [← e.1.1]; exact hne)).trans hh, r⟩
  · by_cases e : j = k
    · subst e
      obtain ⟨s', r', hh⟩ := hc j hk
      exact ⟨s, r, by rw [heap_setChan _ _ _ _ _ _ _ _ (lt_of_block hh)]; simp [setOcc]⟩
    · obtain ⟨s', r', hh⟩ := hc j hj
      exact ⟨s', r', by rw [heap_setChan_other _ _ _ _ _ _ _ _ _ (nodup_ne hn hk hj (fun h => e h.symm)), hh]; simp [setOcc, e]⟩
theorem BaysAt.cell {w : World} {base g : Nat} {cs : List Nat} {occ : Nat → Option Int} (h : BaysAt w base g cs occ) {k : Nat} (hk : k < cs.length) : w.cell? ⟨g, k, none⟩ = some (.chan (some (cs.getD k 0))) := by
  rw [h.row.cellAt k (by omega)]
  have e1 : cs.getD k 0 = cs[k] := by simp [List.getD, hk]
  rw [e1]; simp [hk]
theorem infoBay : (Try.prog.info? 66).map (fun i => (i.zero, i.size, i.bytes)) = some (some (.chan none), 1, 8) := by kernel_rfl
theorem bytesInt : ∃ i, Try.prog.info? 3 = some i ∧ i.bytes = 8 := by
  have h : (Try.prog.info? 3).map (·.bytes) = some 8 := by kernel_rfl
  obtain ⟨i, hi, hb⟩ := Option.map_eq_some_iff.1 h
  exact ⟨i, hi, hb⟩
theorem mkBay (w : World) : (Instr.makeChan 66 (.int .i64 1)).run Try.prog w = .ok (.chan (some w.heap.size)) (w.alloc (.chan 1 #[] false 0 0 false)) := by
  obtain ⟨i, hi, hb⟩ := bytesInt
  simpa using run_makeChan (P := Try.prog) (w := w) Try.underlying66 hi .i64 1 (by omega) (by rw [hb]; omega)

set_option maxRecDepth 20000 in
set_option maxHeartbeats 1600000 in
theorem cEmptyBays (n : Nat) (w : World) (h1 : 1 ≤ n) (h2 : n ≤ 12) :
    Calls Try.prog 47 #[.int .i64 n] w fun e w' => ∃ cs : List Nat, cs.length = n ∧ e = .returned (.slice (some ⟨w.heap.size, 0, none⟩) n n) ∧ BaysAt w' w.heap.size w.heap.size cs (fun _ => none) ∧ Below w.heap.size w w' := by
  obtain ⟨i0, hi, hz0, hz1, hz2⟩ := info_parts infoBay
  have hmc := mkBay
  go_enter Try.func47, Try.ntmps47
  go_wp2_with (at_make; refine wpList_make_full _ rfl _ _ 62 rfl w.heap.size 66 i0 (.chan none) 1 Try.underlying62 hi hz0 hz1 _ _ _ _ n rfl rfl rfl rfl (by rw [hz2]; omega) (by unfold maxLen; omega) (Nat.le_refl _) ?_; intro w1 hown hgrow)
  have hown' : w1.ownsRow w.heap.size 66 1 (.slice (some ⟨w.heap.size, 0, none⟩) n n) n (([] : List Nat).map (fun c => Value.chan (some c)) ++ List.replicate (n - 0) (.chan none)) := by
    have e : (madeCells (Value.chan none).cells (n * 1)).toList = List.replicate n (.chan none) := by
      apply List.ext_getElem?
      intro j
      by_cases hj : j < n
      · simp [madeCells, Value.cells, hj, Nat.mod_one]
      · simp [madeCells, hj]
    rw [e] at hown
    simpa using hown
  have hbel : Below w.heap.size w w1 := (Below.refl _ _).grown hgrow (Nat.le_refl _) (fun k hk => by cases hk)
  clear hown hgrow
  go_loopw [9] (fun i wr => ∃ (k : Nat) (cs : List Nat), k ≤ n ∧ i = .int .i64 k ∧ cs.length = k ∧ wr.ownsRow w.heap.size 66 1 (.slice (some ⟨w.heap.size, 0, none⟩) n n) n (cs.map (fun c => Value.chan (some c)) ++ List.replicate (n - k) (.chan none)) ∧ (∀ c ∈ cs, w.heap.size < c ∧ wr.heap[c]? = some (.chan 1 #[] false 0 0 false)) ∧ cs.Nodup ∧ Below w.heap.size w wr) (fun i _ => n - (intOf i).toNat)
  case atStart => exact ⟨0, [], Nat.zero_le _, rfl, rfl, hown', fun c hc => by simp at hc, List.nodup_nil, hbel⟩
  case round =>
    obtain ⟨k, cs, hk, rfl, hcl, hown, hall, hnd, hb⟩ := hrel
    clear hown' hbel
    by_cases hlt : k < n
    · have hlt' : (k : Int) < (n : Int) := by omega
      have hg : w.heap.size < wr.heap.size := owns_lt hown
      have f0 := hown.frozenAt k
      have z0 : wr.cell? ⟨w.heap.size, k, none⟩ = some (.chan none) := by
        rw [hown.cellAt k (by omega), List.getElem?_append_right (by rw [List.length_map]; omega), List.length_map, hcl, Nat.sub_self, show n - k = n - (k + 1) + 1 by omega, List.replicate_succ]; rfl
      have hAl := balloc (wr.setCell ⟨w.heap.size, k, none⟩ (.chan (some wr.heap.size))) (.chan 1 #[] false 0 0 false)
      have hsz : (wr.setCell ⟨w.heap.size, k, none⟩ (.chan (some wr.heap.size))).heap.size = wr.heap.size := by simp
      have O2 := (hown.stored k (.chan (some wr.heap.size))).1
      rw [set_step _ n k _ (by rw [List.length_map, hcl]) hlt] at O2
      have O3 : ((wr.setCell ⟨w.heap.size, k, none⟩ (.chan (some wr.heap.size))).alloc (.chan 1 #[] false 0 0 false)).ownsRow w.heap.size 66 1 (.slice (some ⟨w.heap.size, 0, none⟩) n n) n ((cs ++ [wr.heap.size]).map (fun c => Value.chan (some c)) ++ List.replicate (n - (k + 1)) (.chan none)) := by
        rw [List.map_append]; exact own_keep O2 hAl
      have A2 : ∀ c ∈ cs ++ [wr.heap.size], w.heap.size < c ∧ ((wr.setCell ⟨w.heap.size, k, none⟩ (.chan (some wr.heap.size))).alloc (.chan 1 #[] false 0 0 false)).heap[c]? = some (.chan 1 #[] false 0 0 false) := by
        intro c hc
        rcases List.mem_append.1 hc with hc | hc
        · obtain ⟨h1, h2⟩ := hall c hc
          refine ⟨h1, (hAl.block c (by rw [hsz]; exact lt_of_block h2)).trans ?_⟩
          rw [Below.heap_setCell _ _ _ _ (by show c ≠ w.heap.size; omega)]; exact h2
        · simp only [List.mem_singleton] at hc
          subst hc
          refine ⟨hg, ?_⟩
          have := heap_alloc_new (wr.setCell ⟨w.heap.size, k, none⟩ (.chan (some wr.heap.size))) (.chan 1 #[] false 0 0 false)
          rwa [hsz] at this
      have N2 : (cs ++ [wr.heap.size]).Nodup := by
        rw [List.nodup_append]
        refine ⟨hnd, by simp, fun a ha b hb e => ?_⟩
        simp only [List.mem_singleton] at hb
        subst hb
        have := lt_of_block (hall a ha).2
        omega
      have HB2 := btrans (hb.setCell (p := ⟨w.heap.size, k, none⟩) (Nat.le_refl _) (.chan (some wr.heap.size))) hAl
      clear O2 hown hall hnd hAl hsz
      go_wp2
      go_roundw
      case rel => exact ⟨k + 1, cs ++ [wr.heap.size], by omega, by go_num, by simp [hcl], O3, A2, N2, HB2⟩
      case measure => simp [intOf]; omega
    · obtain rfl : k = n := by omega
      have hB : BaysAt wr w.heap.size w.heap.size cs (fun _ => none) := by
        refine ⟨by rw [hcl]; simpa using hown, fun j hj => ⟨0, 0, ?_⟩, hnd, fun c hc => Nat.le_of_lt (hall c hc).1⟩
        exact (hall _ (getD_mem hj)).2
      clear hown hall
      go_wp2
      go_ret
      exact ⟨cs, hcl, rfl, hB, hb⟩
end Go.Proofs.Yteklmeekapegpaa
