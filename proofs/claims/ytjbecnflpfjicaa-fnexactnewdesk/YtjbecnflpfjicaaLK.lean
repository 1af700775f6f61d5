/- Sidings in memory of their own: measured, copied, compared, marked, and their marks held. -/
import Derived.Test.YtjbecnflpfjicaaTR
import Derived.Test.YtjbecnflpfjicaaSV
import Derived.Deep.RegionHeld3
import Derived.BigQuiet
namespace Go.Proofs.Ytjbecnflpfjicaa
open Go.RowKit
/-- How many wagons are on the first rows. -/
def sm (rows : List (List Int)) (i : Nat) : Nat := (rows.take i).flatten.length
theorem sm_zero (rows : List (List Int)) : sm rows 0 = 0 := by simp [sm]
theorem sm_succ {rows : List (List Int)} {i : Nat} (h : i < rows.length) : sm rows (i + 1) = sm rows i + (rwA rows i).length := by
  unfold sm
  rw [List.take_succ_eq_append_getElem h, List.flatten_append, List.length_append]
  simp [rwA, List.getD, h]
theorem sm_mono {rows : List (List Int)} {i : Nat} : ∀ j, i ≤ j → j ≤ rows.length → sm rows i ≤ sm rows j
  | 0, h, _ => by
    obtain rfl : i = 0 := by omega
    exact Nat.le_refl _
  | j + 1, h, hj => by
    by_cases e : i = j + 1
    · subst e; exact Nat.le_refl _
    · have := sm_mono (rows := rows) (i := i) j (by omega) (by omega)
      rw [sm_succ (show j < rows.length by omega)]; omega
theorem sm_row {rows : List (List Int)} {i : Nat} (h : i < rows.length) : (rwA rows i).length ≤ sm rows rows.length := by
  have := sm_mono rows.length (show i + 1 ≤ rows.length by omega) (Nat.le_refl _)
  rw [sm_succ h] at this; omega
theorem infoIntS : (Try.prog.info? 29).map (fun i => (i.zero, i.size, i.bytes)) = some (some (.slice none 0 0), 1, 24) := by kernel_rfl
/-! Measured. -/
/-! Copied. -/
theorem gofr {w w' : World} (r : Option Nat) (hb : Below w.heap.size w w') : w.grownBy w' r := ⟨hb.os, hb.tape, hb.output, hb.size, fun k hk _ => hb.block k hk⟩
theorem TabR.made {e B g b : Nat} {w : World} (h : w.ownsRow B e 1 (.slice (some ⟨g, 0, none⟩) b b) b (List.replicate b (.slice none 0 0))) : TabR e B w (.slice (some ⟨g, 0, none⟩) b b) (List.replicate b (.slice none 0 0)) (List.replicate b []) := by
  refine ⟨by simpa using h, fun j hj => ?_, fun i j hi hj _ k hk => ?_⟩
  · have : rwA (List.replicate b ([] : List Int)) j = [] := by simp only [rwA, List.getD, List.getElem?_replicate]; split <;> rfl
    rw [this, List.getElem_replicate]; exact RowI.nil _ _
  · rw [List.getElem_replicate] at hk; simp [Value.ownBlock] at hk
/-- The first k rows, and none behind. -/
def upR (rows : List (List Int)) (k : Nat) : List (List Int) := (List.range rows.length).map (fun i => if i < k then rwA rows i else [])
theorem upR_len (rows : List (List Int)) (k : Nat) : (upR rows k).length = rows.length := by simp [upR]
theorem upR_at {rows : List (List Int)} {k i : Nat} (h : i < rows.length) : rwA (upR rows k) i = if i < k then rwA rows i else [] := by simp [upR, rwA, List.getD, h]
theorem upR_zero (rows : List (List Int)) : upR rows 0 = List.replicate rows.length [] := by
  apply List.ext_getElem
  · simp [upR]
  · intro i h1 h2; simp [upR]
theorem upR_full (rows : List (List Int)) : upR rows rows.length = rows := rows_ext (upR_len _ _) (fun i hi => by rw [upR_len] at hi; rw [upR_at hi, if_pos hi])
theorem upR_step {rows : List (List Int)} {k : Nat} (h : k < rows.length) : setR (upR rows k) k (rwA rows k) = upR rows (k + 1) := by
  refine rows_ext (by rw [setR_len, upR_len, upR_len]) fun i hi => ?_
  rw [setR_len, upR_len] at hi
  rw [rwA_set (by rw [upR_len]; exact h), upR_at hi, upR_at hi]
  by_cases e : i = k
  · subst e; rw [if_pos rfl, if_pos (by omega)]
  · rw [if_neg e]
    by_cases g : i < k
    · rw [if_pos g, if_pos (by omega)]
    · rw [if_neg g, if_neg (by omega)]
theorem TabR.ownN {e B n c g : Nat} {w : World} {vs : List Value} {xss : List (List Int)} (h : TabR e B w (.slice (some ⟨g, 0, none⟩) n c) vs xss) (hn : xss.length = n) : w.ownsRow B e 1 (.slice (some ⟨g, 0, none⟩) n c) n vs := by
  have := h.own; rw [hn] at this; exact this
/-! Sidings whose rows, and whose room, lie in blocks of their own. -/
structure SidO (B : Nat) (w : World) (rv v : Value) (vs : List Value) (room : List Int) (rows : List (List Int)) : Prop where
  room : RowI w B rv room
  tab : TabR 29 B w v vs rows
  far : ∀ j, (hj : j < vs.length) → ∀ k, vs[j].ownBlock = some k → rv.ownBlock ≠ some k
/-- The blocks of sidings. -/
def SidB (rv v : Value) (vs : List Value) (k : Nat) : Prop := rv.ownBlock = some k ∨ v.ownBlock = some k ∨ ∃ j, ∃ hj : j < vs.length, vs[j].ownBlock = some k
theorem SidO.blk {B : Nat} {w : World} {rv v : Value} {vs : List Value} {room : List Int} {rows : List (List Int)} (h : SidO B w rv v vs room rows) : ∀ k, SidB rv v vs k → B ≤ k ∧ k < w.heap.size := by
  rintro k (hk | hk | ⟨j, hj, hk⟩)
  · have := h.room.blk k hk; exact ⟨this.1, this.2.1⟩
  · have := own_type h.tab.own k hk; exact ⟨this.1, this.2.1⟩
  · have := (h.tab.each j hj).blk k hk; exact ⟨this.1, this.2.1⟩
theorem own_same {w w' : World} {B e n : Nat} {v : Value} {xs : List Value} (h : w.ownsRow B e 1 v n xs) (hk : ∀ k, v.ownBlock = some k → w'.heap[k]? = w.heap[k]?) : w'.ownsRow B e 1 v n xs := by
  refine ⟨h.1, ?_⟩
  rcases h.2 with h2 | ⟨g, cap', cur, rfl, hg, hh, hr⟩
  · exact .inl h2
  · exact .inr ⟨g, cap', cur, rfl, hg, (hk g (by simp [Value.ownBlock])).trans hh, hr⟩
theorem SidO.keep {B : Nat} {w w' : World} {rv v : Value} {vs : List Value} {room : List Int} {rows : List (List Int)} (h : SidO B w rv v vs room rows) (hk : ∀ k, SidB rv v vs k → w'.heap[k]? = w.heap[k]?) : SidO B w' rv v vs room rows :=
  ⟨h.room.same (fun k e => hk k (.inl e)), ⟨own_same h.tab.own (fun k e => hk k (.inr (.inl e))), fun j hj => (h.tab.each j hj).same (fun k e => hk k (.inr (.inr ⟨j, hj, e⟩))), h.tab.pair⟩, h.far⟩
theorem SidO.below {B : Nat} {w w' : World} {rv v : Value} {vs : List Value} {room : List Int} {rows : List (List Int)} (h : SidO B w rv v vs room rows) (hb : Below w.heap.size w w') : SidO B w' rv v vs room rows :=
  h.keep (fun k hk => hb.block k (h.blk k hk).2)
theorem SidO.base {B B' : Nat} {w : World} {rv v : Value} {vs : List Value} {room : List Int} {rows : List (List Int)} (h : SidO B w rv v vs room rows) (hB : B' ≤ B) : SidO B' w rv v vs room rows := ⟨h.room.base hB, h.tab.base hB, h.far⟩
theorem TabR.rowsW {e B n c : Nat} {w : World} {a : Option Addr} {vs : List Value} {xss : List (List Int)} (h : TabR e B w (.slice a n c) vs xss) : RowsW w a vs xss := by
  refine ⟨h.len, ?_, fun i hi => ?_⟩
  · by_cases h0 : xss = []
    · exact .inl h0
    · right
      rcases h.own.2 with ⟨_, h1⟩ | ⟨g, c', cur, e1, _⟩
      · exact absurd (List.length_eq_zero_iff.1 h1) h0
      · simp only [Value.slice.injEq] at e1
        obtain ⟨rfl, rfl, rfl⟩ := e1
        exact ⟨g, 0, rfl, fun i hi => by rw [Nat.zero_add]; exact h.cell hi⟩
  · obtain ⟨ai, ci, h1, h2, h3, _⟩ := (h.each i hi).form
    exact ⟨ai, ci, h1, h2, h3⟩
/-- What sidings of their own are as an argument. -/
theorem SidO.arg {B : Nat} {w : World} {rv v : Value} {vs : List Value} {room : List Int} {rows : List (List Int)} (h : SidO B w rv v vs room rows) :
    ∃ ra rc a c, rv = .slice ra room.length rc ∧ v = .slice a rows.length c ∧ Ints w ra room ∧ RowsW w a vs rows ∧ room.length ≤ rc := by
  obtain ⟨ra, rc, rfl, h2, h3, _⟩ := h.room.form
  obtain ⟨a, c, hv⟩ := own_form h.tab.own
  have := h.tab
  rw [hv] at this
  exact ⟨ra, rc, a, c, rfl, hv, h2, this.rowsW, h3⟩
end Go.Proofs.Ytjbecnflpfjicaa
