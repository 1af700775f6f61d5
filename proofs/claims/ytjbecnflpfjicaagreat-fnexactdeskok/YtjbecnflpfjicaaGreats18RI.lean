/- Rows of numbers whose capacity may be cut, what is put behind them, and the method push. -/
import Derived.Test.YtjbecnflpfjicaaGreats18B
import Derived.ArgAppend
import Derived.Maps.AppendAt
import Derived.Lib.AppendZeros
import Derived.Deep.AppendLies
namespace Go.Proofs.YtjbecnflpfjicaaGreat.s18
open Go.RowKit
abbrev enc (xs : List Int) : List Value := xs.map (Value.int .i64)
/-- A row that owns its block, or the beginning of one, cut such that nothing is put behind it there. -/
def RowI (w : World) (B : Nat) (v : Value) (xs : List Int) : Prop :=
  w.ownsRow B 3 1 v xs.length (enc xs) ∨
  ∃ g cur, v = .slice (some ⟨g, 0, none⟩) xs.length xs.length ∧ B ≤ g ∧ w.heap[g]? = some (.cells cur 3 (0, 0)) ∧ xs.length ≤ cur.size ∧ cur.size ≤ maxLen ∧ cur.toList.take xs.length = enc xs
theorem RowI.nil (w : World) (B : Nat) : RowI w B (.slice none 0 0) [] := .inl (World.ownsRow_nil _ _ _ _)
theorem RowI.own {w : World} {B n : Nat} {v : Value} {xs : List Int} (h : w.ownsRow B 3 1 v n (enc xs)) : RowI w B v xs := by
  have := h.1
  simp [enc] at this
  subst this
  exact .inl h
theorem cell_blk {w : World} {g i : Nat} {cur : Array Value} {e : TypeId} (h : w.heap[g]? = some (.cells cur e (0, 0))) : w.cell? ⟨g, i, none⟩ = cur[i]? := cell_of_row w g i cur e (0, 0) h
theorem RowI.form {w : World} {B : Nat} {v : Value} {xs : List Int} (h : RowI w B v xs) : ∃ a c, v = .slice a xs.length c ∧ Ints w a xs ∧ xs.length ≤ c ∧ c ≤ maxLen ∧ (a = none → c = 0) ∧ (∀ x, a = some x → x.spot = none ∧ x.off = 0) := by
  rcases h with h | ⟨g, cur, rfl, hB, hh, hs, hm, ht⟩
  · obtain ⟨a, c, rfl⟩ := own_form h
    have hi : Ints w a xs := Ints.own h rfl
    rcases h.2 with ⟨e, h0⟩ | ⟨g, cap', cur, e, _, _, hn, hm, _⟩
    · simp only [Value.slice.injEq] at e
      obtain ⟨rfl, _, rfl⟩ := e
      exact ⟨_, _, rfl, hi, by omega, by unfold maxLen; omega, fun _ => rfl, fun x hx => by (cases hx)⟩
    · simp only [Value.slice.injEq, true_and] at e
      obtain ⟨rfl, rfl⟩ := e
      exact ⟨_, _, rfl, hi, hn, hm, fun h => by (cases h), fun x hx => by (cases hx; exact ⟨rfl, rfl⟩)⟩
  · refine ⟨_, _, rfl, .inr ⟨g, 0, rfl, fun i hi => ?_⟩, Nat.le_refl _, Nat.le_trans hs hm, fun h => by (cases h), fun x hx => by (cases hx; exact ⟨rfl, rfl⟩)⟩
    rw [Nat.zero_add, cell_blk hh]
    have h1 : (cur.toList.take xs.length)[i]? = (enc xs)[i]? := by rw [ht]
    rw [List.getElem?_take, if_pos hi] at h1
    rw [← Array.getElem?_toList, h1]
    simp [enc, hi]
theorem RowI.blk {w : World} {B : Nat} {v : Value} {xs : List Int} (h : RowI w B v xs) : ∀ k, v.ownBlock = some k → B ≤ k ∧ k < w.heap.size ∧ ∃ cur, w.heap[k]? = some (.cells cur 3 (0, 0)) := by
  intro k hk
  rcases h with h | ⟨g, cur, rfl, hB, hh, _⟩
  · rcases h.2 with ⟨rfl, _⟩ | ⟨g, cap', cur, rfl, hg, hh, _⟩
    · simp [Value.ownBlock] at hk
    · simp [Value.ownBlock] at hk; subst hk; exact ⟨hg, lt_of_block hh, cur, hh⟩
  · simp [Value.ownBlock] at hk; subst hk; exact ⟨hB, lt_of_block hh, cur, hh⟩
theorem RowI.far {w w' : World} {B : Nat} {v : Value} {xs : List Int} {r : Option Nat} (h : RowI w B v xs) (hg : w.grownBy w' r) (hne : ∀ k, v.ownBlock = some k → r ≠ some k) : RowI w' B v xs := by
  rcases h with h | ⟨g, cur, rfl, hB, hh, hr⟩
  · exact .inl (own_far h hg (fun k hk e => hne k hk e.symm))
  · exact .inr ⟨g, cur, rfl, hB, (hg.block g (lt_of_block hh) (fun e => hne g (by simp [Value.ownBlock]) e.symm)).trans hh, hr⟩
theorem RowI.same {w w' : World} {B : Nat} {v : Value} {xs : List Int} (h : RowI w B v xs) (hk : ∀ k, v.ownBlock = some k → w'.heap[k]? = w.heap[k]?) : RowI w' B v xs := by
  rcases h with h | ⟨g, cur, rfl, hB, hh, hr⟩
  · refine .inl ⟨h.1, ?_⟩
    rcases h.2 with h2 | ⟨g, cap', cur, rfl, hg, hh, hr⟩
    · exact .inl h2
    · exact .inr ⟨g, cap', cur, rfl, hg, (hk g (by simp [Value.ownBlock])).trans hh, hr⟩
  · exact .inr ⟨g, cur, rfl, hB, (hk g (by simp [Value.ownBlock])).trans hh, hr⟩
theorem RowI.below {w w' : World} {B : Nat} {v : Value} {xs : List Int} (h : RowI w B v xs) (hb : Below w.heap.size w w') : RowI w' B v xs :=
  h.same (fun k hk => hb.block k (h.blk k hk).2.1)
theorem RowI.base {w : World} {B B' : Nat} {v : Value} {xs : List Int} (h : RowI w B v xs) (hB : B' ≤ B) : RowI w B' v xs := by
  rcases h with h | ⟨g, cur, rfl, hg, hr⟩
  · refine .inl ⟨h.1, ?_⟩
    rcases h.2 with h2 | ⟨g, cap', cur, rfl, hg, hr⟩
    · exact .inl h2
    · exact .inr ⟨g, cap', cur, rfl, Nat.le_trans hB hg, hr⟩
  · exact .inr ⟨g, cur, rfl, Nat.le_trans hB hg, hr⟩
theorem RowI.own_below {w : World} {B e n : Nat} {v : Value} {xs : List Value} (h : w.ownsRow B e 1 v n xs) {B' : Nat} (hB : B' ≤ B) : w.ownsRow B' e 1 v n xs := by
  refine ⟨h.1, ?_⟩
  rcases h.2 with h2 | ⟨g, cap', cur, rfl, hg, hr⟩
  · exact .inl h2
  · exact .inr ⟨g, cap', cur, rfl, Nat.le_trans hB hg, hr⟩
/-! What is put behind a row. -/
theorem append0I (a x : Option Addr) (m cap c : Nat) (hm : m ≤ cap) (w : World) : (Builtin.append_ #[29, 29] 29 #[.slice a m cap, .slice x 0 c]).run Tryz.prog w = .ok (.slice a m cap) w := by
  obtain ⟨i0, hi, hz0, hz1, hz2⟩ := info_parts infoInts
  cases a <;> cases x <;> simp [Builtin.append_, run_underlying Tryz.underlying29, sizeOf, typeInfo, hi, Builtin.lenOf, Builtin.firstCells, hm, storeCells, loadCells, loadCellsFrom]
theorem ints_news {w : World} {b off : Nat} {ys : List Int} (h : ∀ i, i < ys.length → w.cell? ⟨b, off + i, none⟩ = some (Value.int .i64 (ys.getD i 0))) : ∀ j u, (enc ys)[j]? = some u → w.cell? ((⟨b, off, none⟩ : Addr).add j) = some u := by
  intro j u hu
  have hj : j < ys.length := by have := (List.getElem?_eq_some_iff.1 hu).1; simpa [enc] using this
  have e : (⟨b, off, none⟩ : Addr).add j = ⟨b, off + j, none⟩ := by unfold Addr.add; split <;> simp_all
  rw [e, h j hj, ← hu]
  simp [enc, List.getD, hj]
theorem enc_one {ys : List Int} : ∀ u ∈ enc ys, u.oneCell' = true := by
  intro u hu
  simp [enc] at hu
  obtain ⟨x, _, rfl⟩ := hu
  rfl
theorem app_own {w : World} {B : Nat} {v : Value} {xs ys : List Int} (h : w.ownsRow B 3 1 v xs.length (enc xs)) (a : Option Addr) (c : Nat) (hy : Ints w a ys) (hl : xs.length + ys.length ≤ 1000000000) (hB : B ≤ w.heap.size) :
    ∃ v2 w2, (Builtin.append_ #[29, 29] 29 #[v, .slice a ys.length c]).run Tryz.prog w = .ok v2 w2 ∧ w2.ownsRow B 3 1 v2 (xs ++ ys).length (enc (xs ++ ys)) ∧ w.grownBy w2 v.ownBlock ∧ (v2.ownBlock = v.ownBlock ∨ v2.ownBlock = some w.heap.size) := by
  obtain ⟨i0, hi, hz0, hz1, hz2⟩ := info_parts infoInts
  by_cases h0 : ys = []
  · subst h0
    obtain ⟨va, vc, rfl, _, hroom, _⟩ := RowI.form (.inl h)
    exact ⟨_, _, append0I va a xs.length vc c hroom w, by simpa using h, World.grownBy.refl _ _, .inl rfl⟩
  · rcases hy with hy | ⟨b, off, rfl, hc⟩
    · exact absurd hy h0
    · obtain ⟨v2, w2, hr, h2, h3, _, h5⟩ := run_append_own_at (P := Tryz.prog) w B 29 29 3 i0 (.int .i64 0) 1 8 Tryz.underlying29 hi hz0 hz1 hz2 rfl (by decide) v xs.length (enc xs) h ⟨b, off, none⟩ ys.length c (enc ys) (by simp [enc]) (ints_news hc) enc_one (by unfold maxLen; omega) (by omega) hB
      refine ⟨v2, w2, hr, ?_, h3, h5⟩
      rw [List.length_append]
      simpa [enc] using h2
theorem app_row {w : World} {B : Nat} {v : Value} {xs ys : List Int} (h : RowI w B v xs) (a : Option Addr) (c : Nat) (hy : Ints w a ys) (hl : xs.length + ys.length ≤ 1000000000) (hB : B ≤ w.heap.size) :
    ∃ v2 w2, (Builtin.append_ #[29, 29] 29 #[v, .slice a ys.length c]).run Tryz.prog w = .ok v2 w2 ∧ RowI w2 B v2 (xs ++ ys) ∧ w.grownBy w2 v.ownBlock ∧ (v2.ownBlock = v.ownBlock ∨ v2.ownBlock = some w.heap.size) := by
  obtain ⟨i0, hi, hz0, hz1, hz2⟩ := info_parts infoInts
  rcases h with h | h
  · obtain ⟨v2, w2, hr, h2, h3, h4⟩ := app_own h a c hy hl hB
    exact ⟨v2, w2, hr, .inl h2, h3, h4⟩
  · by_cases h0 : ys = []
    · subst h0
      obtain ⟨g, cur, rfl, hr⟩ := h
      exact ⟨_, _, append0I _ a xs.length xs.length c (Nat.le_refl _) w, by rw [List.append_nil]; exact .inr ⟨g, cur, rfl, hr⟩, World.grownBy.refl _ _, .inl rfl⟩
    · rcases hy with hy | ⟨b, off, rfl, hc⟩
      · exact absurd hy h0
      · have hp : 0 < ys.length := List.length_pos_iff.2 h0
        obtain ⟨va, vc, hv, hI, _⟩ := RowI.form (.inr h)
        obtain ⟨g, cur, rfl, hg, hh, hs, hm, ht⟩ := h
        simp only [Value.slice.injEq, true_and] at hv
        obtain ⟨rfl, rfl⟩ := hv
        have holds : ∀ j u, (enc xs)[j]? = some u → w.cell? ((⟨g, 0, none⟩ : Addr).add j) = some u := by
          rcases hI with hI | ⟨b', off', e, hc'⟩
          · subst hI; intro j u hu; simp [enc] at hu
          · simp only [Option.some.injEq, Addr.mk.injEq, and_true] at e
            obtain ⟨rfl, rfl⟩ := e
            exact ints_news hc'
        obtain ⟨v2, w2, hr, h2, h3⟩ := run_append_arg_grows (P := Tryz.prog) w 29 29 3 i0 (.int .i64 0) 1 8 Tryz.underlying29 hi hz0 hz1 hz2 rfl (by decide) ⟨g, 0, none⟩ xs.length xs.length (enc xs) (by simp [enc]) holds ⟨b, off, none⟩ ys.length c (enc ys) (by simp [enc]) (ints_news hc) (by omega) (by unfold maxLen; omega) (by omega)
        have hO : w2.ownsRow w.heap.size 3 1 v2 (xs ++ ys).length (enc (xs ++ ys)) := by rw [List.length_append]; simpa [enc] using h2
        refine ⟨v2, w2, hr, RowI.base (.inl hO) hB, ⟨h3.os, h3.tape, h3.output, h3.size, fun k hk _ => h3.block k hk (by simp)⟩, ?_⟩
        rcases hO.2 with ⟨e, h1⟩ | ⟨g', cap', cur', rfl, hg', hh', _⟩
        · rw [List.length_append] at h1; omega
        · right
          have hlt := lt_of_block hh'
          have : w2.heap.size = w.heap.size + 1 := by
            have h9 := hr
            rw [run_append_grow (P := Tryz.prog) w 29 29 3 i0 (.int .i64 0) Tryz.underlying29 hi hz0 ⟨g, 0, none⟩ xs.length xs.length (enc xs) (by simp [enc, hz1]) holds ⟨b, off, none⟩ ys.length c (enc ys) (by simp [enc, hz1]) (ints_news hc) (by omega) (by omega) (growslice_fits (by omega) (by rw [hz2]; omega))] at h9
            simp only [Result.ok.injEq] at h9
            rw [← h9.2]
            simp
          simp only [Value.ownBlock, Option.some.injEq]
          omega
/-! The method push. -/
end Go.Proofs.YtjbecnflpfjicaaGreat.s18
