/- A queue: a slice of numbers of the call's own, cut ahead, appended to behind. -/
import Derived.Test.YtdjambejppanoaaLI
import Derived.ArgAppend
namespace Go.Proofs.Ytdjambejppanoaa
open Go.RowKit
/-- The numbers xs lie at v, in a block of the call's own. -/
def Qu (w : World) (B : Nat) (v : Value) (xs : List Int) : Prop :=
  ∃ (g off cap : Nat) (cur : Array Value), v = .slice (some ⟨g, off, none⟩) xs.length cap ∧ B ≤ g ∧ w.heap[g]? = some (.cells cur 3 (0, 0)) ∧ xs.length ≤ cap ∧ off + cap ≤ cur.size ∧ ∀ j, j < xs.length → cur[off + j]? = some (.int .i64 (xs.getD j 0))
theorem Qu.below {w w' : World} {B : Nat} {v : Value} {xs : List Int} (h : Qu w B v xs) (hb : Below w.heap.size w w') : Qu w' B v xs := by
  obtain ⟨g, off, cap, cur, h1, h2, h3, h4, h5, h6⟩ := h
  exact ⟨g, off, cap, cur, h1, h2, blk_keep hb h3, h4, h5, h6⟩
theorem Qu.far {w w' : World} {B : Nat} {v : Value} {xs : List Int} {r : Option Nat} (h : Qu w B v xs) (hg : w.grownBy w' r) (hne : ∀ j, r = some j → v.ownBlock ≠ some j) : Qu w' B v xs := by
  obtain ⟨g, off, cap, cur, rfl, h2, h3, h4, h5, h6⟩ := h
  exact ⟨g, off, cap, cur, rfl, h2, far_blk hg h3 (fun j hj e => hne j hj (by simp [Value.ownBlock, e])), h4, h5, h6⟩
theorem Qu.base {w : World} {B B' : Nat} {v : Value} {xs : List Int} (h : Qu w B v xs) (hB : B' ≤ B) : Qu w B' v xs := by
  obtain ⟨g, off, cap, cur, h1, h2, h3, h4, h5, h6⟩ := h
  exact ⟨g, off, cap, cur, h1, by omega, h3, h4, h5, h6⟩
theorem Qu.of_own {w : World} {B g n cap : Nat} {xs : List Int} (h : w.ownsRow B 3 1 (.slice (some ⟨g, 0, none⟩) n cap) n (xs.map (.int .i64))) : Qu w B (.slice (some ⟨g, 0, none⟩) n cap) xs := by
  obtain ⟨h1, h2⟩ := h
  have hl : xs.length = n := by simpa using h1
  rcases h2 with ⟨e, _⟩ | ⟨g', cap', cur, e, hB, hh, hn, hm, hs, ht⟩
  · cases e
  · simp only [Value.slice.injEq, Option.some.injEq, Addr.mk.injEq, and_true, true_and] at e
    obtain ⟨rfl, rfl⟩ := e
    refine ⟨g, 0, cap, cur, by rw [hl], hB, hh, by omega, by omega, fun j hj => ?_⟩
    have e1 : (cur.toList.take (n * 1))[j]? = (xs.map (Value.int .i64))[j]? := by rw [ht]
    rw [List.getElem?_take, if_pos (by omega)] at e1
    simp only [List.getElem?_map, List.getElem?_eq_getElem hj, Option.map_some, Array.getElem?_toList] at e1
    simpa [List.getD, hj] using e1
/-- The first is cut away. -/
theorem Qu.tail {w : World} {B g off n cap : Nat} {x : Int} {xs : List Int} (h : Qu w B (.slice (some ⟨g, off, none⟩) n cap) (x :: xs)) (o2 : Nat) (ho : 0 < xs.length → o2 = off + 1) (ho2 : o2 = off + 1 ∨ o2 = off) : Qu w B (.slice (some ⟨g, o2, none⟩) xs.length (cap - 1)) xs := by
  obtain ⟨g', off', cap', cur, h1, h2, h3, h4, h5, h6⟩ := h
  simp only [Value.slice.injEq, Option.some.injEq, Addr.mk.injEq, and_true] at h1
  obtain ⟨⟨rfl, rfl⟩, -, rfl⟩ := h1
  simp only [List.length_cons] at h4 h6
  refine ⟨g, o2, cap - 1, cur, rfl, h2, h3, by omega, by omega, fun j hj => ?_⟩
  have := h6 (j + 1) (by omega)
  rw [ho (by omega), show off + 1 + j = off + (j + 1) by omega, this]
  simp [List.getD]
theorem Qu.cell {w : World} {B : Nat} {v : Value} {xs : List Int} (h : Qu w B v xs) : ∃ g off cap, v = .slice (some ⟨g, off, none⟩) xs.length cap ∧ B ≤ g ∧ g < w.heap.size ∧ xs.length ≤ cap ∧ ∀ j, j < xs.length → w.cell? ⟨g, off + j, none⟩ = some (.int .i64 (xs.getD j 0)) := by
  obtain ⟨g, off, cap, cur, h1, h2, h3, h4, h5, h6⟩ := h
  refine ⟨g, off, cap, h1, h2, lt_of_block h3, h4, fun j hj => ?_⟩
  rw [Go.Joins.cell_of_block h3]
  exact h6 j hj
theorem Qu.push {w : World} {B : Nat} {v : Value} {xs : List Int} (h : Qu w B v xs) (x : Int) (ad : Addr) (c : Nat) (hx : w.cell? ad = some (.int .i64 x)) (hsp : ad.spot = none) (hl : xs.length ≤ 1000000) (hB : B ≤ w.heap.size) :
    ∃ v2 w2, (Builtin.append_ #[29, 29] 29 #[v, .slice (some ad) 1 c]).run Try.prog w = .ok v2 w2 ∧ Qu w2 B v2 (xs ++ [x]) ∧ w.grownBy w2 v.ownBlock := by
  obtain ⟨i1, hi1, hy0, hy1, hy2⟩ := info_parts infoInts
  obtain ⟨g, off, cap, cur, rfl, h2, h3, h4, h5, h6⟩ := h
  have hnews : ∀ j u, [Value.int .i64 x][j]? = some u → w.cell? (ad.add j) = some u := by
    intro j u hj
    match j, hj with
    | 0, hj =>
      simp at hj; subst hj
      have : ad.add 0 = ad := by obtain ⟨b, o, s⟩ := ad; simp at hsp; subst hsp; simp [Addr.add]
      rw [this]; exact hx
  by_cases hr : xs.length + 1 ≤ cap
  · have hcs : off + xs.length < cur.size := by omega
    have hcell : w.cell? ⟨g, off + xs.length, none⟩ = some cur[off + xs.length] := by
      rw [Go.Joins.cell_of_block h3, Array.getElem?_eq_getElem hcs]
    have hrun := run_append_room_cells (P := Try.prog) w 29 29 3 i1 Try.underlying29 hi1 g off xs.length cap ad 1 c [.int .i64 x] (by rw [hy1]; rfl) hnews (by intro u hu; simp at hu; subst hu; rfl) hr
      (fun j hj => by simp at hj; subst hj; rw [hy1, Nat.mul_one, Nat.add_zero, hcell]; rfl) (fun j hj => by simp at hj; subst hj; exact Go.Joins.unfrozen_of_block h3 _)
    rw [hy1, Nat.mul_one] at hrun
    have e1 : w.setCells g (off + xs.length) [.int .i64 x] = w.setCell ⟨g, off + xs.length, none⟩ (.int .i64 x) := rfl
    rw [e1] at hrun
    refine ⟨_, _, hrun, ⟨g, off, cap, _, by simp, h2, blk_set h3, by simp; omega, by simp; omega, fun j hj => ?_⟩, gset (World.grownBy.refl _ _) _ _⟩
    simp only [List.length_append, List.length_cons, List.length_nil] at hj
    by_cases hjl : j < xs.length
    · rw [Array.getElem?_setIfInBounds_ne (by omega), h6 j hjl]
      simp [List.getD, List.getElem?_append_left hjl]
    · obtain rfl : j = xs.length := by omega
      rw [Array.getElem?_setIfInBounds_self_of_lt hcs]
      simp [List.getD]
  · obtain ⟨v2, w2, hrun, ho, hg⟩ := run_append_arg_grows (P := Try.prog) w 29 29 3 i1 (.int .i64 0) 1 8 Try.underlying29 hi1 hy0 hy1 hy2 rfl (by decide) ⟨g, off, none⟩ xs.length cap (xs.map (.int .i64)) (by simp)
      (fun j u hj => by
        rw [Addr.add_lit, Go.Joins.cell_of_block h3]
        simp only [List.getElem?_map, Option.map_eq_some_iff] at hj
        obtain ⟨z, hz, rfl⟩ := hj
        have hjl : j < xs.length := by
          rcases Nat.lt_or_ge j xs.length with h | h
          · exact h
          · rw [List.getElem?_eq_none h] at hz; cases hz
        rw [h6 j hjl]
        simp [List.getD, hz]) ad 1 c [.int .i64 x] rfl hnews (by omega) (by unfold maxLen; omega) (by omega)
    obtain ⟨a2, c2, rfl⟩ := own_form ho
    have ho2 : w2.ownsRow w.heap.size 3 1 (.slice a2 (xs.length + 1) c2) (xs.length + 1) ((xs ++ [x]).map (.int .i64)) := by rw [List.map_append]; exact ho
    rcases ho2.2 with ⟨e, _⟩ | ⟨g2, c3, _, e, _⟩
    · simp at e
    · simp only [Value.slice.injEq] at e
      obtain ⟨rfl, -, rfl⟩ := e
      exact ⟨_, w2, hrun, (Qu.of_own ho2).base hB, ⟨hg.os, hg.tape, hg.output, hg.size, fun k hk _ => hg.block k hk (by simp)⟩⟩
end Go.Proofs.Ytdjambejppanoaa
