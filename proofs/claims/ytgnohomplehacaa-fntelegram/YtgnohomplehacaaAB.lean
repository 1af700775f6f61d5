/- Bytes put behind a row of bytes, and the library's Grow, Concat and Clone at bytes. -/
import Derived.Test.YtgnohomplehacaaMC
import Derived.ArgAppend
import Derived.Maps.AppendAt
import Derived.Lib.AppendZeros
import Derived.Lib.AppendZerosOnto
import Derived.Deep.AppendLies
namespace Go.Proofs.Ytgnohomplehacaa
open Go.RowKit
abbrev enc8 (xs : List Int) : List Value := xs.map (Value.int .u8)
theorem own_room {w : World} {B e sz n : Nat} {v : Value} {xs : List Value} (h : w.ownsRow B e sz v n xs) : ∃ a c, v = .slice a n c ∧ n ≤ c ∧ c ≤ maxLen := by
  rcases h.2 with ⟨rfl, h0⟩ | ⟨g, cap', cur, rfl, _, _, hn, hm, _⟩
  · exact ⟨none, 0, by rw [h0], by omega, by unfold maxLen; omega⟩
  · exact ⟨_, _, rfl, hn, hm⟩
theorem append0B (a x : Option Addr) (m cap c : Nat) (hm : m ≤ cap) (w : World) : (Builtin.append_ #[22, 22] 22 #[.slice a m cap, .slice x 0 c]).run Try.prog w = .ok (.slice a m cap) w := by
  obtain ⟨i0, hi, hz0, hz1, hz2⟩ := info_parts infoBys
  cases a <;> cases x <;> simp [Builtin.append_, run_underlying Try.underlying22, sizeOf, typeInfo, hi, Builtin.lenOf, Builtin.firstCells, hm, storeCells, loadCells, loadCellsFrom]
theorem bys_news {w : World} {b off : Nat} {ys : List Int} (h : ∀ i, i < ys.length → w.cell? ⟨b, off + i, none⟩ = some (Value.int .u8 (ys.getD i 0))) : ∀ j u, (enc8 ys)[j]? = some u → w.cell? ((⟨b, off, none⟩ : Addr).add j) = some u := by
  intro j u hu
  have hj : j < ys.length := by have := (List.getElem?_eq_some_iff.1 hu).1; simpa [enc8] using this
  have e : (⟨b, off, none⟩ : Addr).add j = ⟨b, off + j, none⟩ := by unfold Addr.add; split <;> simp_all
  rw [e, h j hj, ← hu]
  simp [enc8, List.getD, hj]
theorem enc8_one {ys : List Int} : ∀ u ∈ enc8 ys, u.oneCell' = true := by
  intro u hu
  simp [enc8] at hu
  obtain ⟨x, _, rfl⟩ := hu
  rfl
theorem app_by {w : World} {B n : Nat} {v : Value} {xs ys : List Int} (hn : xs.length = n) (h : w.ownsRow B 5 1 v n (enc8 xs)) (a : Option Addr) (c : Nat) (hy : Bys w a ys) (hl : n + ys.length ≤ 1000000000) (hB : B ≤ w.heap.size) :
    ∃ v2 w2, (Builtin.append_ #[22, 22] 22 #[v, .slice a ys.length c]).run Try.prog w = .ok v2 w2 ∧ w2.ownsRow B 5 1 v2 (n + ys.length) (enc8 (xs ++ ys)) ∧ w.grownBy w2 v.ownBlock ∧ (v2.ownBlock = v.ownBlock ∨ v2.ownBlock = some w.heap.size) := by
  subst hn
  obtain ⟨i0, hi, hz0, hz1, hz2⟩ := info_parts infoBys
  by_cases h0 : ys = []
  · subst h0
    obtain ⟨va, vc, rfl, hroom, _⟩ := own_room h
    exact ⟨_, _, append0B va a xs.length vc c hroom w, by simpa using h, World.grownBy.refl _ _, .inl rfl⟩
  · rcases hy with hy | ⟨b, off, rfl, hc⟩
    · exact absurd hy h0
    · obtain ⟨v2, w2, hr, h2, h3, _, h5⟩ := run_append_own_at (P := Try.prog) w B 22 22 5 i0 (.int .u8 0) 1 1 Try.underlying22 hi hz0 hz1 hz2 rfl (by decide) v xs.length (enc8 xs) h ⟨b, off, none⟩ ys.length c (enc8 ys) (by simp [enc8]) (bys_news hc) enc8_one (by unfold maxLen; omega) (by omega) hB
      refine ⟨v2, w2, hr, ?_, h3, h5⟩
      simpa [enc8] using h2
/-- One byte put behind. -/
theorem app_one {w : World} {B n : Nat} {v : Value} {xs : List Int} (x : Int) (hn : xs.length = n) (h : w.ownsRow B 5 1 v n (enc8 xs)) (hl : n ≤ 100000000) (hB : B ≤ w.heap.size) :
    ∃ v2 w2, (Builtin.append_ #[22, 22] 22 #[v, .slice (some ⟨w.heap.size, 0, none⟩) 1 1]).run Try.prog (w.alloc (.cells #[.int .u8 x] 5)) = .ok v2 w2 ∧ w2.ownsRow B 5 1 v2 (n + 1) (enc8 (xs ++ [x])) ∧ (w.alloc (.cells #[.int .u8 x] 5)).grownBy w2 v.ownBlock ∧ (v2.ownBlock = v.ownBlock ∨ v2.ownBlock = some (w.heap.size + 1)) := by
  have hb := balloc w (.cells #[.int .u8 x] 5)
  have hblk : (w.alloc (.cells #[.int .u8 x] 5)).heap[w.heap.size]? = some (.cells #[.int .u8 x] 5) := show (w.heap.push _)[w.heap.size]? = _ by simp
  have hy : Bys (w.alloc (.cells #[.int .u8 x] 5)) (some ⟨w.heap.size, 0, none⟩) [x] := .inr ⟨_, _, rfl, fun i hi => by
    obtain rfl : i = 0 := by simp at hi; omega
    exact Go.Joins.cell_of_block hblk 0⟩
  have := app_by hn (own_keep h hb) (some ⟨w.heap.size, 0, none⟩) 1 hy (by simp; omega) (by simp; omega)
  simpa using this
/-- Two bytes put behind. -/
theorem app_two {w : World} {B n : Nat} {v : Value} {xs : List Int} (x y : Int) (hn : xs.length = n) (h : w.ownsRow B 5 1 v n (enc8 xs)) (hl : n ≤ 100000000) (hB : B ≤ w.heap.size) :
    ∃ v2 w2, (Builtin.append_ #[22, 22] 22 #[v, .slice (some ⟨w.heap.size, 0, none⟩) 2 2]).run Try.prog (w.alloc (.cells #[.int .u8 x, .int .u8 y] 5)) = .ok v2 w2 ∧ w2.ownsRow B 5 1 v2 (n + 2) (enc8 (xs ++ [x, y])) ∧ (w.alloc (.cells #[.int .u8 x, .int .u8 y] 5)).grownBy w2 v.ownBlock ∧ (v2.ownBlock = v.ownBlock ∨ v2.ownBlock = some (w.heap.size + 1)) := by
  have hb := balloc w (.cells #[.int .u8 x, .int .u8 y] 5)
  have hblk : (w.alloc (.cells #[.int .u8 x, .int .u8 y] 5)).heap[w.heap.size]? = some (.cells #[.int .u8 x, .int .u8 y] 5) := show (w.heap.push _)[w.heap.size]? = _ by simp
  have hy : Bys (w.alloc (.cells #[.int .u8 x, .int .u8 y] 5)) (some ⟨w.heap.size, 0, none⟩) [x, y] := .inr ⟨_, _, rfl, fun i hi => by
    have h2 : i = 0 ∨ i = 1 := by simp at hi; omega
    rcases h2 with rfl | rfl
    · exact Go.Joins.cell_of_block hblk 0
    · exact Go.Joins.cell_of_block hblk 1⟩
  have := app_by hn (own_keep h hb) (some ⟨w.heap.size, 0, none⟩) 2 hy (by simp; omega) (by simp; omega)
  simpa using this
theorem below_app {B : Nat} {w0 w w2 : World} {o : Obj} {e sz n : Nat} {v : Value} {xs : List Value} (hb : Below B w0 w) (hB : B ≤ w.heap.size) (h : w.ownsRow B e sz v n xs) (hg : (w.alloc o).grownBy w2 v.ownBlock) : Below B w0 w2 :=
  (hb.alloc hB o).grown hg (by simp; omega) (own_from h (Nat.le_refl _))
set_option maxRecDepth 100000 in
set_option maxHeartbeats 1600000 in
theorem cGrow (n : Nat) (w : World) (hn : n ≤ 1048576) :
    Calls Try.prog 63 #[.slice none 0 0, .int .i64 n] w fun e w' => ∃ v, e = .returned v ∧ w'.ownsRow w.heap.size 5 1 v 0 [] ∧ Below w.heap.size w w' := by
  obtain ⟨i0, hi, hz0, hz1, hz2⟩ := info_parts infoBys
  by_cases h0 : n = 0
  · subst h0
    go_enter Try.func63, Try.ntmps63
    go_wp2
    go_ret
    exact ⟨_, rfl, World.ownsRow_nil _ _ _ _, Below.refl _ _⟩
  · have h0' : (0 : Int) < (n : Int) := by omega
    have hr : ∀ ty, Hid _ := fun ty => hide (Go.Lib.run_append_nil_zeros (P := Try.prog) w 22 3 ty 5 i0 (.int .u8 0) .i64 .i64 Try.underlying22 Try.underlying3 hi hz0 n (by omega) (by omega) (by omega) (by rw [hz2]; omega))
    go_enter Try.func63, Try.ntmps63
    go_wp2_with (at_builtin; refine Go.Lib.wpList_append_run _ rfl _ _ _ _ rfl _ _ rfl rfl _ _ (hr _).out ?_)
    go_ret
    have hcap : n ≤ grownCap w n 0 5 := grownCap_ge w n 0 5
    refine ⟨_, rfl, World.ownsRow_made w.drew _ (grownCap w n 0 5) (Nat.le_refl _) (grownCap_le_maxLen w n 0 5 (by unfold maxLen; omega)) ?_, btrans (Below.refl _ w).drew (balloc w.drew _)⟩
    rw [Array.size_append, size_zeroCells, size_zeroCells]
    simp
    omega
end Go.Proofs.Ytgnohomplehacaa
