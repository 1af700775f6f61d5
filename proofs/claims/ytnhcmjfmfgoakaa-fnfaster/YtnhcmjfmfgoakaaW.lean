/- Draws: a cursor over the bytes of a draw, and what it may give. -/
import Derived.Test.YtnhcmjfmfgoakaaV
import Derived.Test.YtnhcmjfmfgoakaaH
namespace Go.Proofs.Ytnhcmjfmfgoakaa
open Go.RowKit

/-- A cursor in block cb over the bytes zs. -/
structure Cur (w : World) (cb : Nat) (a : Option Addr) (cap : Nat) (zs : List Int) : Prop where
  cell : ∃ i h : Int, 0 ≤ i ∧ i ≤ zs.length ∧ w.heap[cb]? = some (.cells #[.slice a zs.length cap, .int .i64 i, .int .i64 h] 59 (0, 0))
  bytes : Bytes w a zs
  far : ∀ b off, a = some ⟨b, off, none⟩ → zs ≠ [] → b ≠ cb
theorem Bytes.grow {w w' : World} {a : Option Addr} {zs : List Int} {cb : Nat} (h : Bytes w a zs) (hg : w.grownBy w' (some cb)) (hf : ∀ b off, a = some ⟨b, off, none⟩ → zs ≠ [] → b ≠ cb) : Bytes w' a zs := by
  rcases h with h | ⟨b, off, ha, hc⟩
  · exact .inl h
  · refine .inr ⟨b, off, ha, fun i hi => ⟨?_, (hc i hi).2⟩⟩
    exact (hg.cell_far _ (cell_lt (hc i hi).1) (fun e => hf b off ha (by intro h; simp [h] at hi) (by simpa using e))).trans (hc i hi).1

theorem grown_then {a b c : World} {r : Option Nat} (h : a.grownBy b r) (g : Below b.heap.size b c) : a.grownBy c r :=
  ⟨g.os.trans h.os, g.tape.trans h.tape, g.output.trans h.output, Nat.le_trans h.size g.size, fun k hk hr => (g.block k (Nat.lt_of_lt_of_le hk h.size)).trans (h.block k hk hr)⟩
theorem grown_trans {a b c : World} {r : Option Nat} (h : a.grownBy b r) (g : b.grownBy c r) : a.grownBy c r :=
  ⟨g.os.trans h.os, g.tape.trans h.tape, g.output.trans h.output, Nat.le_trans h.size g.size, fun k hk hr => (g.block k (Nat.lt_of_lt_of_le hk h.size) hr).trans (h.block k hk hr)⟩
theorem Cur.below {w w' : World} {cb cap : Nat} {a : Option Addr} {zs : List Int} (h : Cur w cb a cap zs) (hb : Below w.heap.size w w') : Cur w' cb a cap zs := by
  obtain ⟨⟨i, h, i0, i1, hc⟩, hy, hf⟩ := h
  exact ⟨⟨i, h, i0, i1, (hb.block _ (lt_of_block hc)).trans hc⟩, hy.below hb, hf⟩
theorem grown_set (w : World) (b i : Nat) (u : Value) : w.grownBy (w.setCell ⟨b, i, none⟩ u) (some b) :=
  ⟨rfl, rfl, rfl, by simp, fun k _ hne => Below.heap_setCell w _ u k (fun e => hne (by simp at e; simp [e]))⟩
theorem mask255 (x : Int) : 0 ≤ bits .and .i64 x 255 ∧ bits .and .i64 x 255 ≤ 255 := by
  have e : bits .and .i64 x 255 = IntKind.i64.wrap (((BitVec.ofInt 64 x &&& BitVec.ofInt 64 255).toNat : Nat) : Int) := rfl
  have h : (BitVec.ofInt 64 x &&& BitVec.ofInt 64 255).toNat ≤ 255 := by
    rw [BitVec.toNat_and]
    exact Nat.le_trans Nat.and_le_right (by decide)
  generalize (BitVec.ofInt 64 x &&& BitVec.ofInt 64 255).toNat = n at *
  rw [e, wrap_in _ (by omega) (by omega)]
  omega

set_option maxHeartbeats 3200000 in
theorem c58 (cb cap : Nat) (a : Option Addr) (zs : List Int) (w : World) (hc : Cur w cb a cap zs) (hl : zs.length ≤ 1048576) :
    Calls Try.prog 58 #[.pointer (some ⟨cb, 0, none⟩)] w fun e w' => ∃ r, e = .returned (.int .i64 r) ∧ 0 ≤ r ∧ r ≤ 255 ∧ Cur w' cb a cap zs ∧ w.grownBy w' (some cb) := by
  obtain ⟨⟨i, h, i0, i1, hb⟩, hy, hf⟩ := hc
  have k0 : w.cell? ⟨cb, 0, none⟩ = some (.slice a zs.length cap) := Go.Joins.cell_of_block hb 0
  have k1 : w.cell? ⟨cb, 1, none⟩ = some (.int .i64 i) := Go.Joins.cell_of_block hb 1
  have k2 : w.cell? ⟨cb, 2, none⟩ = some (.int .i64 h) := Go.Joins.cell_of_block hb 2
  have f1 := Go.Joins.unfrozen_of_block hb 1
  have f2 := Go.Joins.unfrozen_of_block hb 2
  have hlt := lt_of_block hb
  have hB := fun h' : Int => Go.Joins.block_setCell (i := 2) hb (.int .i64 h')
  have hG := fun h' : Int => grown_set w cb 2 (.int .i64 h')
  go_enter Try.func58, Try.ntmps58
  go_wp2
  have B1 := hB (wrap64 (wrap64 (h * 6364136223846793005) + 1442695040888963407))
  have G1 := hG (wrap64 (wrap64 (h * 6364136223846793005) + 1442695040888963407))
  generalize w.setCell ⟨cb, 2, none⟩ (.int .i64 (wrap64 (wrap64 (h * 6364136223846793005) + 1442695040888963407))) = w1 at B1 G1 ⊢
  simp only [List.setIfInBounds_toArray, List.set_cons_succ, List.set_cons_zero] at B1
  generalize wrap64 (wrap64 (h * 6364136223846793005) + 1442695040888963407) = H at B1 ⊢
  have y1 := hy.grow G1 hf
  clear hB hG k0 k1 k2 f1 f2 hlt hb hy
  have k0 : w1.cell? ⟨cb, 0, none⟩ = some (.slice a zs.length cap) := Go.Joins.cell_of_block B1 0
  have k1 : w1.cell? ⟨cb, 1, none⟩ = some (.int .i64 i) := Go.Joins.cell_of_block B1 1
  have k2 : w1.cell? ⟨cb, 2, none⟩ = some (.int .i64 H) := Go.Joins.cell_of_block B1 2
  have f1 := Go.Joins.unfrozen_of_block B1 1
  have hB2 := Go.Joins.block_setCell (i := 1) B1 (.int .i64 (i + 1))
  have hG2 := grown_set w1 cb 1 (.int .i64 (i + 1))
  simp only [List.setIfInBounds_toArray, List.set_cons_succ, List.set_cons_zero] at hB2
  go_quiet (fail)
  go_wp2
  go_quiet (fail)
  by_cases hi : i < zs.length
  · obtain ⟨k, rfl⟩ := Int.eq_ofNat_of_zero_le i0
    rcases y1 with hy | ⟨b, off, rfl, hcy⟩
    · simp [hy] at hi; omega
    obtain ⟨hck, h0, h1⟩ := hcy k (by omega)
    have hk1 : k < zs.length := by omega
    go_wp2
    go_quiet (fail)
    go_wp2
    go_ret
    have hy2 : Bytes w1 (some ⟨b, off, none⟩) zs := .inr ⟨b, off, rfl, hcy⟩
    have y2 := hy2.grow hG2 hf
    have bd := fun q => bdraw (Below.refl (w1.setCell ⟨cb, 1, none⟩ (.int .i64 ((k : Int) + 1))).heap.size (w1.setCell ⟨cb, 1, none⟩ (.int .i64 ((k : Int) + 1)))) q
    exact ⟨_, rfl, (mask255 _).1, (mask255 _).2, Cur.below ⟨⟨(k : Int) + 1, H, by omega, by omega, hB2⟩, y2, hf⟩ (bd _), grown_then (grown_trans G1 hG2) (bd _)⟩
  · go_wp2
    go_ret
    have bd := fun q => bdraw (Below.refl w1.heap.size w1) q
    exact ⟨_, rfl, (mask255 _).1, (mask255 _).2, Cur.below ⟨⟨i, H, i0, i1, B1⟩, y1, hf⟩ (bd _), grown_then G1 (bd _)⟩
end Go.Proofs.Ytnhcmjfmfgoakaa
