/- Draws: bytes, a cursor over them, and what it may give. -/
import Derived.Test.YtdjambejppanoaaA
import Derived.Deep.RegionHeld3
import Derived.Deep.Cut
import Derived.Deep.CutRange
import Derived.Deep.RegionWith
import Derived.Deep.AppendLies
namespace Go.Proofs.Ytdjambejppanoaa
open Go.RowKit

/-- The bytes of a slice that came in: behind its address lie the numbers zs, each a byte. -/
def Bytes (w : World) (a : Option Addr) (zs : List Int) : Prop :=
  zs = [] ∨ ∃ b off, a = some ⟨b, off, none⟩ ∧ ∀ i, i < zs.length → w.cell? ⟨b, off + i, none⟩ = some (.int .u8 (zs.getD i 0)) ∧ 0 ≤ zs.getD i 0 ∧ zs.getD i 0 ≤ 255
theorem Bytes.below {w w' : World} {a : Option Addr} {zs : List Int} (h : Bytes w a zs) (hb : Below w.heap.size w w') : Bytes w' a zs := by
  rcases h with h | ⟨b, off, ha, hc⟩
  · exact .inl h
  · exact .inr ⟨b, off, ha, fun i hi => ⟨ble hb (hc i hi).1, (hc i hi).2⟩⟩
def atZ (bs : List Int) (i : Nat) : Int := if i < bs.length then bs.getD i 0 else ((i : Int) * 11 + (bs.length : Int) * 3) % 256
theorem atZ_in {w : World} {a : Option Addr} {bs : List Int} (h : Bytes w a bs) (i : Nat) : 0 ≤ atZ bs i ∧ atZ bs i ≤ 255 := by
  unfold atZ
  split
  · rename_i hi
    rcases h with h | ⟨b, off, ha, hc⟩
    · simp [h] at hi
    · exact (hc i hi).2
  · omega


set_option maxHeartbeats 400000 in
theorem cat (a : Option Addr) (cap : Nat) (zs : List Int) (k : Nat) (w : World) (hz : Bytes w a zs) (hl : zs.length ≤ 1048576) (hk : k ≤ 100000) :
    Calls Try.prog 12 #[.slice a zs.length cap, .int .i64 (k : Int)] w fun e w' => e = .returned (.int .i64 (atZ zs k)) ∧ w' = w := by
  by_cases hlt : k < zs.length
  · have E : Hid (atZ zs k = zs.getD k 0) := by show _ = _; unfold atZ; rw [if_pos hlt]
    rcases hz with hz | ⟨b, off, rfl, hc⟩
    · simp [hz] at hlt
    obtain ⟨hck, h0, h1⟩ := hc k hlt
    clear hc
    generalize atZ zs k = r at *
    generalize zs.getD k 0 = z at *
    go_enter Try.func12, Try.ntmps12
    go_wp2
    go_ret
    exact ⟨ret_int (by rw [E.out]), rfl⟩
  · have E : Hid (atZ zs k = ((k : Int) * 11 + (zs.length : Int) * 3) % 256) := by show _ = _; unfold atZ; rw [if_neg hlt]
    clear hz
    generalize atZ zs k = r at *
    go_enter Try.func12, Try.ntmps12
    go_wp2
    go_ret
    exact ⟨ret_int (by rw [E.out]), rfl⟩


set_option maxHeartbeats 400000 in
theorem cbig (a : Option Addr) (cap n : Nat) (w : World) (hn : n ≤ maxLen) : Calls Try.prog 10 #[.slice a n cap] w fun e w' => e = .returned (.bool (decide (1048576 < n))) ∧ w' = w := by
  unfold maxLen at hn
  go_enter Try.func10, Try.ntmps10
  go_wp2
  go_ret
  exact ⟨ret_bool (decide_eq_decide.2 (by omega)), rfl⟩


/-- A cursor in block cb over the bytes zs. -/
structure Cur (w : World) (cb : Nat) (a : Option Addr) (cap : Nat) (zs : List Int) : Prop where
  cell : ∃ i h : Int, 0 ≤ i ∧ i ≤ zs.length ∧ w.heap[cb]? = some (.cells #[.slice a zs.length cap, .int .i64 i, .int .i64 h] 77 (0, 0))
  bytes : Bytes w a zs
  far : ∀ b off, a = some ⟨b, off, none⟩ → zs ≠ [] → b ≠ cb
theorem Bytes.grow {w w' : World} {a : Option Addr} {zs : List Int} {cb : Nat} (h : Bytes w a zs) (hg : w.grownBy w' (some cb)) (hf : ∀ b off, a = some ⟨b, off, none⟩ → zs ≠ [] → b ≠ cb) : Bytes w' a zs := by
  rcases h with h | ⟨b, off, ha, hc⟩
  · exact .inl h
  · refine .inr ⟨b, off, ha, fun i hi => ⟨?_, (hc i hi).2⟩⟩
    exact (hg.cell_far _ (cell_lt (hc i hi).1) (fun e => hf b off ha (by intro h; simp [h] at hi) (by simpa using e))).trans (hc i hi).1
theorem grown_then {a b c : World} {r : Option Nat} (h : a.grownBy b r) (g : Below b.heap.size b c) : a.grownBy c r :=
  ⟨g.os.trans h.os, g.tape.trans h.tape, g.output.trans h.output, Nat.le_trans h.size g.size, fun k hk hr => (g.block k (Nat.lt_of_lt_of_le hk h.size)).trans (h.block k hk hr)⟩
theorem grown_trans {a b c : World} {r : Option Nat} (h : a.grownBy b r) (g : b.grownBy c r) : a.grownBy c r :=
  ⟨g.os.trans h.os, g.tape.trans h.tape, g.output.trans h.output, Nat.le_trans h.size g.size, fun k hk hr => (g.block k (Nat.lt_of_lt_of_le hk h.size) hr).trans (h.block k hk hr)⟩
theorem Cur.below {w w' : World} {cb cap : Nat} {a : Option Addr} {zs : List Int} (h : Cur w cb a cap zs) (hb : Below w.heap.size w w') : Cur w' cb a cap zs := by
  obtain ⟨⟨i, h, i0, i1, hc⟩, hy, hf⟩ := h
  exact ⟨⟨i, h, i0, i1, (hb.block _ (lt_of_block hc)).trans hc⟩, hy.below hb, hf⟩
theorem grown_set (w : World) (b i : Nat) (u : Value) : w.grownBy (w.setCell ⟨b, i, none⟩ u) (some b) :=
  ⟨rfl, rfl, rfl, by simp, fun k _ hne => Below.heap_setCell w _ u k (fun e => hne (by simp at e; simp [e]))⟩
/-- The blocks that a cursor lives on. -/
def OnCur (cb : Nat) (a : Option Addr) (zs : List Int) (k : Nat) : Prop := k = cb ∨ (zs ≠ [] ∧ ∃ off, a = some ⟨k, off, none⟩)
theorem Cur.lt {w : World} {cb cap : Nat} {a : Option Addr} {zs : List Int} (h : Cur w cb a cap zs) {k : Nat} (hk : OnCur cb a zs k) : k < w.heap.size := by
  rcases hk with rfl | ⟨hne, off, rfl⟩
  · obtain ⟨i, h, _, _, hc⟩ := h.cell
    exact lt_of_block hc
  · rcases h.bytes with hz | ⟨b', off', ha, hc⟩
    · exact absurd hz hne
    · simp only [Option.some.injEq, Addr.mk.injEq] at ha
      have := cell_lt (hc 0 (by cases zs <;> simp_all)).1
      omega
theorem Cur.keep {w w' : World} {cb cap : Nat} {a : Option Addr} {zs : List Int} (h : Cur w cb a cap zs) (hk : ∀ k, OnCur cb a zs k → w'.heap[k]? = w.heap[k]?) : Cur w' cb a cap zs := by
  obtain ⟨⟨i, hh, i0, i1, hc⟩, hy, hf⟩ := h
  refine ⟨⟨i, hh, i0, i1, (hk cb (.inl rfl)).trans hc⟩, ?_, hf⟩
  rcases hy with hy | ⟨b, off, ha, hcy⟩
  · exact .inl hy
  · refine .inr ⟨b, off, ha, fun i hi => ⟨?_, (hcy i hi).2⟩⟩
    have hne : zs ≠ [] := by intro e; simp [e] at hi
    exact (World.cell?_of_block (w := w) (hk b (.inr ⟨hne, off, ha⟩))).trans (hcy i hi).1
theorem Cur.under {w w' : World} {cb cap B : Nat} {a : Option Addr} {zs : List Int} (h : Cur w cb a cap zs) (hB : ∀ k, OnCur cb a zs k → k < B) (hb : Below B w w') : Cur w' cb a cap zs :=
  h.keep fun k hk => hb.block k (hB k hk)
theorem Cur.grow {w w' : World} {cb cap B : Nat} {a : Option Addr} {zs : List Int} {r : Option Nat} (h : Cur w cb a cap zs) (hB : ∀ k, OnCur cb a zs k → k < B) (hg : w.grownBy w' r) (hr : ∀ k, r = some k → B ≤ k) : Cur w' cb a cap zs :=
  h.keep fun k hk => hg.block k (h.lt hk) (fun e => by have := hr k e.symm; have := hB k hk; omega)
theorem grown_far {a b c : World} {r r' : Option Nat} (h : a.grownBy b r) (g : b.grownBy c r') (hr : ∀ k, r' = some k → a.heap.size ≤ k) : a.grownBy c r :=
  ⟨g.os.trans h.os, g.tape.trans h.tape, g.output.trans h.output, Nat.le_trans h.size g.size, fun k hk hne => (g.block k (Nat.lt_of_lt_of_le hk h.size) (fun e => by have := hr k e.symm; omega)).trans (h.block k hk hne)⟩
theorem grown_alloc (w : World) (o : Obj) (r : Option Nat) : w.grownBy (w.alloc o) r := World.grownBy_alloc w o r
theorem bset {B b i : Nat} {a w : World} {u : Value} (h : Below B a w) (hb : B ≤ b) : Below B a (w.setCell ⟨b, i, none⟩ u) := h.setCell (p := ⟨b, i, none⟩) hb u
theorem mask255 (x : Int) : 0 ≤ bits .and .i64 x 255 ∧ bits .and .i64 x 255 ≤ 255 := by
  have e : bits .and .i64 x 255 = IntKind.i64.wrap (((BitVec.ofInt 64 x &&& BitVec.ofInt 64 255).toNat : Nat) : Int) := rfl
  have h : (BitVec.ofInt 64 x &&& BitVec.ofInt 64 255).toNat ≤ 255 := by
    rw [BitVec.toNat_and]
    exact Nat.le_trans Nat.and_le_right (by decide)
  generalize (BitVec.ofInt 64 x &&& BitVec.ofInt 64 255).toNat = n at *
  rw [e, wrap_in _ (by omega) (by omega)]
  omega

set_option maxHeartbeats 3200000 in
theorem cbyte (cb cap : Nat) (a : Option Addr) (zs : List Int) (w : World) (hc : Cur w cb a cap zs) (hl : zs.length ≤ 1048576) :
    Calls Try.prog 65 #[.pointer (some ⟨cb, 0, none⟩)] w fun e w' => ∃ r, e = .returned (.int .i64 r) ∧ 0 ≤ r ∧ r ≤ 255 ∧ Cur w' cb a cap zs ∧ w.grownBy w' (some cb) := by
  obtain ⟨⟨i, h, i0, i1, hb⟩, hy, hf⟩ := hc
  have k0 : w.cell? ⟨cb, 0, none⟩ = some (.slice a zs.length cap) := Go.Joins.cell_of_block hb 0
  have k1 : w.cell? ⟨cb, 1, none⟩ = some (.int .i64 i) := Go.Joins.cell_of_block hb 1
  have k2 : w.cell? ⟨cb, 2, none⟩ = some (.int .i64 h) := Go.Joins.cell_of_block hb 2
  have f1 := Go.Joins.unfrozen_of_block hb 1
  have f2 := Go.Joins.unfrozen_of_block hb 2
  have hlt := lt_of_block hb
  have hB := fun h' : Int => Go.Joins.block_setCell (i := 2) hb (.int .i64 h')
  have hG := fun h' : Int => grown_set w cb 2 (.int .i64 h')
  go_enter Try.func65, Try.ntmps65
  go_wp2
  have B1 := hB (wrap64 (wrap64 (h * 6364136223846793005) + 1442695040888963407))
  have G1 := hG (wrap64 (wrap64 (h * 6364136223846793005) + 1442695040888963407))
  generalize w.setCell ⟨cb, 2, none⟩ (.int .i64 (wrap64 (wrap64 (h * 6364136223846793005) + 1442695040888963407))) = w1 at B1 G1 ⊢
  simp only [List.setIfInBounds_toArray, List.set_cons_succ, List.set_cons_zero] at B1
  generalize wrap64 (wrap64 (h * 6364136223846793005) + 1442695040888963407) = H at B1 ⊢
  have y1 := hy.grow G1 hf
  clear hB hG k0 k1 k2 f1 f2 hlt hb hy
  have k0 : w1.cell? ⟨cb, 0, none⟩ = some (.slice a zs.length cap) := Go.Joins.cell_of_block B1 0
  have k1 : w1.cell? ⟨cb, 1, none⟩ = some (.int .i64 i) := Go.Joins.cell_of_block B1 1
  have k2 : w1.cell? ⟨cb, 2, none⟩ = some (.int .i64 H) := Go.Joins.cell_of_block B1 2
  have f1 := Go.Joins.unfrozen_of_block B1 1
  have hB2 := Go.Joins.block_setCell (i := 1) B1 (.int .i64 (i + 1))
  have hG2 := grown_set w1 cb 1 (.int .i64 (i + 1))
  simp only [List.setIfInBounds_toArray, List.set_cons_succ, List.set_cons_zero] at hB2
  go_quiet (fail)
  go_wp2
  go_quiet (fail)
  by_cases hi : i < zs.length
  · obtain ⟨k, rfl⟩ := Int.eq_ofNat_of_zero_le i0
    rcases y1 with hy | ⟨b, off, rfl, hcy⟩
    · simp [hy] at hi; omega
    obtain ⟨hck, h0, h1⟩ := hcy k (by omega)
    have hk1 : k < zs.length := by omega
    go_wp2
    go_quiet (fail)
    go_wp2
    go_ret
    have hy2 : Bytes w1 (some ⟨b, off, none⟩) zs := .inr ⟨b, off, rfl, hcy⟩
    have y2 := hy2.grow hG2 hf
    have bd := fun q => bdraw (Below.refl (w1.setCell ⟨cb, 1, none⟩ (.int .i64 ((k : Int) + 1))).heap.size (w1.setCell ⟨cb, 1, none⟩ (.int .i64 ((k : Int) + 1)))) q
    exact ⟨_, rfl, (mask255 _).1, (mask255 _).2, Cur.below ⟨⟨(k : Int) + 1, H, by omega, by omega, hB2⟩, y2, hf⟩ (bd _), grown_then (grown_trans G1 hG2) (bd _)⟩
  · go_wp2
    go_ret
    have bd := fun q => bdraw (Below.refl w1.heap.size w1) q
    exact ⟨_, rfl, (mask255 _).1, (mask255 _).2, Cur.below ⟨⟨i, H, i0, i1, B1⟩, y1, hf⟩ (bd _), grown_then G1 (bd _)⟩

theorem rem_in {x n : Int} (hx : 0 ≤ x) (hn : 1 ≤ n) (hn1 : n ≤ 1000000) : IntKind.i64.wrap (x.tmod n) = x % n ∧ 0 ≤ x % n ∧ x % n < n := by
  have h0 : 0 ≤ x % n := Int.emod_nonneg _ (by omega)
  have h1 : x % n < n := Int.emod_lt_of_pos _ (by omega)
  refine ⟨?_, h0, h1⟩
  rw [Int.tmod_eq_emod_of_nonneg hx]
  exact wrap_in _ (by omega) (by omega)

set_option maxHeartbeats 1600000 in
theorem cbelow (cb cap : Nat) (a : Option Addr) (zs : List Int) (n : Int) (w : World) (hc : Cur w cb a cap zs) (hl : zs.length ≤ 1048576) (hn : 1 ≤ n) (hn1 : n ≤ 1000000) :
    Calls Try.prog 53 #[.pointer (some ⟨cb, 0, none⟩), .int .i64 n] w fun e w' => ∃ r, e = .returned (.int .i64 r) ∧ 0 ≤ r ∧ r < n ∧ Cur w' cb a cap zs ∧ w.grownBy w' (some cb) := by
  by_cases h2 : n ≤ 256
  · go_enter Try.func53, Try.ntmps53
    go_wp2_with fail
    refine (cbyte cb cap a zs _ hc hl).mono ?_
    rintro e w1 ⟨r, rfl, r0, r1, C1, G1⟩
    obtain ⟨q1, q2, q3⟩ := rem_in r0 hn hn1
    go_wp2
    go_ret
    exact ⟨_, rfl, by omega, by omega, C1, G1⟩
  · go_enter Try.func53, Try.ntmps53
    go_wp2_with fail
    refine (cbyte cb cap a zs _ hc hl).mono ?_
    rintro e w1 ⟨x, rfl, x0, x1, C1, G1⟩
    go_wp2_with fail
    refine (cbyte cb cap a zs _ C1 hl).mono ?_
    rintro e w2 ⟨y, rfl, y0, y1, C2, G2⟩
    go_wp2_with fail
    refine (cbyte cb cap a zs _ C2 hl).mono ?_
    rintro e w3 ⟨z, rfl, z0, z1, C3, G3⟩
    obtain ⟨q1, q2, q3⟩ := rem_in (x := x * 65536 + y * 256 + z) (by omega) hn hn1
    go_wp2
    go_ret
    exact ⟨_, rfl, by omega, by omega, C3, grown_trans (grown_trans G1 G2) G3⟩


set_option maxHeartbeats 800000 in
theorem conce (cb cap : Nat) (a : Option Addr) (zs : List Int) (n : Int) (w : World) (hc : Cur w cb a cap zs) (hl : zs.length ≤ 1048576) (hn : 1 ≤ n) (hn1 : n ≤ 1000000) :
    Calls Try.prog 54 #[.pointer (some ⟨cb, 0, none⟩), .int .i64 n] w fun e w' => ∃ r, e = .returned (.bool r) ∧ Cur w' cb a cap zs ∧ w.grownBy w' (some cb) := by
  go_enter Try.func54, Try.ntmps54
  go_wp2_with fail
  refine (cbelow cb cap a zs n _ hc hl hn hn1).mono ?_
  rintro e w1 ⟨r, rfl, r0, r1, C1, G1⟩
  go_wp2
  go_ret
  exact ⟨_, rfl, C1, G1⟩


set_option maxRecDepth 20000 in
set_option maxHeartbeats 1600000 in
theorem cnew (a : Option Addr) (cap : Nat) (zs : List Int) (w : World) (hz : Bytes w a zs) (hl : zs.length ≤ 1048576) :
    Calls Try.prog 33 #[.slice a zs.length cap] w fun e w' => ∃ cb, e = .returned (.pointer (some ⟨cb, 0, none⟩)) ∧ w.heap.size ≤ cb ∧ Cur w' cb a cap zs ∧ Below w.heap.size w w' := by
  go_enter Try.func33, Try.ntmps33
  go_wp2
  go_loop [3, 4] (fun h i => ∃ (k : Nat) (H : Int), k ≤ zs.length ∧ i = .int .i64 k ∧ h = .int .i64 H) (fun _ i => zs.length - (intOf i).toNat)
  case atStart => exact ⟨0, _, Nat.zero_le _, rfl, rfl⟩
  case round =>
    obtain ⟨k, H, hk, rfl, rfl⟩ := hrel
    have cur : Cur (w.alloc (.cells #[.slice a zs.length cap, .int .i64 0, .int .i64 H] 77)) w.heap.size a cap zs := by
      refine ⟨⟨0, H, by omega, by omega, heap_alloc_new w _⟩, hz.below (balloc _ _), ?_⟩
      rintro b off rfl hne
      rcases hz with hz | ⟨b', off', ha, hc⟩
      · exact absurd hz hne
      · simp only [Option.some.injEq, Addr.mk.injEq] at ha
        have := cell_lt (hc 0 (by cases zs <;> simp_all)).1
        omega
    by_cases l1 : k < zs.length
    · by_cases l2 : k < 4000
      · rcases hz with hz | ⟨b, off, rfl, hc⟩
        · simp [hz] at l1
        obtain ⟨hck, h0, h1⟩ := hc k l1
        clear cur
        go_wp2
        go_round
        case rel => exact ⟨k + 1, _, by omega, by go_num, rfl⟩
        case measure => simp [intOf]; omega
      · go_wp2
        go_ret
        exact ⟨_, rfl, Nat.le_refl _, cur, balloc _ _⟩
    · go_wp2
      go_ret
      exact ⟨_, rfl, Nat.le_refl _, cur, balloc _ _⟩

end Go.Proofs.Ytdjambejppanoaa
