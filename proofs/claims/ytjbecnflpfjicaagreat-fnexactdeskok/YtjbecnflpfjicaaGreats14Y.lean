/- Free seats, holes, the snuggest and the farthest seat of a book. -/
import Derived.Test.YtjbecnflpfjicaaGreats14X
import Derived.Deep.RegionHeld3
import Derived.Deep.AppendLies
import Derived.Lib.AppendZerosOnto
import Derived.Lib.Overlaps
import Derived.Laws.CopyRow
import Derived.Laws.IdiomCopy
import Derived.Laws.CopyOwn
import Derived.Laws.NewBlocks
import Derived.Deep.RegionLaw
import Derived.Lib.SliceRun
import Derived.Laws.Externs
namespace Go.Proofs.YtjbecnflpfjicaaGreat.s14
open Go.RowKit Go.Lib
theorem Bk.row11 {w : World} {B b : Nat} {N : Nat} {P : Int} {gh ch : Nat} {hs : List BkV} {gs : Nat} {ds : List BkV} (h : Bk w B b N P gh ch hs gs ds) {s : Nat} (hs' : s < N) : w.cell? ⟨gs, s * 11, none⟩ = some (.bool (hF ds (s : Int) 0)) ∧ w.cell? ⟨gs, s * 11 + 1, none⟩ = some (.bool (hF ds (s : Int) 1)) ∧ w.cell? ⟨gs, s * 11 + 2, none⟩ = some (.bool (hF ds (s : Int) 2)) ∧ w.cell? ⟨gs, s * 11 + 3, none⟩ = some (.bool (hF ds (s : Int) 3)) ∧ w.cell? ⟨gs, s * 11 + 4, none⟩ = some (.bool (hF ds (s : Int) 4)) ∧ w.cell? ⟨gs, s * 11 + 5, none⟩ = some (.bool (hF ds (s : Int) 5)) ∧ w.cell? ⟨gs, s * 11 + 6, none⟩ = some (.bool (hF ds (s : Int) 6)) ∧ w.cell? ⟨gs, s * 11 + 7, none⟩ = some (.bool (hF ds (s : Int) 7)) ∧ w.cell? ⟨gs, s * 11 + 8, none⟩ = some (.bool (hF ds (s : Int) 8)) ∧ w.cell? ⟨gs, s * 11 + 9, none⟩ = some (.bool (hF ds (s : Int) 9)) ∧ w.cell? ⟨gs, s * 11 + 10, none⟩ = some (.bool (hF ds (s : Int) 10)) :=
  ⟨h.cell hs' (q := 0) (by omega), h.cell hs' (q := 1) (by omega), h.cell hs' (q := 2) (by omega), h.cell hs' (q := 3) (by omega), h.cell hs' (q := 4) (by omega), h.cell hs' (q := 5) (by omega), h.cell hs' (q := 6) (by omega), h.cell hs' (q := 7) (by omega), h.cell hs' (q := 8) (by omega), h.cell hs' (q := 9) (by omega), h.cell hs' (q := 10) (by omega)⟩
def fsL (N : Nat) (P : Int) (ds : List BkV) (on off : Int) : List Int := if askB P on off then freeK ds on off N else []

theorem fsL_mem {N : Nat} {P : Int} {ds : List BkV} {on off x : Int} (h : x ∈ fsL N P ds on off) : askB P on off = true ∧ 0 ≤ x ∧ x < N := by
  unfold fsL at h
  split at h
  · rename_i hc; have := freeK_mem.1 h; exact ⟨hc, this.1, this.2.1⟩
  · simp at h
theorem fsL_len (N : Nat) (P : Int) (ds : List BkV) (on off : Int) : (fsL N P ds on off).length ≤ N := by
  unfold fsL; split
  · exact freeK_len _ _ _ _
  · simp
theorem seatV_fs (N : Nat) (P : Int) (ds : List BkV) (on off : Int) : seatV N P ds on off = bestL (holeV ds P on off) (fsL N P ds on off) := by
  unfold seatV fsL; split
  · rw [Int.toNat_natCast]
  · rfl
/-- The best so far and its hole. -/
def BestAt (h : Int → Int) (l : List Int) (b m : Int) : Prop := b = bestL h l ∧ (b = -1 ∧ m = 12 ∨ 0 ≤ b ∧ m = h b)
theorem BestAt.step {h : Int → Int} {l : List Int} {b m s : Int} (g : BestAt h l b m) (hs : 0 ≤ s) (h1 : h s ≤ 11) : (h s < m → BestAt h (l ++ [s]) s (h s)) ∧ (¬ h s < m → BestAt h (l ++ [s]) b m) := by
  obtain ⟨g1, g2⟩ := g
  unfold BestAt
  rw [bestL_snoc, ← g1]
  unfold bestS
  constructor
  · intro hlt
    refine ⟨?_, .inr ⟨hs, rfl⟩⟩
    rcases g2 with ⟨rfl, _⟩ | ⟨_, rfl⟩
    · rw [if_pos (.inl (by omega))]
    · rw [if_pos (.inr hlt)]
  · intro hlt
    rcases g2 with ⟨_, rfl⟩ | ⟨h0, rfl⟩
    · omega
    · refine ⟨?_, .inr ⟨h0, rfl⟩⟩
      rw [if_neg (by omega)]

end Go.Proofs.YtjbecnflpfjicaaGreat.s14

/- Inserting a booking into a row. -/
namespace Go.Proofs.YtjbecnflpfjicaaGreat.s14
open Go.RowKit Go.Lib

/-- What the insertion of an element leaves. -/
def InsBks (w : World) (base : Nat) (v : Value) (n : Nat) (xs : List Value) (e : Ending) (w' : World) : Prop :=
  ∃ v', e = .returned v' ∧ w'.ownsRow base 82 4 v' (n + 1) xs ∧ w.grownBy w' v.ownBlock

end Go.Proofs.YtjbecnflpfjicaaGreat.s14

/- Inserting a booking ahead of another. -/
namespace Go.Proofs.YtjbecnflpfjicaaGreat.s14
open Go.RowKit Go.Lib

end Go.Proofs.YtjbecnflpfjicaaGreat.s14

/- Inserting a booking where there is no room. -/
namespace Go.Proofs.YtjbecnflpfjicaaGreat.s14
open Go.RowKit Go.Lib

theorem zc_size (z : Value) (k : Nat) : (Builtin.zeroCells z.cells k).size = k * z.cells.size := by simp [Builtin.zeroCells]

end Go.Proofs.YtjbecnflpfjicaaGreat.s14

