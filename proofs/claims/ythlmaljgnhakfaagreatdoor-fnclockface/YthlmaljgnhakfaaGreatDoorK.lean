/- A trip moved: of the model. -/
import Derived.Test.YthlmaljgnhakfaaGreatDoorJ
namespace Go.Proofs.YthlmaljgnhakfaaGreatDoor
open Go.RowKit
theorem OutT.farG {W0 wr wx w2 : World} {s : ByteArray} {ao : Option Addr} {cp : Nat} {xs : List HaltV} (_h : OutT W0 wr s ao cp xs) (hx : Below wr.heap.size wr wx) (hgrow : wx.grownBy w2 (Value.slice ao xs.length cp).ownBlock)
    {b : Nat} (hb : b < wr.heap.size) (hne : ∀ k, (Value.slice ao xs.length cp).ownBlock = some k → k ≠ b) : w2.heap[b]? = wr.heap[b]? :=
  (hgrow.block _ (by have := hx.size; omega) (fun e => hne b e.symm rfl)).trans (hx.block _ hb)
theorem OutT.outG {W0 wr wx w2 : World} {s : ByteArray} {ao : Option Addr} {cp : Nat} {xs : List HaltV} (h : OutT W0 wr s ao cp xs) (hx : Below wr.heap.size wr wx) (hgrow : wx.grownBy w2 (Value.slice ao xs.length cp).ownBlock) :
    w2.heap[W0.heap.size]? = some (.cells #[.string s, .slice ao xs.length cp] 26) :=
  (h.farG hx hgrow h.lt (fun k hk e => by have := own_from h.own (Nat.le_refl _) k hk; omega)).trans h.out
theorem OutT.pushG {W0 wr wx w2 : World} {s : ByteArray} {ao : Option Addr} {cp : Nat} {xs : List HaltV} (h : OutT W0 wr s ao cp xs) {g cap : Nat} {x : HaltV} (hx : Below wr.heap.size wr wx)
    (hown : w2.ownsRow (W0.heap.size + 1) 33 3 (.slice (some ⟨g, 0, none⟩) (xs.length + 1) cap) (xs.length + 1) (flatHalts xs ++ x.vs)) (hgrow : wx.grownBy w2 (Value.slice ao xs.length cp).ownBlock) :
    OutT W0 (w2.setCell ⟨W0.heap.size, 1, none⟩ (.slice (some ⟨g, 0, none⟩) (xs.length + 1) cap)) s (some ⟨g, 0, none⟩) cap (xs ++ [x]) := by
  have hge := own_from h.own (Nat.le_refl _)
  have hbw := btrans h.bel hx
  have hbel : Below W0.heap.size W0 w2 := hbw.grown hgrow hbw.size (fun k e => by have := hge k e; omega)
  have hlen : (xs ++ [x]).length = xs.length + 1 := by simp
  refine ⟨hbel.setCell (by simp) _, ?_, ?_⟩
  · have := blk_set (i := 1) (v := .slice (some ⟨g, 0, none⟩) (xs.length + 1) cap) (h.outG hx hgrow)
    rw [hlen]; simpa using this
  · rw [hlen, flatHalts_app]
    have e : flatHalts [x] = x.vs := by simp [flatHalts]
    rw [e]; exact own_set hown (fun k hk => by have := own_from hown (Nat.le_refl _) k hk; omega)

theorem moved_small (s : ByteArray) (cs : List HaltV) (x : Int) (hl : cs.length ≤ 1048576) : (movedT ⟨s, cs⟩ x).calls.length ≤ 1048576 := by
  unfold movedT ifOk
  split
  · split
    · rw [movedL_len]; exact hl
    · exact Nat.zero_le _
  · exact Nat.zero_le _
end Go.Proofs.YthlmaljgnhakfaaGreatDoor
