/- A trip that is put together in its own block: its calls appended one by one. -/
import Derived.Test.YthlmaljgnhakfaaGreatDoorH
import Derived.Deep.AppendLies
import Derived.Deep.RegionLaw
namespace Go.Proofs.YthlmaljgnhakfaaGreatDoor
open Go.RowKit
structure OutT (W0 wr : World) (s : ByteArray) (ao : Option Addr) (cp : Nat) (xs : List HaltV) : Prop where
  bel : Below W0.heap.size W0 wr
  out : wr.heap[W0.heap.size]? = some (.cells #[.string s, .slice ao xs.length cp] 26)
  own : wr.ownsRow (W0.heap.size + 1) 33 3 (.slice ao xs.length cp) xs.length (flatHalts xs)
theorem OutT.lt {W0 wr : World} {s : ByteArray} {ao : Option Addr} {cp : Nat} {xs : List HaltV} (h : OutT W0 wr s ao cp xs) : W0.heap.size < wr.heap.size := lt_of_block h.out
theorem OutT.keep {W0 wr w2 : World} {s : ByteArray} {ao : Option Addr} {cp : Nat} {xs : List HaltV} (h : OutT W0 wr s ao cp xs) (hb : Below wr.heap.size wr w2) : OutT W0 w2 s ao cp xs :=
  ⟨btrans h.bel hb, blk_keep hb h.out, own_keep h.own hb⟩
/-- What lies apart from the row stands behind an append. -/
theorem OutT.far {W0 wr : World} {s : ByteArray} {ao : Option Addr} {cp : Nat} {xs : List HaltV} (_h : OutT W0 wr s ao cp xs) {o : Obj} {w2 : World} (hgrow : (wr.drew.alloc o).grownBy w2 (Value.slice ao xs.length cp).ownBlock)
    {b : Nat} (hb : b < wr.heap.size) (hne : ∀ k, (Value.slice ao xs.length cp).ownBlock = some k → k ≠ b) : w2.heap[b]? = wr.heap[b]? := by
  have hD : wr.drew.heap.size = wr.heap.size := rfl
  exact (hgrow.block _ (by simp; omega) (fun e => hne b e.symm rfl)).trans (Below.heap_alloc wr.drew o _ (by omega))
theorem OutT.out2 {W0 wr : World} {s : ByteArray} {ao : Option Addr} {cp : Nat} {xs : List HaltV} (h : OutT W0 wr s ao cp xs) {o : Obj} {w2 : World} (hgrow : (wr.drew.alloc o).grownBy w2 (Value.slice ao xs.length cp).ownBlock) :
    w2.heap[W0.heap.size]? = some (.cells #[.string s, .slice ao xs.length cp] 26) :=
  (h.far hgrow h.lt (fun k hk e => by have := own_from h.own (Nat.le_refl _) k hk; omega)).trans h.out
theorem OutT.push {W0 wr : World} {s : ByteArray} {ao : Option Addr} {cp : Nat} {xs : List HaltV} (h : OutT W0 wr s ao cp xs) {o : Obj} {g cap : Nat} {w2 : World} {x : HaltV}
    (hown : w2.ownsRow (W0.heap.size + 1) 33 3 (.slice (some ⟨g, 0, none⟩) (xs.length + 1) cap) (xs.length + 1) (flatHalts xs ++ x.vs)) (hgrow : (wr.drew.alloc o).grownBy w2 (Value.slice ao xs.length cp).ownBlock) :
    OutT W0 (w2.setCell ⟨W0.heap.size, 1, none⟩ (.slice (some ⟨g, 0, none⟩) (xs.length + 1) cap)) s (some ⟨g, 0, none⟩) cap (xs ++ [x]) := by
  have hU := h.lt
  have hge := own_from h.own (Nat.le_refl _)
  have hD : wr.drew.heap.size = wr.heap.size := rfl
  have hbel : Below W0.heap.size W0 w2 := (h.bel.drew.alloc (by rw [hD]; exact h.bel.size) o).grown hgrow (by have := h.bel.size; simp; omega) (fun k e => by have := hge k e; omega)
  have hlen : (xs ++ [x]).length = xs.length + 1 := by simp
  refine ⟨hbel.setCell (by simp) _, ?_, ?_⟩
  · have := blk_set (i := 1) (v := .slice (some ⟨g, 0, none⟩) (xs.length + 1) cap) (h.out2 hgrow)
    rw [hlen]; simpa using this
  · rw [hlen, flatHalts_app]
    have e : flatHalts [x] = x.vs := by simp [flatHalts]
    rw [e]; exact own_set hown (fun k hk => by have := own_from hown (Nat.le_refl _) k hk; omega)
/-- A trip as an answer: its calls are a row of its own. -/
def AnsTrip (w : World) (t : TripV) (e : Ending) (w' : World) : Prop :=
  ∃ ao cp, e = .returned (.agg #[.string t.name, .slice ao t.calls.length cp]) ∧ w'.ownsRow w.heap.size 33 3 (.slice ao t.calls.length cp) t.calls.length (flatHalts t.calls) ∧ Below w.heap.size w w'
theorem okTrip_zero : tripB TripV.zero = false := rfl

/-- What tripIfOk gives: the trip where it is right, else nothing. -/
def ifOk (t : TripV) : TripV := if tripB t = true then t else TripV.zero
set_option maxHeartbeats 800000 in
theorem cIfOk (g : Nat) (s : ByteArray) (ao : Option Addr) (cp : Nat) (cs : List HaltV) (w : World) (hg : w.heap[g]? = some (.cells #[.string s, .slice ao cs.length cp] 26)) (hz : Halts w ao cs) (hl : cs.length ≤ 1048576) (hcap : cs.length ≤ cp) :
    Calls Tryz.prog 32 #[.pointer (some ⟨g, 0, none⟩)] w fun e w' => Below w.heap.size w w' ∧ e = .returned (if tripB ⟨s, cs⟩ = true then .agg #[.string s, .slice ao cs.length cp] else .agg #[.string ⟨#[]⟩, .slice none 0 0]) := by
  have K0 := one_block w (.cells #[.string ⟨#[]⟩, .slice none 0 0] 26)
  have HB := balloc w (.cells #[.string ⟨#[]⟩, .slice none 0 0] 26)
  have hgl := lt_of_block hg
  generalize hR : (if tripB ⟨s, cs⟩ = true then Value.agg #[.string s, .slice ao cs.length cp] else Value.agg #[.string ⟨#[]⟩, .slice none 0 0]) = V
  replace hR := hide hR
  replace hg := blk_keep HB hg
  obtain ⟨⟨x0, x1⟩, -⟩ := blk2 hg
  go_enter Tryz.func32, Tryz.ntmps32
  go_wp2_with fail
  refine (cTripI s ao cp cs _ (hz.below HB) hl hcap).mono ?_
  rintro e w1 ⟨rfl, hb⟩
  replace HB := btrans HB hb
  replace hg := blk_keep hb hg
  replace K0 := blk_keep hb K0
  clear hb x0 x1
  obtain ⟨⟨x0, x1⟩, -⟩ := blk2 hg
  obtain ⟨⟨y0, y1⟩, f0, f1⟩ := blk2 K0
  cases hT : tripB ⟨s, cs⟩
  · have hq := hide (show V = .agg #[.string ⟨#[]⟩, .slice none 0 0] by rw [← hR.out, hT]; rfl)
    clear hT hR
    go_wp2
    refine bodyPost_ret (v := .agg #[.string ⟨#[]⟩, .slice none 0 0]) (by simp [results, Tryz.results32, go_sem, y0, y1]) rfl ⟨?_, by rw [hq.out]⟩
    exact below_set (Nat.le_refl _) (below_set (Nat.le_refl _) HB)
  · have hq := hide (show V = .agg #[.string s, .slice ao cs.length cp] by rw [← hR.out, hT]; rfl)
    clear hT hR
    go_wp2
    refine bodyPost_ret (v := .agg #[.string s, .slice ao cs.length cp]) (by simp [results, Tryz.results32, go_sem, y0, y1]) rfl ⟨?_, by rw [hq.out]⟩
    exact below_set (Nat.le_refl _) (below_set (Nat.le_refl _) HB)
end Go.Proofs.YthlmaljgnhakfaaGreatDoor
