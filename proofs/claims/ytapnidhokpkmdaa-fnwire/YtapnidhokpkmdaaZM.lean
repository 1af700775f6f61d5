/- The mathematics of the wire: currents, voltages, losses, the lowest, by what the numbers stand for. -/
import Derived.Test.YtapnidhokpkmdaaZS
namespace Go.Proofs.Ytapnidhokpkmdaa
open Go.RowKit Fl

def cs (es : List ZV) : List C2 := es.map ZV.c
def gC (l : List C2) (i : Nat) : C2 := l.getD i (none, none)
theorem cs_len (es : List ZV) : (cs es).length = es.length := by simp [cs]
theorem gC_cs {es : List ZV} {i : Nat} (h : i < es.length) : gC (cs es) i = (es.getD i ZV.zero).c := by simp [gC, cs, List.getD, h]
/-- The current j places ahead of the last one. -/
def sR (l : List C2) : Nat → C2
  | 0 => gC l (l.length - 1)
  | j + 1 => zadd (gC l (l.length - 1 - (j + 1))) (sR l j)
def sAt (l : List C2) (i : Nat) : C2 := sR l (l.length - 1 - i)
theorem sAt_last {l : List C2} {i : Nat} (h : i + 1 = l.length) : sAt l i = gC l i := by
  have e2 : l.length - 1 = i := by omega
  unfold sAt
  rw [show l.length - 1 - i = 0 by omega]
  simp only [sR, e2]
theorem sAt_step {l : List C2} {i : Nat} (h : i + 1 < l.length) : sAt l i = zadd (gC l i) (sAt l (i + 1)) := by
  obtain ⟨j, hj⟩ : ∃ j, l.length - 1 - i = j + 1 := ⟨l.length - 1 - i - 1, by omega⟩
  have e : l.length - 1 - (i + 1) = j := by omega
  have e2 : l.length - 1 - (j + 1) = i := by omega
  simp only [sAt, hj, e, sR, e2]
def sumsC (l : List C2) : List C2 := if 40 < l.length then [] else (List.range l.length).map (sAt l)
/-- The voltage ahead of place k. -/
def vAt (v : C2) (ls ds : List C2) : Nat → C2
  | 0 => v
  | k + 1 => zsub (vAt v ls ds k) (zmul (gC ls k) (sAt ds k))
def wireB (ls ds : List C2) : Bool := ls.length == ds.length && decide (ls.length ≤ 40)
def voltsC (v : C2) (ls ds : List C2) : List C2 := if wireB ls ds then (List.range ls.length).map (fun k => vAt v ls ds (k + 1)) else []
def lAt (ls ds : List C2) : Nat → Option Nat
  | 0 => cl 0
  | k + 1 => zo .add (lAt ls ds k) (zo .mul (zsize (sAt ds k)) (gC ls k).1)
def lossC (ls ds : List C2) : Option Nat := if wireB ls ds then lAt ls ds ls.length else cl 0
/-- The size at a place. -/
def szAt (l : List C2) (k : Nat) : Option Nat := zsize (gC l k)
def ltZ (x y : Option Nat) : Bool := zc x y == some .lt
def geZ (x y : Option Nat) : Bool := zc x y == some .gt || zc x y == some .eq
def lowP (l : List C2) (b : Int) (k : Nat) : Bool := (szAt l k).isSome && (decide (b < 0) || ltZ (szAt l k) (szAt l b.toNat))
def lowI (l : List C2) : Nat → Int
  | 0 => -1
  | k + 1 => if lowP l (lowI l k) k then (k : Int) else lowI l k
def lowC (l : List C2) : Int := if 40 < l.length then -1 else lowI l l.length
theorem lowI_in (l : List C2) (k : Nat) : lowI l k = -1 ∨ (0 ≤ lowI l k ∧ lowI l k < k) := by
  induction k with
  | zero => exact .inl rfl
  | succ k ih =>
    unfold lowI
    split
    · right; omega
    · rcases ih with h | h
      · exact .inl h
      · right; omega
def fedB (q : Option Nat) (l : List C2) : Bool := decide (l.length ≤ 40) && l.all (fun c => geZ (zsize c) q)
theorem row_nil {w : World} (B : Nat) (t sz : Nat) : w.ownsRow B t sz (.slice none 0 0) 0 [] := ⟨by simp, .inl ⟨rfl, rfl⟩⟩
theorem own_base {w : World} {B B' e sz n : Nat} {v : Value} {xs : List Value} (h : w.ownsRow B e sz v n xs) (hB : B' ≤ B) : w.ownsRow B' e sz v n xs := by
  obtain ⟨h1, h2⟩ := h
  refine ⟨h1, ?_⟩
  rcases h2 with h2 | ⟨g, cap, cur, hv, hg, r⟩
  · exact .inl h2
  · exact .inr ⟨g, cap, cur, hv, Nat.le_trans hB hg, r⟩
/-- A list of its own that stands for C. -/
def AnsZ (w : World) (C : List C2) (e : Ending) (w' : World) : Prop :=
  ∃ v zs, e = .returned v ∧ w'.ownsRow w.heap.size 26 2 v zs.length (flatZs zs) ∧ cs zs = C ∧ Below w.heap.size w w'
theorem AnsZ.no {w w' : World} (hb : Below w.heap.size w w') : AnsZ w [] (.returned (.slice none 0 0)) w' := ⟨_, [], rfl, row_nil _ _ _, rfl, hb⟩
theorem cs_ext {es : List ZV} {n : Nat} {f : Nat → C2} (hl : es.length = n) (h : ∀ j, j < n → (es.getD j ZV.zero).c = f j) : cs es = (List.range n).map f := by
  apply List.ext_getElem?
  intro j
  by_cases hj : j < n
  · have := h j hj
    have hj2 : j < es.length := by omega
    simp only [List.getD, List.getElem?_eq_getElem hj2, Option.getD_some] at this
    simp [cs, hj, hj2, this]
  · have hj2 : ¬ j < es.length := by omega
    simp [cs, hj2, hj]
end Go.Proofs.Ytapnidhokpkmdaa
