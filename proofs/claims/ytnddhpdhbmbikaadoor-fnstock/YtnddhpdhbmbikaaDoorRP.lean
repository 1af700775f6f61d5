/- The reading of a text of units, as a relation. -/
import Derived.Test.YtnddhpdhbmbikaaDoorRF
import Derived.Test.YtnddhpdhbmbikaaDoorCC
namespace Go.Proofs.YtnddhpdhbmbikaaDoor
open Go.RowKit
/-- One unit read at the place k, and the place behind it. -/
def unitO (l : List UInt8) (k : Nat) : Option (UV × Nat) :=
  (classO (nx l k)).bind fun c =>
  (numO 9999 (dgs l (nk l k))).bind fun i =>
  if nx l (nk l k + (dgs l (nk l k)).length) = 47 then
    (numO 200 (dgs l (nk l (nk l k + (dgs l (nk l k)).length)))).bind fun m =>
    (endO (nx l (nk l (nk l k + (dgs l (nk l k)).length) + (dgs l (nk l (nk l k + (dgs l (nk l k)).length))).length))).bind fun b =>
    some (⟨i, c, m, b⟩, nk l (nk l (nk l k + (dgs l (nk l k)).length) + (dgs l (nk l (nk l k + (dgs l (nk l k)).length))).length))
  else none
inductive Prs (l : List UInt8) : Nat → Option (List UV) → Prop
  | bad {k : Nat} : unitO l k = none → Prs l k none
  | last {k : Nat} {u : UV} {k' : Nat} : unitO l k = some (u, k') → k' = l.length → Prs l k (some [u])
  | sep {k : Nat} {u : UV} {k' : Nat} : unitO l k = some (u, k') → k' ≠ l.length → nx l k' ≠ 43 → Prs l k none
  | more {k : Nat} {u : UV} {k' : Nat} {r : Option (List UV)} : unitO l k = some (u, k') → k' ≠ l.length → nx l k' = 43 → Prs l (nk l k') r → Prs l k (r.map (u :: ·))
theorem Prs.unique {l : List UInt8} {k : Nat} {r s : Option (List UV)} (h : Prs l k r) : Prs l k s → r = s := by
  induction h generalizing s with
  | bad h => intro g; cases g <;> simp_all
  | last h e => intro g; cases g <;> simp_all
  | sep h e n => intro g; cases g <;> simp_all
  | more h e n p ih =>
    intro g
    cases g with
    | bad h2 => simp_all
    | last h2 e2 => simp_all
    | sep h2 e2 n2 => simp_all
    | more h2 e2 n2 p2 =>
      rw [h] at h2
      cases h2
      rw [ih p2]
end Go.Proofs.YtnddhpdhbmbikaaDoor
