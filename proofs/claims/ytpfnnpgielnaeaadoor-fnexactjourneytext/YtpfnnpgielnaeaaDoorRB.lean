/- The model's reach, walked. -/
import Derived.Test.YtpfnnpgielnaeaaDoorRA
namespace Go.Proofs.YtpfnnpgielnaeaaDoor
open Go.RowKit

/-- A call of a trip out of the list. -/
theorem call_cells {w : World} {n : Option Addr} {ts : List TripV} {i k : Nat} (h : Halts w n (ts.getD i TripV.zero).calls) (hk : k < ncA ts i) :
    ∃ b off, n = some ⟨b, off, none⟩ ∧ w.cell? ⟨b, off + k * 3, none⟩ = some (.int .i64 (hcA ts i k).n) ∧ w.cell? ⟨b, off + k * 3 + 1, none⟩ = some (.int .i64 (hcA ts i k).a) ∧ w.cell? ⟨b, off + k * 3 + 2, none⟩ = some (.int .i64 (hcA ts i k).d) := by
  rcases h with h | ⟨b, off, rfl, hc⟩
  · unfold ncA at hk; rw [h] at hk; simp at hk
  · exact ⟨b, off, rfl, hc k hk⟩

theorem mins_le {ts : List TripV} {s : Qn} {ch : Int} {h j : Nat} {A : List Int} (hg : Gd ts) (hm : s.m ≤ 200000) (hA : Mins (reachP ts s ch h) A) (hj : j < 30) : A.getD j 0 ≤ 200000 := by
  rcases hA.2 j hj with ⟨h1, _⟩ | ⟨h1, _⟩
  · rw [h1]; decide
  · rcases Jr.most (q := ⟨(j : Int), A.getD j 0⟩) hg h1 with h2 | ⟨_, _, _, h2⟩
    · have h3 : A.getD j 0 = s.m := congrArg Qn.m h2
      rw [h3]; exact hm
    · exact Int.le_trans h2 (by decide)
theorem mins_ge {ts : List TripV} {s : Qn} {ch : Int} {h j : Nat} {A : List Int} (hg : Gd ts) (hc : 0 ≤ ch) (hm : 0 ≤ s.m) (hA : Mins (reachP ts s ch h) A) (hj : j < 30) : -1 ≤ A.getD j 0 := by
  rcases hA.2 j hj with ⟨h1, _⟩ | ⟨h1, _⟩
  · rw [h1]; decide
  · have h3 : s.m ≤ A.getD j 0 := Jr.ge (q := ⟨(j : Int), A.getD j 0⟩) hg hc h1
    exact Int.le_trans (Int.le_trans (by decide) hm) h3

theorem leg_set {ts : List TripV} {s : Qn} {ch : Int} {h i k l j : Nat} {A N : List Int} (hg : Gd ts) (hc : 0 ≤ ch) (hs : 0 ≤ s.m) (hS : Mins (Seen ts s ch h A i k l) N) (hl : LegIn ts i k l) (hcan : Can ts s ch A i k) (hj : (hcA ts i l).n = j) (hj30 : j < 30) (hx : N.getD j 0 < 0 ∨ (hcA ts i l).a < N.getD j 0) :
    Mins (Seen ts s ch h A i k (l + 1)) (N.set j (hcA ts i l).a) := (hS.set (Seen.pos hg hc hs _ _ _) hj30 hx).congr (seen_leg hl hcan hj)
theorem leg_keep {ts : List TripV} {s : Qn} {ch : Int} {h i k l j : Nat} {A N : List Int} (hg : Gd ts) (hc : 0 ≤ ch) (hs : 0 ≤ s.m) (hS : Mins (Seen ts s ch h A i k l) N) (hl : LegIn ts i k l) (hcan : Can ts s ch A i k) (hj : (hcA ts i l).n = j) (hj30 : j < 30) (hx : ¬ (N.getD j 0 < 0 ∨ (hcA ts i l).a < N.getD j 0)) :
    Mins (Seen ts s ch h A i k (l + 1)) N := (hS.keep (Seen.pos hg hc hs _ _ _) hj30 hx).congr (seen_leg hl hcan hj)

end Go.Proofs.YtpfnnpgielnaeaaDoor
