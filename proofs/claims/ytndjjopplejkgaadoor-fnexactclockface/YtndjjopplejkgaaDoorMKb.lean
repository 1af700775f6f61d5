/- Marks written into a row of calls. -/
import Derived.Test.YtndjjopplejkgaaDoorQ
import Derived.Laws.BytesArg
namespace Go.Proofs.YtndjjopplejkgaaDoor
open Go.RowKit
theorem size_set (w : World) (p : Addr) (v : Value) : (w.setCell p v).heap.size = w.heap.size := by simp


set_option maxHeartbeats 3200000 in
theorem cMarkHaltsL (B g cap : Nat) (es : List HaltV) (k : Int) (w : World) (ho : w.ownsRow B 36 3 (.slice (some ⟨g, 0, none⟩) es.length cap) es.length (flatHalts es)) (hl : es.length ≤ 1048576) (hk0 : 0 ≤ k) (hk1 : k ≤ 10000000000000) :
    Calls Tryd.prog 50 #[.slice (some ⟨g, 0, none⟩) es.length cap, .int .i64 k] w fun e w' => e = .returned (.int .i64 (k + 3 * es.length)) ∧
      w'.ownsRow B 36 3 (.slice (some ⟨g, 0, none⟩) es.length cap) es.length (flatHalts (marksHalts k es.length)) ∧ w.grownBy w' (some g) := by
  go_enter Tryd.func50, Tryd.ntmps50
  go_wp2
  go_loopw [1, 5] (fun kk i wr => ∃ j : Nat, j ≤ es.length ∧ i = .int .i64 j ∧ kk = .int .i64 (k + 3 * j) ∧ wr.ownsRow B 36 3 (.slice (some ⟨g, 0, none⟩) es.length cap) es.length (flatHalts (marksHalts k j ++ es.drop j)) ∧ w.grownBy wr (some g)) (fun _ i _ => es.length - (intOf i).toNat)
  case atStart => exact ⟨0, Nat.zero_le _, rfl, by simp, by simpa [marksHalts] using ho, World.grownBy.refl _ _⟩
  case round =>
    obtain ⟨j, hj, rfl, rfl, hown, hg⟩ := hrel
    by_cases hlt : j < es.length
    · have hlen : (marksHalts k j ++ es.drop j).length = es.length := by rw [List.length_append, marksHalts_len, List.length_drop]; omega
      obtain ⟨y0, y1, y2⟩ := flatHalts_get (marksHalts k j ++ es.drop j) j (by omega)
      have f0 := hown.frozenAt (j * 3)
      have z0 := (hown.cellAt (j * 3) (by omega)).trans y0
      have f1 := hown.frozenAt (j * 3 + 1)
      have z1 := (hown.cellAt (j * 3 + 1) (by omega)).trans y1
      have f2 := hown.frozenAt (j * 3 + 2)
      have z2 := (hown.cellAt (j * 3 + 2) (by omega)).trans y2
      generalize (marksHalts k j ++ es.drop j).getD j HaltV.zero = E at z0 z1 z2
      clear y0 y1 y2
      obtain ⟨s1, t1⟩ := hown.stored (j * 3) (.int .i64 (k + 3 * j))
      obtain ⟨s2, t2⟩ := s1.stored (j * 3 + 1) (.int .i64 (k + 3 * j + 1))
      obtain ⟨s3, t3⟩ := s2.stored (j * 3 + 2) (.int .i64 (k + 3 * j + 2))
      rw [markHalts_step es k j hlt] at s3
      have hg' := gtrans hg (gtrans t1 (gtrans t2 (t3)))
      have w1 : IntKind.i64.wrap (k + 3 * (j : Int) + 1) = k + 3 * (j : Int) + 1 := (wrap_in _ (by omega) (by omega)).trans (by omega)
      have w2 : IntKind.i64.wrap (k + 3 * (j : Int) + 1 + 1) = k + 3 * (j : Int) + 2 := (wrap_in _ (by omega) (by omega)).trans (by omega)
      have w3 : IntKind.i64.wrap (k + 3 * (j : Int) + 2 + 1) = k + 3 * ((j : Int) + 1) := (wrap_in _ (by omega) (by omega)).trans (by omega)
      clear hown s1 s2 t1 t2 t3 hg hlen
      go_wp2
      exact ⟨⟨j + 1, by omega, by go_num, by go_num, s3, hg'⟩, by simp [intOf]; omega⟩
    · have hjj : j = es.length := by omega
      subst hjj
      have hown2 : wr.ownsRow B 36 3 (.slice (some ⟨g, 0, none⟩) es.length cap) es.length (flatHalts (marksHalts k es.length)) := by simpa using hown
      clear hown
      go_wp2
      go_ret
      exact ⟨rfl, hown2, hg⟩


theorem str_sz (b : UInt8) (s : ByteArray) : ((⟨#[b]⟩ : ByteArray) ++ s).size = s.size + 1 := by
  rw [ByteArray.size_append]
  show 1 + s.size = _
  omega
theorem flatP_set (vs : List (Value × Value)) (i : Nat) (hi : i < vs.length) (u : Value) : (flatP vs).set (i * 2) u = flatP (vs.set i (u, vs[i].2)) := by
  induction vs generalizing i with
  | nil => simp at hi
  | cons e es ih =>
    cases i with
    | zero => simp [flatP_cons]
    | succ i =>
      have e1 : (i + 1) * 2 = i * 2 + 1 + 1 := by omega
      rw [e1, flatP_cons]
      simp only [List.set_cons_succ, List.getElem_cons_succ]
      rw [ih i (by simpa using hi), flatP_cons]

end Go.Proofs.YtndjjopplejkgaaDoor
