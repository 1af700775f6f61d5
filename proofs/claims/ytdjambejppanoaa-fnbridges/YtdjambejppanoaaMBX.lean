/- Bridges, parts and the best way: mathematics; sameInts of the laws. -/
import Derived.Test.YtdjambejppanoaaMX
import Derived.Test.YtdjambejppanoaaWN
namespace Go.Proofs.Ytdjambejppanoaa
open Go.RowKit
theorem St.erase {es : List EdgeV} {x y l : Int} {p v : Nat} (h : St es x p y l) (hne : p ≠ v) : ∃ q, St (es.eraseIdx v) x q y l := by
  obtain ⟨hp, hx, hl⟩ := h
  by_cases hlt : p < v
  · have h1 : p < (es.eraseIdx v).length := by rw [List.length_eraseIdx]; split <;> omega
    have e : (es.eraseIdx v)[p] = es[p] := by rw [List.getElem_eraseIdx, dif_pos hlt]
    exact ⟨p, h1, by rw [e]; exact hx, by rw [e]; exact hl⟩
  · have h1 : p - 1 < (es.eraseIdx v).length := by rw [List.length_eraseIdx]; split <;> omega
    have e : (es.eraseIdx v)[p - 1] = es[p] := by
      rw [List.getElem_eraseIdx, dif_neg (by omega)]
      congr 1
      omega
    exact ⟨p - 1, h1, by rw [e]; exact hx, by rw [e]; exact hl⟩
theorem Way.erase {es : List EdgeV} {x z L : Int} {ps : List Nat} {v : Nat} (h : Way es x ps z L) : v ∉ ps → ∃ qs, Way (es.eraseIdx v) x qs z L := by
  induction h with
  | nil x => intro _; exact ⟨[], .nil x⟩
  | cons s _ ih =>
    intro hv
    simp only [List.mem_cons, not_or] at hv
    obtain ⟨q, hq⟩ := s.erase (fun e => hv.1 e.symm)
    obtain ⟨qs, hqs⟩ := ih hv.2
    exact ⟨q :: qs, .cons hq hqs⟩
theorem Brg.uses {es : List EdgeV} {v : Nat} {T : TrialV} (hv : v < es.length) (h : Brg es v) (hT : StV es (es.getD v EdgeV.zero).a (es.getD v EdgeV.zero).b T) : (v : Int) ∈ nI T.way := by
  have e0 : es.getD v EdgeV.zero = es[v] := by simp [List.getD, hv]
  have hw : Way es (es.getD v EdgeV.zero).a [v] (es.getD v EdgeV.zero).b (es.getD v EdgeV.zero).l := .one ⟨hv, .inl ⟨by rw [e0], by rw [e0]⟩, by rw [e0]⟩
  rcases hT with hB | ⟨hB, -⟩
  · by_cases hm : v ∈ T.way
    · exact List.mem_map.2 ⟨v, hm, rfl⟩
    · obtain ⟨qs, hq⟩ := hB.1.erase hm
      exact absurd ⟨qs, _, hq⟩ h
  · exact absurd ⟨_, _, hw⟩ hB
theorem Brg.apart {N : Nat} {es : List EdgeV} {v a b : Nat} {ps : List Int} (ha : (es.getD v EdgeV.zero).a = (a : Int)) (hb : (es.getD v EdgeV.zero).b = (b : Int)) (haN : a < N) (hbN : b < N)
    (hP : ∀ j : Nat, (j : Int) < (N : Int) → Prt (N : Int) (es.eraseIdx v) (j : Int) (ps.getD j 0)) : Brg es v ↔ ps.getD a 0 ≠ ps.getD b 0 := by
  obtain ⟨xs, h1, h2⟩ := hP a (by omega)
  obtain ⟨ys, g1, g2⟩ := hP b (by omega)
  have e := prt_iff h1 g1 (by omega) (by omega)
  rw [← h2, ← g2, h1.2] at e
  unfold Brg
  rw [ha, hb, Ne, ← e]
  exact ⟨fun h g => h g.2, fun h g => h ⟨by omega, g⟩⟩

set_option maxHeartbeats 800000 in
theorem cSameInts (a1 a2 : Option Addr) (c1 c2 : Nat) (xs : List Int) (w : World) (h1 : Ints w a1 xs) (h2 : Ints w a2 xs) (hl : xs.length ≤ 1048576) :
    Calls Try.prog 20 #[.slice a1 xs.length c1, .slice a2 xs.length c2] w fun e w' => e = .returned (.bool true) ∧ Below w.heap.size w w' := by
  go_enter Try.func20, Try.ntmps20
  go_wp2
  go_loopw [5] (fun i wr => ∃ k : Nat, k ≤ xs.length ∧ i = .int .i64 k ∧ Below w.heap.size w wr) (fun i _ => xs.length - (intOf i).toNat)
  case atStart => exact ⟨0, Nat.zero_le _, rfl, Below.refl _ _⟩
  case round =>
    obtain ⟨k, hk, rfl, hb⟩ := hrel
    by_cases hlt : k < xs.length
    · rcases h1 with h | ⟨b1, o1, rfl, q1⟩
      · simp [h] at hlt
      rcases h2 with h | ⟨b2, o2, rfl, q2⟩
      · simp [h] at hlt
      have p1 := ble hb (q1 k hlt)
      have p2 := ble hb (q2 k hlt)
      clear q1 q2
      generalize xs.getD k 0 = y at *
      go_wp2
      go_quiet (fail)
      go_wp2
      go_roundw
      case rel => exact ⟨k + 1, by omega, by go_num, bdraw hb _⟩
      case measure => simp [intOf]; omega
    · obtain rfl : k = xs.length := by omega
      clear h1 h2
      go_wp2
      go_ret
      exact ⟨rfl, hb⟩
end Go.Proofs.Ytdjambejppanoaa
