/- within of the laws; the parts of a net. -/
import Derived.Test.YtdjambejppanoaaPI
import Derived.Test.YtdjambejppanoaaBM
namespace Go.Proofs.Ytdjambejppanoaa
open Go.RowKit
theorem has_drop {zs : List Int} {x : Int} {k : Nat} (hk : k < zs.length) : decide (x ∈ zs.drop k) = (decide (zs[k] = x) || decide (x ∈ zs.drop (k + 1))) := by
  have e : zs.drop k = zs[k] :: zs.drop (k + 1) := List.drop_eq_getElem_cons hk
  rw [e, Bool.eq_iff_iff]
  simp only [decide_eq_true_eq, Bool.or_eq_true, List.mem_cons]
  exact ⟨fun h => h.elim (fun h => .inl h.symm) .inr, fun h => h.elim (fun h => .inl h.symm) .inr⟩

set_option maxHeartbeats 800000 in
theorem cWithinL (a : Option Addr) (cap : Nat) (zs : List Int) (x : Int) (w : World) (hz : Ints w a zs) (hl : zs.length ≤ 1048576) :
    Calls Try.prog 14 #[.slice a zs.length cap, .int .i64 x] w fun e w' => e = .returned (.bool (decide (x ∈ zs))) ∧ w' = w := by
  generalize hr : decide (x ∈ zs) = res
  have hr0 : Hid (decide (x ∈ zs.drop 0) = res) := hr
  clear hr
  go_enter Try.func14, Try.ntmps14
  go_wp2
  go_loop [5] (fun i => ∃ k : Nat, k ≤ zs.length ∧ i = .int .i64 k ∧ Hid (decide (x ∈ zs.drop k) = res)) (fun i => zs.length - (intOf i).toNat)
  case atStart => exact ⟨0, Nat.zero_le _, rfl, hr0⟩
  case round =>
    obtain ⟨k, hk, rfl, hres⟩ := hrel
    clear hr0
    by_cases hlt : k < zs.length
    · rcases hz with h | ⟨b, off, rfl, hc⟩
      · simp [h] at hlt
      have q0 := hc k hlt
      have e0 : zs.getD k 0 = zs[k] := by simp [List.getD, hlt]
      rw [e0] at q0
      have hd := hide ((has_drop (x := x) hlt).symm.trans hres.out)
      generalize zs[k] = y at *
      clear hc e0 hres
      by_cases hy : y = x
      · have hf := hide (show res = true by rw [← hd.out]; simp [hy])
        clear hd
        subst hy
        go_wp2
        go_ret
        exact ⟨ret_bool hf.out.symm, rfl⟩
      · have hf := hide (show decide (x ∈ zs.drop (k + 1)) = res by rw [← hd.out]; simp [hy])
        clear hd
        go_wp2
        go_round
        case rel => exact ⟨k + 1, by omega, by go_num, hf⟩
        case measure => simp [intOf]; omega
    · obtain rfl : k = zs.length := by omega
      have hf := hide (show res = false by rw [← hres.out, List.drop_length]; simp)
      clear hz
      go_wp2
      go_ret
      exact ⟨ret_bool hf.out.symm, rfl⟩

theorem prt_iff {N x y : Int} {es : List EdgeV} {xs ys : List Int} (h : IsRch N es x xs) (g : IsRch N es y ys) (hx : 0 ≤ x ∧ x < N) (hy : 0 ≤ y ∧ y < N) : y ∈ xs ↔ xs.getD 0 0 = ys.getD 0 0 := by
  constructor
  · intro hm
    obtain ⟨-, ps, L, hw⟩ := (h.2 y).1 hm
    have e : xs = ys := sorted_one xs ys h.1 g.1 (fun v => by
      rw [h.2 v, g.2 v]
      constructor
      · rintro ⟨hv, qs, M, hq⟩; exact ⟨hv, _, _, hw.flip.app hq⟩
      · rintro ⟨hv, qs, M, hq⟩; exact ⟨hv, _, _, hw.app hq⟩)
    rw [e]
  · intro e
    have p1 := h.pos hx
    have p2 := g.pos hy
    have m1 : xs.getD 0 0 ∈ xs := by simp [List.getD, p1]
    have m2 : ys.getD 0 0 ∈ ys := by simp [List.getD, p2]
    rw [← e] at m2
    obtain ⟨-, ps, L, hw⟩ := (h.2 _).1 m1
    obtain ⟨-, qs, M, hq⟩ := (g.2 _).1 m2
    exact (h.2 y).2 ⟨hy, _, _, hw.app hq.flip⟩
end Go.Proofs.Ytdjambejppanoaa
