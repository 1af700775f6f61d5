/- Is a day among the days of a list; does a pattern run on a day: both texts compute one function. -/
import Derived.Test.YtmchdclieejohaaG
namespace Go.Proofs.Ytmchdclieejohaa
open Go.RowKit

def hasB (zs : List Int) (x : Int) : Bool := zs.contains x
def hasTo (zs : List Int) (x : Int) (k : Nat) : Bool := (zs.take k).contains x
theorem has_hit {zs : List Int} {x : Int} {k : Nat} (hk : k < zs.length) (h : (zs[k] == x) = true) : hasB zs x = true := by
  simp only [hasB, List.contains_iff_mem]
  rw [← beq_iff_eq.1 h]
  exact List.getElem_mem hk
theorem has_step {zs : List Int} {x : Int} {k : Nat} (hk : k < zs.length) (h0 : hasTo zs x k = false) (h : (zs[k] == x) = false) : hasTo zs x (k + 1) = false := by
  simp only [hasTo] at h0 ⊢
  rw [List.take_succ_eq_append_getElem hk]
  simp only [beq_eq_false_iff_ne, ne_eq] at h
  simp only [List.contains_eq_mem, List.mem_append, List.mem_singleton, decide_eq_false_iff_not] at h0 ⊢
  intro hh
  rcases hh with hh | hh
  · exact h0 hh
  · exact h hh.symm
theorem has_end {zs : List Int} {x : Int} (h : hasTo zs x zs.length = false) : hasB zs x = false := by simpa [hasTo, hasB] using h

set_option maxHeartbeats 800000 in
theorem c47 (a : Option Addr) (cap : Nat) (zs : List Int) (x : Int) (w : World) (hz : Ints w a zs) (hl : zs.length ≤ 1048576) :
    Calls Try.prog 47 #[.slice a zs.length cap, .int .i64 x] w fun e w' => e = .returned (.bool (hasB zs x)) ∧ w' = w := by
  go_enter Try.func47, Try.ntmps47
  go_wp2
  go_loop [5] (fun i => ∃ k : Nat, k ≤ zs.length ∧ hasTo zs x k = false ∧ i = .int .i64 k) (fun i => zs.length - (intOf i).toNat)
  case atStart => exact ⟨0, Nat.zero_le _, rfl, rfl⟩
  case round =>
    obtain ⟨k, hk, hn, rfl⟩ := hrel
    by_cases hlt : k < zs.length
    · rcases hz with hz | ⟨b, off, rfl, hc⟩
      · simp [hz] at hlt
      have hck : w.cell? ⟨b, off + k, none⟩ = some (.int .i64 zs[k]) := (hc k hlt).trans (by simp [List.getD, hlt])
      cases hx : zs[k] == x
      · have R := hide (has_step hlt hn hx)
        clear hc
        go_wp2
        go_round
        case rel => exact ⟨k + 1, by omega, R.out, by go_num⟩
        case measure => simp [intOf]; omega
      · have R := hide (has_hit hlt hx)
        clear hc
        go_wp2
        go_ret
        exact ⟨ret_bool R.out.symm, rfl⟩
    · obtain rfl : k = zs.length := by omega
      have R := hide (has_end hn)
      clear hz
      go_wp2
      go_ret
      exact ⟨ret_bool R.out.symm, rfl⟩

set_option maxHeartbeats 800000 in
theorem c61 (a : Option Addr) (cap : Nat) (zs : List Int) (x : Int) (w : World) (hz : Ints w a zs) (hl : zs.length ≤ 1048576) :
    Calls Try.prog 61 #[.slice a zs.length cap, .int .i64 x] w fun e w' => ∃ r : Int, e = .returned (.int .i64 r) ∧ decide (0 ≤ r) = hasB zs x ∧ w' = w := by
  go_enter Try.func61, Try.ntmps61
  go_wp2
  go_loop [5, 8] (fun _ i => ∃ k : Nat, k ≤ zs.length ∧ hasTo zs x k = false ∧ i = .int .i64 k) (fun _ i => zs.length - (intOf i).toNat)
  case atStart => exact ⟨0, Nat.zero_le _, rfl, rfl⟩
  case round =>
    obtain ⟨k, hk, hn, rfl⟩ := hrel
    by_cases hlt : k < zs.length
    · rcases hz with hz | ⟨b, off, rfl, hc⟩
      · simp [hz] at hlt
      have hck : w.cell? ⟨b, off + k, none⟩ = some (.int .i64 zs[k]) := (hc k hlt).trans (by simp [List.getD, hlt])
      cases hx : zs[k] == x
      · have R := hide (has_step hlt hn hx)
        have hx' : (x == zs[k]) = false := by rw [← hx]; exact Bool.beq_comm
        clear hc hx
        go_wp2
        go_round
        case rel => exact ⟨k + 1, by omega, R.out, by go_num⟩
        case measure => simp [intOf]; omega
      · have R := hide (has_hit hlt hx)
        have hx' : (x == zs[k]) = true := by rw [← hx]; exact Bool.beq_comm
        clear hc hx
        go_wp2
        go_ret
        exact ⟨_, rfl, by rw [R.out]; simp, rfl⟩
    · obtain rfl : k = zs.length := by omega
      have R := hide (has_end hn)
      clear hz
      go_wp2
      go_ret
      exact ⟨_, rfl, by rw [R.out]; simp, rfl⟩

set_option maxHeartbeats 800000 in
theorem c58 (a : Option Addr) (cap : Nat) (zs : List Int) (x : Int) (w : World) (hz : Ints w a zs) (hl : zs.length ≤ 1048576) :
    Calls Try.prog 58 #[.slice a zs.length cap, .int .i64 x] w fun e w' => e = .returned (.bool (hasB zs x)) ∧ w' = w := by
  go_enter Try.func58, Try.ntmps58
  go_wp2_with fail
  refine (c61 a cap zs x _ hz hl).mono ?_
  rintro e w1 ⟨r, rfl, hr, rfl⟩
  have R := hide hr
  clear hr
  go_wp2
  go_ret
  exact ⟨ret_bool R.out, rfl⟩

/-- Does a right pattern run on day d? -/
def onB (W F T : Int) (zs es : List Int) (d : Int) : Bool := inB d F T && (wkB W d && !hasB zs d || hasB es d)

theorem extra_wk {W F T : Int} {zs es : List Int} {d : Int} (h : patOk W F T zs es = true) (hd : hasB es d = true) : wkB W d = false := by
  simp only [patOk, Bool.and_eq_true] at h
  have h5 := h.2.2.2.2
  simp only [dOk, goodTo, Bool.and_eq_true, List.all_eq_true, List.mem_range] at h5
  simp only [hasB, List.contains_iff_mem] at hd
  obtain ⟨i, hi, e⟩ := List.mem_iff_getElem.1 hd
  have g := h5.2 i hi
  simp only [goodAt, Bool.and_eq_true, beq_iff_eq] at g
  have e0 : es.getD i 0 = d := by rw [← e]; simp [List.getD, hi]
  rw [e0] at g
  exact g.2.2

theorem on_wk {W F T : Int} {zs es : List Int} {d : Int} (h : patOk W F T zs es = true) (hin : inB d F T = true) (hw : wkB W d = true) : onB W F T zs es d = !hasB zs d := by
  cases he : hasB es d
  · simp only [onB, hin, hw, he, Bool.true_and, Bool.or_false]
  · rw [extra_wk h he] at hw; cases hw
theorem on_nwk {W F T : Int} {zs es : List Int} {d : Int} (hin : inB d F T = true) (hw : wkB W d = false) : onB W F T zs es d = hasB es d := by
  simp only [onB, hin, hw, Bool.true_and, Bool.false_and, Bool.false_or]
theorem on_out {W F T : Int} {zs es : List Int} {d : Int} (hin : inB d F T = false) : onB W F T zs es d = false := by
  simp only [onB, hin, Bool.false_and]

set_option maxHeartbeats 1600000 in
theorem c37 (a1 a2 : Option Addr) (p1 p2 : Nat) (zs es : List Int) (W F T d : Int) (w : World) (hz : Ints w a1 zs) (he : Ints w a2 es) (hl1 : zs.length ≤ 1048576) (hl2 : es.length ≤ 1048576) (hok : patOk W F T zs es = true) :
    Calls Try.prog 37 #[.agg #[.int .i64 W, .int .i64 F, .int .i64 T, .slice a1 zs.length p1, .slice a2 es.length p2], .int .i64 d] w fun e w' => e = .returned (.bool (onB W F T zs es d)) ∧ Below w.heap.size w w' := by
  cases hin : inB d F T
  · have R := hide (on_out (W := W) (zs := zs) (es := es) hin)
    rcases inB_false hin with g | ⟨g1, g2⟩
    · clear hin hz he hok
      go_enter Try.func37, Try.ntmps37
      go_wp2
      go_ret
      exact ⟨ret_bool R.out.symm, balloc _ _⟩
    · clear hin hz he hok
      go_enter Try.func37, Try.ntmps37
      go_wp2
      go_ret
      exact ⟨ret_bool R.out.symm, balloc _ _⟩
  · obtain ⟨g1, g2⟩ := inB_true hin
    cases hw : wkB W d
    · have R := hide (on_nwk (zs := zs) (es := es) hin hw)
      clear hin hok
      go_enter Try.func37, Try.ntmps37
      go_wp2_with (first | (go_at_call 36; refine (c36 _ _ _).mono ?_; rintro e w' ⟨rfl, rfl⟩) | (go_at_call 58; refine (c58 a2 p2 es d _ (he.below (balloc _ _)) hl2).mono ?_; rintro e w' ⟨rfl, rfl⟩))
      go_ret
      exact ⟨ret_bool R.out.symm, balloc _ _⟩
    · have R := hide (on_wk hok hin hw)
      clear hin hok
      go_enter Try.func37, Try.ntmps37
      go_wp2_with (first | (go_at_call 36; refine (c36 _ _ _).mono ?_; rintro e w' ⟨rfl, rfl⟩) | (go_at_call 58; refine (c58 a1 p1 zs d _ (hz.below (balloc _ _)) hl1).mono ?_; rintro e w' ⟨rfl, rfl⟩))
      go_ret
      exact ⟨ret_bool R.out.symm, balloc _ _⟩
end Go.Proofs.Ytmchdclieejohaa
