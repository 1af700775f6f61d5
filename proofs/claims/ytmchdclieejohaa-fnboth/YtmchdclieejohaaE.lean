/- Both texts of PatternOk compute one function of the pattern. -/
import Derived.Test.YtmchdclieejohaaD
namespace Go.Proofs.Ytmchdclieejohaa
open Go.RowKit

/-- What PatternOk answers. -/
def patOk (W F T : Int) (zs es : List Int) : Bool := inB W 0 127 && (inB T 0 3650 && (inB F 0 T && (dOk W F T true zs && dOk W F T false es)))

/-- The five cells of a boxed pattern. -/
theorem box_cells {w w1 : World} {c0 c1 c2 c3 c4 : Value} {t : TypeId} (h : Below (w.alloc (.cells #[c0, c1, c2, c3, c4] t)).heap.size (w.alloc (.cells #[c0, c1, c2, c3, c4] t)) w1) :
    w1.cell? ⟨w.heap.size, 0, none⟩ = some c0 ∧ w1.cell? ⟨w.heap.size, 1, none⟩ = some c1 ∧ w1.cell? ⟨w.heap.size, 2, none⟩ = some c2 ∧ w1.cell? ⟨w.heap.size, 3, none⟩ = some c3 ∧ w1.cell? ⟨w.heap.size, 4, none⟩ = some c4 := by
  have hs : w.heap.size < (w.alloc (.cells #[c0, c1, c2, c3, c4] t)).heap.size := by simp
  exact ⟨(h.cell (p := ⟨w.heap.size, 0, none⟩) hs).trans (by simp), (h.cell (p := ⟨w.heap.size, 1, none⟩) hs).trans (by simp), (h.cell (p := ⟨w.heap.size, 2, none⟩) hs).trans (by simp), (h.cell (p := ⟨w.heap.size, 3, none⟩) hs).trans (by simp), (h.cell (p := ⟨w.heap.size, 4, none⟩) hs).trans (by simp)⟩

theorem balloc (w : World) (o : Obj) : Below w.heap.size w (w.alloc o) := (Below.refl _ _).alloc (Nat.le_refl _) _
theorem btrans {w w1 w2 : World} (h1 : Below w.heap.size w w1) (h2 : Below w1.heap.size w1 w2) : Below w.heap.size w w2 := h1.trans (h2.mono h1.size)

set_option maxHeartbeats 1600000 in
theorem c25 (a1 a2 : Option Addr) (p1 p2 : Nat) (zs es : List Int) (W F T : Int) (w : World) (hz : Ints w a1 zs) (he : Ints w a2 es) (hl1 : zs.length ≤ 1048576) (hl2 : es.length ≤ 1048576) :
    Calls Try.prog 25 #[.agg #[.int .i64 W, .int .i64 F, .int .i64 T, .slice a1 zs.length p1, .slice a2 es.length p2]] w fun e w' => e = .returned (.bool (patOk W F T zs es)) ∧ Below w.heap.size w w' := by
  cases h1 : inB W 0 127
  · have R := hide (show patOk W F T zs es = false by simp only [patOk, h1, Bool.false_and])
    go_enter Try.func25, Try.ntmps25
    go_wp2_with (go_at_call 46; refine (c46 _ _ _ _).mono ?_; rintro e w' ⟨rfl, rfl⟩)
    go_ret
    exact ⟨ret_bool R.out.symm, balloc _ _⟩
  cases h2 : inB T 0 3650
  · have R := hide (show patOk W F T zs es = false by simp only [patOk, h2, Bool.false_and, Bool.and_false])
    go_enter Try.func25, Try.ntmps25
    go_wp2_with (go_at_call 46; refine (c46 _ _ _ _).mono ?_; rintro e w' ⟨rfl, rfl⟩)
    go_ret
    exact ⟨ret_bool R.out.symm, balloc _ _⟩
  cases h3 : inB F 0 T
  · have R := hide (show patOk W F T zs es = false by simp only [patOk, h3, Bool.false_and, Bool.and_false])
    go_enter Try.func25, Try.ntmps25
    go_wp2_with (go_at_call 46; refine (c46 _ _ _ _).mono ?_; rintro e w' ⟨rfl, rfl⟩)
    go_ret
    exact ⟨ret_bool R.out.symm, balloc _ _⟩
  cases h4 : dOk W F T true zs
  · have R := hide (show patOk W F T zs es = false by simp only [patOk, h4, Bool.false_and, Bool.and_false])
    go_enter Try.func25, Try.ntmps25
    go_wp2_with (go_at_call 46; refine (c46 _ _ _ _).mono ?_; rintro e w' ⟨rfl, rfl⟩)
    refine (c49 a1 p1 zs W F T _ _ true _ (hz.below (balloc _ _)) hl1).mono ?_
    rintro e w1 ⟨rfl, hb⟩
    go_wp2
    go_ret
    exact ⟨ret_bool R.out.symm, btrans (balloc _ _) hb⟩
  · have R := hide (show patOk W F T zs es = dOk W F T false es by simp only [patOk, h1, h2, h3, h4, Bool.true_and])
    go_enter Try.func25, Try.ntmps25
    go_wp2_with (go_at_call 46; refine (c46 _ _ _ _).mono ?_; rintro e w' ⟨rfl, rfl⟩)
    refine (c49 a1 p1 zs W F T _ _ true _ (hz.below (balloc _ _)) hl1).mono ?_
    rintro e w1 ⟨rfl, hb⟩
    obtain ⟨b0, b1, b2, b3, b4⟩ := box_cells hb
    have he1 := he.below (btrans (balloc _ _) hb)
    have HB := btrans (balloc _ _) hb
    clear hb
    go_wp2_with fail
    refine (c49 a2 p2 es W F T _ _ false _ he1 hl2).mono ?_
    rintro e w2 ⟨rfl, hb2⟩
    go_wp2
    go_ret
    exact ⟨ret_bool (by rw [R.out]), btrans HB hb2⟩

set_option maxHeartbeats 1600000 in
theorem c21 (a1 a2 : Option Addr) (p1 p2 : Nat) (zs es : List Int) (W F T : Int) (w : World) (hz : Ints w a1 zs) (he : Ints w a2 es) (hl1 : zs.length ≤ 1048576) (hl2 : es.length ≤ 1048576) :
    Calls Try.prog 21 #[.agg #[.int .i64 W, .int .i64 F, .int .i64 T, .slice a1 zs.length p1, .slice a2 es.length p2]] w fun e w' => e = .returned (.bool (patOk W F T zs es)) ∧ Below w.heap.size w w' := by
  by_cases hr : (0 ≤ W ∧ W ≤ 127) ∧ (0 ≤ F ∧ F ≤ T ∧ T ≤ 3650)
  · obtain ⟨⟨r1, r2⟩, r3, r4, r5⟩ := hr
    have h1 : inB W 0 127 = true := by simp [inB]; omega
    have h2 : inB T 0 3650 = true := by simp [inB]; omega
    have h3 : inB F 0 T = true := by simp [inB]; omega
    cases h4 : dOk W F T true zs
    · have R := hide (show patOk W F T zs es = false by simp only [patOk, h4, Bool.false_and, Bool.and_false])
      clear h1 h2 h3
      go_enter Try.func21, Try.ntmps21
      go_wp2_with fail
      refine (c45 a1 p1 zs W F T _ _ true _ (hz.below (balloc _ _)) hl1).mono ?_
      rintro e w1 ⟨rfl, hb⟩
      go_wp2
      go_ret
      exact ⟨ret_bool R.out.symm, btrans (balloc _ _) hb⟩
    · have R := hide (show patOk W F T zs es = dOk W F T false es by simp only [patOk, h1, h2, h3, h4, Bool.true_and])
      clear h1 h2 h3
      go_enter Try.func21, Try.ntmps21
      go_wp2_with fail
      refine (c45 a1 p1 zs W F T _ _ true _ (hz.below (balloc _ _)) hl1).mono ?_
      rintro e w1 ⟨rfl, hb⟩
      obtain ⟨b0, b1, b2, b3, b4⟩ := box_cells hb
      have he1 := he.below (btrans (balloc _ _) hb)
      have HB := btrans (balloc _ _) hb
      clear hb
      go_wp2_with fail
      refine (c45 a2 p2 es W F T _ _ false _ he1 hl2).mono ?_
      rintro e w2 ⟨rfl, hb2⟩
      go_wp2
      go_ret
      exact ⟨ret_bool (by rw [R.out]), btrans HB hb2⟩
  · have R := hide (show patOk W F T zs es = false by
      cases hp : patOk W F T zs es
      · rfl
      · exfalso; simp [patOk, inB] at hp; omega)
    clear hz he
    go_enter Try.func21, Try.ntmps21
    go_wp2_with fail
    all_goals first | (exfalso; omega) | (go_ret; exact ⟨ret_bool R.out.symm, balloc _ _⟩)
end Go.Proofs.Ytmchdclieejohaa
