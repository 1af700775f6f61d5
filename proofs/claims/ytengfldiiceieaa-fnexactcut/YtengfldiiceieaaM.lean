/- Cut: the library's Grow and Concat at edges. -/
import Derived.Test.YtengfldiiceieaaL
import Derived.Lib.AppendZeros
namespace Go.Proofs.Ytengfldiiceieaa
open Go.RowKit

set_option maxRecDepth 100000 in
set_option maxHeartbeats 1600000 in
theorem c71 (n : Nat) (w : World) (hn : n ≤ 1048576) :
    Calls Try.prog 71 #[.slice none 0 0, .int .i64 n] w fun e w' => ∃ v, e = .returned v ∧ w'.ownsRow w.heap.size 41 4 v 0 [] ∧ Below w.heap.size w w' := by
  obtain ⟨i0, hi, hz0, hz1, hz2⟩ := info_parts info41
  by_cases h0 : n = 0
  · subst h0
    go_enter Try.func71, Try.ntmps71
    go_wp2
    go_ret
    exact ⟨_, rfl, World.ownsRow_nil _ _ _ _, Below.refl _ _⟩
  · have h0' : (0 : Int) < (n : Int) := by omega
    have hr : ∀ ty, Hid _ := fun ty => hide (Go.Lib.run_append_nil_zeros (P := Try.prog) w 24 3 ty 41 i0 (.agg #[.int .i64 0, .int .i64 0, .int .i64 0, .int .i64 0]) .i64 .i64 Try.underlying24 Try.underlying3 hi hz0 n (by omega) (by omega) (by omega) (by rw [hz2]; omega))
    go_enter Try.func71, Try.ntmps71
    go_wp2_with (at_builtin; refine Go.Lib.wpList_append_run _ rfl _ _ _ _ rfl _ _ rfl rfl _ _ (hr _).out ?_)
    go_ret
    have hcap : n ≤ grownCap w n 0 41 := grownCap_ge w n 0 41
    refine ⟨_, rfl, World.ownsRow_made w.drew _ (grownCap w n 0 41) (Nat.le_refl _) (grownCap_le_maxLen w n 0 41 (by unfold maxLen; omega)) ?_, btrans (Below.refl _ w).drew (balloc w.drew _)⟩
    rw [Array.size_append, size_zeroCells, size_zeroCells]
    simp
    omega

/-- Two slices of edges handed over as a row of slices. -/
theorem flat_take (es : List EdgeV) : ∀ q, flat (es.take q) = (flat es).take (q * 4) := by
  induction es with
  | nil => intro q; simp [flat]
  | cons e es ih =>
    intro q
    cases q with
    | zero => simp [flat]
    | succ q =>
      have e1 : (q + 1) * 4 = q * 4 + 1 + 1 + 1 + 1 := by omega
      rw [List.take_succ_cons, flat_cons, flat_cons, ih, e1]
      simp
theorem flat_drop (es : List EdgeV) : ∀ q, flat (es.drop q) = (flat es).drop (q * 4) := by
  induction es with
  | nil => intro q; simp [flat]
  | cons e es ih =>
    intro q
    cases q with
    | zero => simp
    | succ q =>
      have e1 : (q + 1) * 4 = q * 4 + 1 + 1 + 1 + 1 := by omega
      rw [List.drop_succ_cons, flat_cons, ih, e1]
      simp

/-- The cells of a slice of edges, one by one. -/
def FlatAt (w : World) (b off : Nat) (es : List EdgeV) : Prop := ∀ j u, (flat es)[j]? = some u → w.cell? ⟨b, off + j, none⟩ = some u
theorem flat_mem {es : List EdgeV} {u : Value} (h : u ∈ flat es) : ∃ x, u = .int .i64 x := by
  simp only [flat, List.mem_flatMap, EdgeV.vs, List.mem_cons, List.not_mem_nil, or_false] at h
  obtain ⟨e, _, h | h | h | h⟩ := h <;> exact ⟨_, h⟩
theorem FlatAt.of_edges {w : World} {b off : Nat} {es : List EdgeV} (h : ∀ i, i < es.length → w.cell? ⟨b, off + i * 4, none⟩ = some (.int .i64 (es.getD i EdgeV.zero).a) ∧
    w.cell? ⟨b, off + i * 4 + 1, none⟩ = some (.int .i64 (es.getD i EdgeV.zero).b) ∧ w.cell? ⟨b, off + i * 4 + 2, none⟩ = some (.int .i64 (es.getD i EdgeV.zero).l) ∧ w.cell? ⟨b, off + i * 4 + 3, none⟩ = some (.int .i64 (es.getD i EdgeV.zero).m)) : FlatAt w b off es := by
  intro j u hu
  have hj : j < (flat es).length := (List.getElem?_eq_some_iff.1 hu).1
  rw [flat_len] at hj
  have hi : j / 4 < es.length := by omega
  have f := flat_get es (j / 4) hi
  have g := h (j / 4) hi
  have h4 : j % 4 < 4 := Nat.mod_lt _ (by omega)
  have e : j = j / 4 * 4 + j % 4 := by omega
  generalize j % 4 = r at *
  generalize j / 4 = i at *
  subst e
  match r, h4 with
  | 0, _ => rw [Nat.add_zero] at hu ⊢; rw [f.1] at hu; rw [← hu]; exact g.1
  | 1, _ => rw [f.2.1] at hu; rw [← hu, ← Nat.add_assoc]; exact g.2.1
  | 2, _ => rw [f.2.2.1] at hu; rw [← hu, ← Nat.add_assoc]; exact g.2.2.1
  | 3, _ => rw [f.2.2.2] at hu; rw [← hu, ← Nat.add_assoc]; exact g.2.2.2
theorem FlatAt.below {w w1 : World} {b off : Nat} {es : List EdgeV} (h : FlatAt w b off es) (hb : Below w.heap.size w w1) : FlatAt w1 b off es := fun j u hu => ble hb (h j u hu)
theorem FlatAt.take {w : World} {b off : Nat} {es : List EdgeV} (h : FlatAt w b off es) (q : Nat) : FlatAt w b off (es.take q) := by
  intro j u hu
  rw [flat_take, List.getElem?_take] at hu
  split at hu
  · exact h j u hu
  · cases hu
theorem FlatAt.drop {w : World} {b off : Nat} {es : List EdgeV} (h : FlatAt w b off es) (q : Nat) : FlatAt w b (off + q * 4) (es.drop q) := by
  intro j u hu
  rw [flat_drop, List.getElem?_drop] at hu
  rw [Nat.add_assoc]
  exact h _ u hu
theorem add_off (b off j : Nat) : (⟨b, off, none⟩ : Addr).add j = ⟨b, off + j, none⟩ := by
  by_cases h : j = 0
  · subst h; simp [Addr.add]
  · simp [Addr.add, h]

/-- What Concat has put together behind k of two slices. -/
def pre (xs ys : List EdgeV) : Nat → List EdgeV
  | 0 => []
  | 1 => xs
  | _ => xs ++ ys

set_option maxRecDepth 100000 in
set_option maxHeartbeats 3200000 in
theorem c56 (g b1 o1 p1 b2 o2 p2 : Nat) (xs ys : List EdgeV) (w : World) (h1 : FlatAt w b1 o1 xs) (h2 : FlatAt w b2 o2 ys) (hl1 : xs.length ≤ 60) (hl2 : ys.length ≤ 60)
    (hg0 : w.cell? ⟨g, 0, none⟩ = some (.slice (some ⟨b1, o1, none⟩) xs.length p1)) (hg1 : w.cell? ⟨g, 1, none⟩ = some (.slice (some ⟨b2, o2, none⟩) ys.length p2)) :
    Calls Try.prog 56 #[.slice (some ⟨g, 0, none⟩) 2 2] w fun e w' => ∃ ao cp, e = .returned (.slice ao (xs ++ ys).length cp) ∧ w'.ownsRow w.heap.size 41 4 (.slice ao (xs ++ ys).length cp) (xs ++ ys).length (flat (xs ++ ys)) ∧ Below w.heap.size w w' := by
  obtain ⟨i0, hi, hz0, hz1, hz2⟩ := info_parts info41
  go_enter Try.func56, Try.ntmps56
  go_wp2
  go_loop [3, 5, 11] (fun s _ i => ∃ k : Nat, k ≤ 2 ∧ i = .int .i64 k ∧ s = .int .i64 (pre xs ys k).length) (fun _ _ i => 2 - (intOf i).toNat)
  case atStart => exact ⟨0, by omega, rfl, rfl⟩
  case round =>
    obtain ⟨k, hk, rfl, rfl⟩ := hrel
    have hk' : k = 0 ∨ k = 1 ∨ k = 2 := by omega
    rcases hk' with rfl | rfl | rfl
    · have e0 : (pre xs ys 0).length = 0 := rfl
      rw [e0]
      go_wp2
      go_round
      case rel => exact ⟨1, by omega, rfl, by simp [pre]⟩
      case measure => simp [intOf]
    · have e1 : (pre xs ys 1).length = xs.length := rfl
      rw [e1]
      go_wp2
      go_round
      case rel => exact ⟨2, by omega, rfl, by simp [pre]⟩
      case measure => simp [intOf]
    · have e1 : (pre xs ys 2).length = xs.length + ys.length := by simp [pre]
      rw [e1]
      go_wp2_with fail
      rw [← Int.natCast_add]
      refine (c71 (xs.length + ys.length) w (by omega)).mono ?_
      rintro e w1 ⟨v, rfl, hown0, hb0⟩
      clear e1
      go_wp2
      go_loopw [6, 8, 27] (fun v _ i wr => ∃ k : Nat, k ≤ 2 ∧ i = .int .i64 k ∧ wr.ownsRow w.heap.size 41 4 v (pre xs ys k).length (flat (pre xs ys k)) ∧ Below w.heap.size w wr) (fun _ _ i _ => 2 - (intOf i).toNat)
      case atStart => exact ⟨0, by omega, rfl, hown0, hb0⟩
      case round =>
        obtain ⟨k, hk, rfl, hown, hb⟩ := hrel
        have G1 := h1.below hb
        have G2 := h2.below hb
        have g0 := ble hb hg0
        have g1 := ble hb hg1
        have hk' : k = 0 ∨ k = 1 ∨ k = 2 := by omega
        rcases hk' with rfl | rfl | rfl
        · have e1 : (pre xs ys 0).length = 0 := rfl
          go_wp2_with (at_builtin; refine wpList_append_own _ rfl _ _ _ rfl w.heap.size 41 i0 (.agg #[.int .i64 0, .int .i64 0, .int .i64 0, .int .i64 0]) 4 32 Try.underlying24 hi hz0 hz1 hz2 rfl (by decide) u6 (pre xs ys 0).length (flat (pre xs ys 0)) rfl hown ⟨b1, o1, none⟩ xs.length p1 (flat xs) rfl (flat_len _) (by intro j u hj; rw [add_off]; exact G1 j u hj) (by intro u hu; obtain ⟨x, rfl⟩ := flat_mem hu; rfl) (by rw [e1]; unfold maxLen; omega) (by rw [e1]; omega) hb.size ?_; intro v' w' hown' hgrow hiff)
          have hb' : Below w.heap.size w w' := hb.grown hgrow hb.size (own_ge hown)
          clear hgrow hiff hown
          go_roundw
          case rel => exact ⟨1, by omega, rfl, by simpa [pre, flat] using hown', hb'⟩
          case measure => simp [intOf]
        · have e1 : (pre xs ys 1).length = xs.length := rfl
          go_wp2_with (at_builtin; refine wpList_append_own _ rfl _ _ _ rfl w.heap.size 41 i0 (.agg #[.int .i64 0, .int .i64 0, .int .i64 0, .int .i64 0]) 4 32 Try.underlying24 hi hz0 hz1 hz2 rfl (by decide) u6 (pre xs ys 1).length (flat (pre xs ys 1)) rfl hown ⟨b2, o2, none⟩ ys.length p2 (flat ys) rfl (flat_len _) (by intro j u hj; rw [add_off]; exact G2 j u hj) (by intro u hu; obtain ⟨x, rfl⟩ := flat_mem hu; rfl) (by rw [e1]; unfold maxLen; omega) (by rw [e1]; omega) hb.size ?_; intro v' w' hown' hgrow hiff)
          have hb' : Below w.heap.size w w' := hb.grown hgrow hb.size (own_ge hown)
          clear hgrow hiff hown
          go_roundw
          case rel => exact ⟨2, by omega, rfl, by simpa [pre, flat_app] using hown', hb'⟩
          case measure => simp [intOf]
        · have hv : ∃ ao cp, u6 = .slice ao (xs ++ ys).length cp := by
            rcases hown.2 with ⟨h, h0⟩ | ⟨g', cap, cur, h, _⟩
            · have h0' : (xs ++ ys).length = 0 := h0
              exact ⟨none, 0, by rw [h0']; exact h⟩
            · exact ⟨_, cap, h⟩
          obtain ⟨ao, cp, rfl⟩ := hv
          go_wp2
          go_ret
          exact ⟨ao, cp, rfl, hown, hb⟩
end Go.Proofs.Ytengfldiiceieaa
