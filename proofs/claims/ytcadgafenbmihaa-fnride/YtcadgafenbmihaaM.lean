/- Slices of floats: copied, compared, looked through. -/
import Derived.Test.YtcadgafenbmihaaK
namespace Go.Proofs.Ytcadgafenbmihaa
open Go.RowKit Fl

attribute [local go_sem] run_store_float

theorem lt_of_block {w : World} {b : Nat} {o : Obj} (h : w.heap[b]? = some o) : b < w.heap.size := by
  by_cases hx : b < w.heap.size
  · exact hx
  · rw [Array.getElem?_eq_none (Nat.le_of_not_lt hx)] at h; cases h
theorem all_bad {α : Type} {P : α → Bool} {zs : List α} {k : Nat} (hk : k < zs.length) (h : P zs[k] = false) : zs.all P = false := by
  cases hq : zs.all P
  · rfl
  · rw [List.all_eq_true] at hq
    rw [hq _ (List.getElem_mem hk)] at h; cases h
theorem all_step {α : Type} {P : α → Bool} {zs : List α} {k : Nat} (hk : k < zs.length) (h : (zs.take k).all P = true) (g : P zs[k] = true) : (zs.take (k + 1)).all P = true := by
  rw [List.take_succ_eq_append_getElem hk, List.all_append, h]
  simp [g]
/-- The cells behind a slice's address hold the floats zs. -/
def Flts (w : World) (a : Option Addr) (zs : List Nat) : Prop :=
  zs = [] ∨ ∃ b off, a = some ⟨b, off, none⟩ ∧ ∀ i, i < zs.length → w.cell? ⟨b, off + i, none⟩ = some (.float .f64 (zs.getD i 0))

theorem Flts.below {w w' : World} {a : Option Addr} {zs : List Nat} (h : Flts w a zs) (hb : Below w.heap.size w w') : Flts w' a zs := by
  rcases h with h | ⟨b, off, ha, hc⟩
  · exact .inl h
  · exact .inr ⟨b, off, ha, fun i hi => (hb.cell (cell_lt (hc i hi))).trans (hc i hi)⟩

theorem Flts.of_owns {w : World} {base g n cap : Nat} {zs : List Nat} (h : w.ownsRow base 22 1 (.slice (some ⟨g, 0, none⟩) n cap) n (zs.map (Value.float .f64))) : Flts w (some ⟨g, 0, none⟩) zs := by
  refine .inr ⟨g, 0, rfl, fun i hi => ?_⟩
  have hl := h.1
  simp at hl
  rw [Nat.zero_add, h.cellAt i (by omega)]
  simp [hi]

theorem info22 : (Try.prog.info? 22).map (fun i => (i.zero, i.size, i.bytes)) = some (some (.float .f64 0), 1, 8) := by kernel_rfl

theorem take_set_step (zs : List Nat) (k : Nat) (hk : k < zs.length) :
    (((zs.take k).map (Value.float .f64)) ++ List.replicate (zs.length - k) (Value.float .f64 0)).set k (.float .f64 (zs.getD k 0)) =
      ((zs.take (k + 1)).map (Value.float .f64)) ++ List.replicate (zs.length - (k + 1)) (Value.float .f64 0) := by
  have e1 : zs.length - k = (zs.length - (k + 1)) + 1 := by omega
  rw [List.set_append_right _ _ (by simp; omega), e1, List.replicate_succ]
  have e2 : k - ((zs.take k).map (Value.float .f64)).length = 0 := by simp; omega
  rw [e2, List.set_cons_zero, List.take_succ_eq_append_getElem hk, List.map_append]
  simp [List.getD, hk]

set_option maxHeartbeats 800000 in
theorem c38 (a : Option Addr) (cap : Nat) (zs : List Nat) (w : World) (hz : Flts w a zs) (hl : zs.length ≤ 1048576) :
    Calls Try.prog 38 #[.slice a zs.length cap] w fun e w' => ∃ g, e = .returned (.slice (some ⟨g, 0, none⟩) zs.length zs.length) ∧
      w'.ownsRow w.heap.size 22 1 (.slice (some ⟨g, 0, none⟩) zs.length zs.length) zs.length (zs.map (Value.float .f64)) ∧ g = w.heap.size ∧ Below w.heap.size w w' := by
  obtain ⟨i0, hi, hz0, hz1, hz2⟩ := info_parts info22
  go_enter Try.func38, Try.ntmps38
  go_wp2_with (at_make; refine wpList_make_full _ rfl _ _ 52 rfl w.heap.size 22 i0 (.float .f64 0) 1 Try.underlying52 hi hz0 hz1 _ _ _ _ zs.length rfl rfl rfl rfl (by rw [hz2]; omega) (by unfold maxLen; omega) (Nat.le_refl _) ?_; intro w1 hown hgrow)
  have hown' : w1.ownsRow w.heap.size 22 1 (.slice (some ⟨w.heap.size, 0, none⟩) zs.length zs.length) zs.length (((zs.take 0).map (Value.float .f64)) ++ List.replicate (zs.length - 0) (Value.float .f64 0)) := by
    simpa [toList_madeCells_one, Value.cells] using hown
  have hbel : Below w.heap.size w w1 := (Below.refl _ _).grown hgrow (Nat.le_refl _) (fun k hk => by cases hk)
  clear hown hgrow
  go_loopw [4] (fun i wr => ∃ k : Nat, k ≤ zs.length ∧ i = .int .i64 k ∧ wr.ownsRow w.heap.size 22 1 (.slice (some ⟨w.heap.size, 0, none⟩) zs.length zs.length) zs.length (((zs.take k).map (Value.float .f64)) ++ List.replicate (zs.length - k) (Value.float .f64 0)) ∧ Below w.heap.size w wr) (fun i _ => zs.length - (intOf i).toNat)
  case atStart => exact ⟨0, Nat.zero_le _, rfl, hown', hbel⟩
  case round =>
    obtain ⟨k, hk, rfl, hown, hb⟩ := hrel
    by_cases hlt : k < zs.length
    · have hfr := hown.frozenAt k
      have hcw : wr.cell? ⟨w.heap.size, k, none⟩ = some (.float .f64 0) := by
        rw [hown.cellAt k (by omega), List.getElem?_append_right (by simp; omega)]
        simp [List.getElem?_replicate]
        omega
      obtain ⟨hown2, _⟩ := hown.stored k (.float .f64 zs[k])
      have e0 : zs.getD k 0 = zs[k] := by simp [List.getD, hlt]
      rw [← e0, take_set_step zs k hlt, e0] at hown2
      have hb2 : Below w.heap.size w (wr.setCell ⟨w.heap.size, k, none⟩ (.float .f64 zs[k])) := hb.setCell (Nat.le_refl _) _
      rcases hz with hz | ⟨b, off, rfl, hc⟩
      · simp [hz] at hlt
      · have hck : wr.cell? ⟨b, off + k, none⟩ = some (.float .f64 zs[k]) := ((hb.cell (cell_lt (hc k hlt))).trans (hc k hlt)).trans (by rw [e0])
        clear hown hown' hbel e0 hc
        go_wp2
        go_roundw
        case rel => exact ⟨k + 1, by omega, by go_num, hown2, hb2⟩
        case measure => simp [intOf]; omega
    · have hkk : k = zs.length := by omega
      subst hkk
      have hown2 : wr.ownsRow w.heap.size 22 1 (.slice (some ⟨w.heap.size, 0, none⟩) zs.length zs.length) zs.length (zs.map (Value.float .f64)) := by simpa using hown
      clear hown hown' hbel hz
      go_wp2
      go_ret
      exact ⟨_, rfl, hown2, rfl, hb⟩

set_option maxHeartbeats 800000 in
theorem c40 (a1 a2 : Option Addr) (c1 c2 : Nat) (xs : List Nat) (w : World) (h1 : Flts w a1 xs) (h2 : Flts w a2 xs) (hl1 : xs.length ≤ maxLen) :
    Calls Try.prog 40 #[.slice a1 xs.length c1, .slice a2 xs.length c2] w fun e w' => e = .returned (.bool true) ∧ Below w.heap.size w w' := by
  unfold maxLen at hl1
  go_enter Try.func40, Try.ntmps40
  go_wp2
  go_loopw [5] (fun i wr => ∃ k : Nat, k ≤ xs.length ∧ i = .int .i64 k ∧ Below w.heap.size w wr) (fun i _ => xs.length - (intOf i).toNat)
  case atStart => exact ⟨0, Nat.zero_le _, rfl, Below.refl _ _⟩
  case round =>
    obtain ⟨k, hk, rfl, hb⟩ := hrel
    by_cases hlt : k < xs.length
    · rcases h1 with h1 | ⟨b1, o1, rfl, hc1⟩
      · simp [h1] at hlt
      rcases h2 with h2 | ⟨b2, o2, rfl, hc2⟩
      · simp [h2] at hlt
      have hk1 := ble hb (hc1 k hlt)
      have hk2 := ble hb (hc2 k hlt)
      clear hc1 hc2
      generalize xs.getD k 0 = z at *
      go_wp2
      go_quiet ((go_at_call 25; exact Calls.quiet_of_same (c25 _ _)))
      go_wp2
      go_roundw
      case rel => exact ⟨k + 1, by omega, by go_num, bdraw hb _⟩
      case measure => simp [intOf]; omega
    · go_wp2
      go_ret
      exact ⟨rfl, hb⟩

set_option maxHeartbeats 800000 in
theorem c62s (a : Option Addr) (cap : Nat) (zs : List Nat) (w : World) (hz : Flts w a zs) (hl : zs.length ≤ 1048576) :
    Calls Try.prog 62 #[.slice a zs.length cap, .func (.func 53) #[] #[]] w fun e w' => e = .returned (.bool (zs.all spd)) ∧ w' = w := by
  have TB : ∀ k (hk : k < zs.length), spd zs[k] = false → zs.all spd = false := fun k hk h => all_bad hk h
  have TA : (zs.take zs.length).all spd = true → zs.all spd = true := fun h => by rwa [List.take_length] at h
  have TS : ∀ k (hk : k < zs.length), (zs.take k).all spd = true → spd zs[k] = true → (zs.take (k + 1)).all spd = true := fun k hk h g => all_step hk h g
  generalize zs.all spd = r at *
  go_enter Try.func62, Try.ntmps62
  go_wp2
  go_loop [6, 9] (fun _ i => ∃ k : Nat, k ≤ zs.length ∧ (zs.take k).all spd = true ∧ i = .int .i64 k) (fun _ i => zs.length - (intOf i).toNat)
  case atStart => exact ⟨0, Nat.zero_le _, rfl, rfl⟩
  case round =>
    obtain ⟨k, hk, hgo, rfl⟩ := hrel
    by_cases hlt : k < zs.length
    · rcases hz with hz | ⟨b, off, rfl, hc⟩
      · simp [hz] at hlt
      have q0 := hc k hlt
      have e0 : zs.getD k 0 = zs[k] := by simp [List.getD, hlt]
      rw [e0] at q0
      clear e0 hc TA
      cases hs : spd zs[k]
      · have R := hide (TB k hlt hs)
        clear TB TS
        generalize zs[k] = z at *
        go_wp2_with fail
        refine (c53 _ _).mono ?_
        rintro e w1 ⟨rfl, hw⟩
        subst hw
        rw [hs]
        go_wp2
        go_ret
        exact ⟨ret_bool R.out.symm, rfl⟩
      · have hg2 := TS k hlt hgo hs
        clear TB TS
        generalize zs[k] = z at *
        go_wp2_with fail
        refine (c53 _ _).mono ?_
        rintro e w1 ⟨rfl, hw⟩
        subst hw
        rw [hs]
        go_wp2
        go_round
        case rel => exact ⟨k + 1, by omega, hg2, by go_num⟩
        case measure => simp [intOf]; omega
    · obtain rfl : k = zs.length := by omega
      have R := hide (TA hgo)
      clear TA TB TS hgo
      go_wp2
      go_ret
      exact ⟨ret_bool R.out.symm, rfl⟩

set_option maxHeartbeats 800000 in
theorem c62l (a : Option Addr) (cap : Nat) (zs : List Nat) (w : World) (hz : Flts w a zs) (hl : zs.length ≤ 1048576) :
    Calls Try.prog 62 #[.slice a zs.length cap, .func (.func 58) #[] #[]] w fun e w' => e = .returned (.bool (zs.all slp)) ∧ w' = w := by
  have TB : ∀ k (hk : k < zs.length), slp zs[k] = false → zs.all slp = false := fun k hk h => all_bad hk h
  have TA : (zs.take zs.length).all slp = true → zs.all slp = true := fun h => by rwa [List.take_length] at h
  have TS : ∀ k (hk : k < zs.length), (zs.take k).all slp = true → slp zs[k] = true → (zs.take (k + 1)).all slp = true := fun k hk h g => all_step hk h g
  generalize zs.all slp = r at *
  go_enter Try.func62, Try.ntmps62
  go_wp2
  go_loop [6, 9] (fun _ i => ∃ k : Nat, k ≤ zs.length ∧ (zs.take k).all slp = true ∧ i = .int .i64 k) (fun _ i => zs.length - (intOf i).toNat)
  case atStart => exact ⟨0, Nat.zero_le _, rfl, rfl⟩
  case round =>
    obtain ⟨k, hk, hgo, rfl⟩ := hrel
    by_cases hlt : k < zs.length
    · rcases hz with hz | ⟨b, off, rfl, hc⟩
      · simp [hz] at hlt
      have q0 := hc k hlt
      have e0 : zs.getD k 0 = zs[k] := by simp [List.getD, hlt]
      rw [e0] at q0
      clear e0 hc TA
      cases hs : slp zs[k]
      · have R := hide (TB k hlt hs)
        clear TB TS
        generalize zs[k] = z at *
        go_wp2_with fail
        refine (c58 _ _).mono ?_
        rintro e w1 ⟨rfl, hw⟩
        subst hw
        rw [hs]
        go_wp2
        go_ret
        exact ⟨ret_bool R.out.symm, rfl⟩
      · have hg2 := TS k hlt hgo hs
        clear TB TS
        generalize zs[k] = z at *
        go_wp2_with fail
        refine (c58 _ _).mono ?_
        rintro e w1 ⟨rfl, hw⟩
        subst hw
        rw [hs]
        go_wp2
        go_round
        case rel => exact ⟨k + 1, by omega, hg2, by go_num⟩
        case measure => simp [intOf]; omega
    · obtain rfl : k = zs.length := by omega
      have R := hide (TA hgo)
      clear TA TB TS hgo
      go_wp2
      go_ret
      exact ⟨ret_bool R.out.symm, rfl⟩

end Go.Proofs.Ytcadgafenbmihaa
