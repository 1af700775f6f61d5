/- A stop never makes a run shorter. -/
import Derived.Test.YtnhcmjfmfgoakaaN
import Derived.Test.YtnhcmjfmfgoakaaS
import Derived.Test.YtnhcmjfmfgoakaaV
namespace Go.Proofs.Ytnhcmjfmfgoakaa
open Go.RowKit

section
variable {m : MotorV} {zs : List Int} {x : Nat}
theorem Right.take (R : Right m zs) (h0 : 1 ≤ x) (h1 : x < zs.length) : Right m (zs.take x) := by
  have hl : (zs.take x).length = x := by rw [List.length_take]; omega
  refine ⟨R.u0, R.u1, R.d0, R.d1, R.t0, R.t1, by omega, by have := R.n1; omega, fun i hi => ?_⟩
  have e : (zs.take x).getD i 0 = zs.getD i 0 := by simp [List.getD, show i < x by omega]
  rw [e]; exact R.z i (by omega)
theorem Right.drop (R : Right m zs) (h1 : x < zs.length) : Right m (zs.drop x) := by
  have hl : (zs.drop x).length = zs.length - x := List.length_drop
  refine ⟨R.u0, R.u1, R.d0, R.d1, R.t0, R.t1, by omega, by have := R.n1; omega, fun i hi => ?_⟩
  have e : (zs.drop x).getD i 0 = zs.getD (x + i) 0 := by simp [List.getD, List.getElem?_drop]
  rw [e]; exact R.z (x + i) (by omega)
theorem mul_mono {a b c : Int} (ha : 0 ≤ a) (h : b ≤ c) : a * b ≤ a * c := Int.mul_le_mul_of_nonneg_left h ha

theorem take_sq (R : Right m zs) (_h0 : 1 ≤ x) (h1 : x < zs.length) {k : Nat} (hk : k ≤ x) : sqAt m (zs.take x) k ≤ sqAt m zs k := by
  have hl : (zs.take x).length = x := by rw [List.length_take]; omega
  obtain ⟨_, j, hj, e⟩ := sqAt_least (m := m) (zs := zs) (k := k) (by omega)
  have L := (sqAt_least (m := m) (zs := zs.take x) (k := k) (by omega)).1
  by_cases hx : j < x
  · have hc : capS m.t (zs.take x) j = capS m.t zs j := by
      unfold capS
      by_cases hj0 : j = 0
      · rw [if_pos (.inl hj0), if_pos (.inl hj0)]
      · rw [if_neg (by omega), if_neg (by omega)]
        have e1 : (zs.take x).getD (j - 1) 0 = zs.getD (j - 1) 0 := by simp [List.getD, show j - 1 < x by omega]
        have e2 : (zs.take x).getD j 0 = zs.getD j 0 := by simp [List.getD, hx]
        unfold capV
        rw [e1, e2]
    have := L j (by omega)
    unfold reach at this e
    rw [hc] at this
    omega
  · have := L x (by omega)
    have hn := R.capS_nn j
    unfold reach at this e
    rw [if_neg (by omega)] at this e
    have hc : capS m.t (zs.take x) x = 0 := by unfold capS; rw [if_pos (.inr hl.symm)]
    have := mul_mono (a := m.d) (b := (x : Int) - k) (c := (j : Int) - k) (by have := R.d0; omega) (by omega)
    omega
theorem drop_sq (R : Right m zs) (h1 : x < zs.length) {k : Nat} (hk : k ≤ zs.length - x) : sqAt m (zs.drop x) k ≤ sqAt m zs (x + k) := by
  have hl : (zs.drop x).length = zs.length - x := List.length_drop
  obtain ⟨_, j, hj, e⟩ := sqAt_least (m := m) (zs := zs) (k := x + k) (by omega)
  have L := (sqAt_least (m := m) (zs := zs.drop x) (k := k) (by omega)).1
  by_cases hx : x < j
  · obtain ⟨i, rfl⟩ : ∃ i, j = x + i := ⟨j - x, by omega⟩
    have hc : capS m.t (zs.drop x) i = capS m.t zs (x + i) := by
      unfold capS
      by_cases hj0 : x + i = zs.length
      · rw [if_pos (.inr (by omega)), if_pos (.inr hj0)]
      · rw [if_neg (by omega), if_neg (by omega)]
        have e1 : (zs.drop x).getD (i - 1) 0 = zs.getD (x + i - 1) 0 := by
          have : x + (i - 1) = x + i - 1 := by omega
          simp [List.getD, List.getElem?_drop, this]
        have e2 : (zs.drop x).getD i 0 = zs.getD (x + i) 0 := by simp [List.getD, List.getElem?_drop]
        unfold capV
        rw [e1, e2]
    have := L i (by omega)
    unfold reach at this e
    rw [hc] at this
    have a1 : ((x + i : Nat) : Int) = (x : Int) + i := by omega
    have a2 : ((x + k : Nat) : Int) = (x : Int) + k := by omega
    rw [a1, a2] at e
    have a3 : (x : Int) + k - (x + i) = (k : Int) - i := by omega
    have a4 : (x : Int) + i - (x + k) = (i : Int) - k := by omega
    rw [a3, a4] at e
    by_cases hik : i < k
    · rw [if_pos hik] at this; rw [if_pos (by omega)] at e; omega
    · rw [if_neg hik] at this; rw [if_neg (by omega)] at e; omega
  · have := L 0 (by omega)
    have hn := R.capS_nn j
    have hc : capS m.t (zs.drop x) 0 = 0 := by unfold capS; rw [if_pos (.inl rfl)]
    unfold reach at this e
    rw [hc] at this
    by_cases hk0 : k = 0
    · subst hk0
      have i0 := (sqAt_in R (x + 0)).1
      simp at this
      omega
    · rw [if_pos (by omega)] at this
      rw [if_pos (by omega)] at e
      have a2 : ((x + k : Nat) : Int) = (x : Int) + k := by omega
      rw [a2] at e
      have := mul_mono (a := m.u) (b := (k : Int) - ((0 : Nat) : Int)) (c := (x : Int) + k - j) (by have := R.u0; omega) (by omega)
      omega
theorem take_time (R : Right m zs) (h0 : 1 ≤ x) (h1 : x < zs.length) : ∀ k, k ≤ x → timeAt m zs k ≤ timeAt m (zs.take x) k := by
  have hl : (zs.take x).length = x := by rw [List.length_take]; omega
  have R' := R.take h0 h1
  intro k
  induction k with
  | zero => intro _; exact Int.le_refl _
  | succ k ih =>
    intro hk
    have := ih (by omega)
    rw [timeAt_succ R (by omega), timeAt_succ R' (by omega)]
    have c := cellT_anti (sqAt_in R' k).1 (sqAt_in R' (k + 1)).1 (take_sq R h0 h1 (by omega)) (take_sq R h0 h1 hk) (sqAt_in R k).2 (sqAt_in R (k + 1)).2
    omega
theorem drop_time (R : Right m zs) (h1 : x < zs.length) : ∀ k, k ≤ zs.length - x → timeAt m zs (x + k) ≤ timeAt m zs x + timeAt m (zs.drop x) k := by
  have hl : (zs.drop x).length = zs.length - x := List.length_drop
  have R' := R.drop h1
  intro k
  induction k with
  | zero => intro _; have e : timeAt m (zs.drop x) 0 = 0 := rfl; rw [e]; simp
  | succ k ih =>
    intro hk
    have := ih (by omega)
    have e := timeAt_succ R (k := x + k) (by omega)
    rw [← Nat.add_assoc, e, timeAt_succ R' (by omega)]
    have c := cellT_anti (sqAt_in R' k).1 (sqAt_in R' (k + 1)).1 (drop_sq R h1 (by omega)) (drop_sq R h1 hk) (sqAt_in R (x + k)).2 (sqAt_in R (x + (k + 1))).2
    rw [← Nat.add_assoc] at c
    omega
theorem stop_ge (R : Right m zs) (h0 : 1 ≤ x) (h1 : x < zs.length) : runT (sqs m zs) ≤ runT (sqs m (zs.take x)) + runT (sqs m (zs.drop x)) := by
  have hl : (zs.take x).length = x := by rw [List.length_take]; omega
  have hl2 : (zs.drop x).length = zs.length - x := List.length_drop
  rw [runT_eq R, runT_eq (R.take h0 h1), runT_eq (R.drop h1), hl, hl2]
  have a := take_time R h0 h1 x (Nat.le_refl _)
  have b := drop_time R h1 (zs.length - x) (Nat.le_refl _)
  rw [show x + (zs.length - x) = zs.length by omega] at b
  omega
end

/-- A motor with more of everything, up to 19 of each. -/
theorem strong_right {m : MotorV} {zs : List Int} (h : 1 ≤ m.u ∧ m.u ≤ 60 ∧ 1 ≤ m.d ∧ m.d ≤ 120 ∧ 2 ≤ m.t ∧ m.t ≤ 51) (R : Right m zs) {p q r : Int} (hp : 0 ≤ p ∧ p < 20) (hq : 0 ≤ q ∧ q < 20) (hr : 0 ≤ r ∧ r < 20) :
    runT (sqs ⟨m.u + p, m.d + q, m.t + r⟩ zs) ≤ runT (sqs m zs) := by
  refine runT_anti R (m' := ⟨m.u + p, m.d + q, m.t + r⟩) ⟨?_, ?_, ?_, ?_, ?_, ?_, R.n0, R.n1, R.z⟩ ⟨?_, ?_, ?_, rfl, fun _ => Int.le_refl _⟩
  all_goals dsimp only
  all_goals omega
theorem high_right {m : MotorV} {zs : List Int} (hall : ∀ x ∈ zs, 1 ≤ x ∧ x ≤ 60) (R : Right m zs) {k : Nat} (hk : k < zs.length) {p : Int} (hp : 0 ≤ p ∧ p < 20) :
    runT (sqs m (zs.set k (zs.getD k 0 + 1 + p))) ≤ runT (sqs m zs) := by
  have ek : zs.getD k 0 = zs[k] := by simp [List.getD, hk]
  have hb := hall zs[k] (List.getElem_mem hk)
  have hget : ∀ i, (zs.set k (zs.getD k 0 + 1 + p)).getD i 0 = if i = k then zs.getD k 0 + 1 + p else zs.getD i 0 := by
    intro i
    by_cases e : i = k
    · subst e; rw [if_pos rfl, getD_set_self hk]
    · rw [if_neg e, getD_set_ne (fun h => e h.symm)]
  refine runT_anti R ⟨R.u0, R.u1, R.d0, R.d1, R.t0, R.t1, by simpa using R.n0, by simpa using R.n1, fun i hi => ?_⟩ ⟨Int.le_refl _, Int.le_refl _, Int.le_refl _, by simp, fun i => ?_⟩
  · rw [hget]
    split
    · rw [ek]; omega
    · exact R.z i (by simpa using hi)
  · rw [hget]
    split
    · rename_i e; subst e; omega
    · exact Int.le_refl _

/-- What the draw's byte number i is. -/
def atZ (bs : List Int) (i : Nat) : Int := if i < bs.length then bs.getD i 0 else ((i : Int) * 11 + (bs.length : Int) * 3) % 256
set_option maxHeartbeats 400000 in
theorem c22v (a : Option Addr) (cap : Nat) (zs : List Int) (k : Nat) (w : World) (hz : Bytes w a zs) (hl : zs.length ≤ 1048576) (hk : k ≤ 1000) :
    Calls Try.prog 22 #[.slice a zs.length cap, .int .i64 (k : Int)] w fun e w' => e = .returned (.int .i64 (atZ zs k)) ∧ w' = w := by
  by_cases hlt : k < zs.length
  · have E : Hid (atZ zs k = zs.getD k 0) := by show _ = _; unfold atZ; rw [if_pos hlt]
    rcases hz with hz | ⟨b, off, rfl, hc⟩
    · simp [hz] at hlt
    obtain ⟨hck, h0, h1⟩ := hc k hlt
    clear hc
    generalize zs.getD k 0 = y at *
    have hy : wrap64 y = y := by unfold wrap64; omega
    go_enter Try.func22, Try.ntmps22
    go_wp2
    go_ret
    exact ⟨ret_int (by rw [E.out]), rfl⟩
  · have E : Hid (atZ zs k = ((k : Int) * 11 + (zs.length : Int) * 3) % 256) := by show _ = _; unfold atZ; rw [if_neg hlt]
    clear hz
    go_enter Try.func22, Try.ntmps22
    go_wp2
    go_ret
    exact ⟨ret_int (by rw [E.out]), rfl⟩
theorem atZ_in {w : World} {a : Option Addr} {bs : List Int} (h : Bytes w a bs) (i : Nat) : 0 ≤ atZ bs i ∧ atZ bs i ≤ 255 := by
  unfold atZ
  split
  · rename_i hi
    rcases h with h | ⟨b, off, _, hc⟩
    · simp [h] at hi
    · exact (hc i hi).2
  · omega
end Go.Proofs.Ytnhcmjfmfgoakaa
