/- Rides: the mathematics, and the program's steps one after the other. -/
import Derived.Test.YtcadgafenbmihabM
import Derived.Deep.AppendLies
namespace Go.Proofs.Ytcadgafenbmihab
open Go.RowKit Fl

attribute [local go_sem] run_store_float

def vAt (l : LocoV) (es : List CarV) (sp v : Nat) (zs : List Nat) (k : Nat) : Nat := (zs.take k).foldl (fun v sl => pull l es v sl sp) v
def rides (l : LocoV) (es : List CarV) (sp v : Nat) (zs : List Nat) (k : Nat) : List Nat := (List.range k).map fun i => vAt l es sp v zs (i + 1)
def rideOk (l : LocoV) (es : List CarV) (v : Nat) (zs : List Nat) (sp : Nat) : Bool := locoOk l && trainOk es && spd v && spn sp && decide (zs.length ≤ 200) && zs.all slp
def ride (l : LocoV) (es : List CarV) (v : Nat) (zs : List Nat) (sp : Nat) : List Nat := if rideOk l es v zs sp = true then rides l es sp v zs zs.length else []
theorem ride_no {l : LocoV} {es : List CarV} {v : Nat} {zs : List Nat} {sp : Nat} (h : rideOk l es v zs sp = false) : ride l es v zs sp = [] := by unfold ride; rw [h]; rfl
theorem ride_yes {l : LocoV} {es : List CarV} {v : Nat} {zs : List Nat} {sp : Nat} (h1 : locoOk l = true) (h2 : trainOk es = true) (h3 : spd v = true) (h4 : spn sp = true) (h5 : zs.length ≤ 200) (h6 : zs.all slp = true) : ride l es v zs sp = rides l es sp v zs zs.length := by
  unfold ride rideOk; rw [h1, h2, h3, h4, h6, decide_eq_true h5]; rfl
theorem rides_len (l : LocoV) (es : List CarV) (sp v : Nat) (zs : List Nat) (k : Nat) : (rides l es sp v zs k).length = k := by simp [rides]
theorem ride_len (l : LocoV) (es : List CarV) (v : Nat) (zs : List Nat) (sp : Nat) : (ride l es v zs sp).length ≤ 200 := by
  unfold ride
  split
  · rename_i h
    unfold rideOk at h
    simp only [Bool.and_eq_true, decide_eq_true_eq] at h
    rw [rides_len]; exact h.1.2
  · simp
theorem vAt_succ {l : LocoV} {es : List CarV} {sp v : Nat} {zs : List Nat} {k : Nat} (hk : k < zs.length) : vAt l es sp v zs (k + 1) = pull l es (vAt l es sp v zs k) zs[k] sp := by
  unfold vAt; rw [List.take_succ_eq_append_getElem hk, List.foldl_append]; rfl
theorem rides_succ (l : LocoV) (es : List CarV) (sp v : Nat) (zs : List Nat) (k : Nat) : rides l es sp v zs (k + 1) = rides l es sp v zs k ++ [vAt l es sp v zs (k + 1)] := by
  simp [rides, List.range_succ]
theorem vAt_spd {l : LocoV} {es : List CarV} {sp v : Nat} {zs : List Nat} (h1 : locoOk l = true) (h2 : trainOk es = true) (h3 : spd v = true) (h4 : spn sp = true) (h6 : zs.all slp = true) : ∀ k, k ≤ zs.length → spd (vAt l es sp v zs k) = true := by
  rw [List.all_eq_true] at h6
  intro k
  induction k with
  | zero => intro _; exact h3
  | succ k ih =>
    intro hk
    have hk' : k < zs.length := by omega
    rw [vAt_succ hk', pull_yes h1 h2 (ih (by omega)) (h6 _ (List.getElem_mem hk')) h4]
    exact pull_spd h2 (ih (by omega)) h4

theorem own_keep {w w' : World} {base e sz n : Nat} {v : Value} {xs : List Value} (h : w.ownsRow base e sz v n xs) (hb : Below w.heap.size w w') : w'.ownsRow base e sz v n xs := by
  obtain ⟨h1, h2⟩ := h
  refine ⟨h1, ?_⟩
  rcases h2 with h2 | ⟨g, cap, cur, hv, hg, hh, r⟩
  · exact .inl h2
  · exact .inr ⟨g, cap, cur, hv, hg, (hb.block g (lt_of_block hh)).trans hh, r⟩
theorem own_far {w w' : World} {base e sz n : Nat} {v : Value} {vs : List Value} {r : Option Nat} (h : w.ownsRow base e sz v n vs) (hg : w.grownBy w' r) (hne : ∀ k, v.ownBlock = some k → some k ≠ r) : w'.ownsRow base e sz v n vs := by
  refine h.kept hg ?_
  cases hv : v.ownBlock with
  | none => exact .inl rfl
  | some k => exact .inr (hne k hv)
theorem own_from {w : World} {base e sz n B : Nat} {v : Value} {xs : List Value} (h : w.ownsRow base e sz v n xs) (hB : B ≤ base) : ∀ j, v.ownBlock = some j → B ≤ j := by
  intro j hj
  rcases h.2 with ⟨rfl, _⟩ | ⟨g, cap', cur, rfl, hg, _⟩
  · simp [Value.ownBlock] at hj
  · simp [Value.ownBlock] at hj; omega
theorem own_form {w : World} {base e sz n : Nat} {v : Value} {xs : List Value} (h : w.ownsRow base e sz v n xs) : ∃ a c, v = .slice a n c := by
  rcases h.2 with ⟨rfl, h0⟩ | ⟨g, cap', cur, rfl, _⟩
  · exact ⟨none, 0, by rw [h0]⟩
  · exact ⟨_, _, rfl⟩
theorem flts_own {w : World} {base n c : Nat} {a : Option Addr} {ys : List Nat} (h : w.ownsRow base 24 1 (.slice a n c) n (ys.map (Value.float .f64))) (hn : ys.length = n) : Flts w a ys := by
  rcases h.2 with ⟨_, h0⟩ | ⟨g, cap', cur, he, _⟩
  · left; cases ys <;> simp_all
  · simp only [Value.slice.injEq] at he
    obtain ⟨rfl, _, rfl⟩ := he
    exact Flts.of_owns h
theorem own_blk_lt {w : World} {base e sz n : Nat} {v : Value} {xs : List Value} (h : w.ownsRow base e sz v n xs) : ∀ k, v.ownBlock = some k → k < w.heap.size := by
  intro k hk
  rcases h.2 with ⟨rfl, _⟩ | ⟨g, cap', cur, rfl, _, hg, _⟩
  · simp [Value.ownBlock] at hk
  · simp [Value.ownBlock] at hk; subst hk; exact lt_of_block hg
theorem owns_lt {w : World} {base e sz g n cap : Nat} {xs : List Value} (h : w.ownsRow base e sz (.slice (some ⟨g, 0, none⟩) n cap) n xs) : g < w.heap.size := own_blk_lt h g rfl
theorem Bx2.grow {w w' : World} {b : Nat} {l : LocoV} {r : Option Nat} (h : Bx2 w b l) (hg : w.grownBy w' r) (hne : some b ≠ r) : Bx2 w' b l :=
  ⟨(hg.cell_far _ (cell_lt h.1) hne).trans h.1, (hg.cell_far _ (cell_lt h.1) hne).trans h.2⟩
theorem Flts.far {w w' : World} {a : Option Addr} {zs : List Nat} {b : Nat} (h : Flts w a zs) (ha : Apart a b) (hg : w.grownBy w' (some b)) : Flts w' a zs := by
  rcases h with h | ⟨b', off, rfl, hc⟩
  · exact .inl h
  · refine .inr ⟨b', off, rfl, fun i hi => ?_⟩
    have hb := cell_lt (hc i hi)
    have hne : b' ≠ b := ha _ rfl
    exact (hg.cell_far _ hb (by intro e; cases e; exact hne rfl)).trans (hc i hi)
theorem gset2 {w w' : World} {b g : Nat} (h : w.grownBy w' (some b)) (hg : w.heap.size ≤ g) (o : Nat) (v : Value) : w.grownBy (w'.setCell ⟨g, o, none⟩ v) (some b) :=
  ⟨h.os, h.tape, h.output, by simpa using h.size, fun k hk hne => (Below.heap_setCell _ _ _ _ (by show k ≠ g; omega)).trans (h.block k hk hne)⟩
theorem set_step (X : List Value) (n k : Nat) (y : Nat) (hX : X.length = k) (hk : k < n) :
    (X ++ List.replicate (n - k) (Value.float .f64 0)).set k (.float .f64 y) = (X ++ [.float .f64 y]) ++ List.replicate (n - (k + 1)) (Value.float .f64 0) := by
  have e1 : n - k = (n - (k + 1)) + 1 := by omega
  rw [List.set_append_right _ _ (by omega), e1, List.replicate_succ, hX, Nat.sub_self, List.set_cons_zero]
  simp

end Go.Proofs.Ytcadgafenbmihab
