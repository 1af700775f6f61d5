/- Rides: the mathematics, and the program's steps one after the other. -/
import Derived.Test.YtcadgafenbmihaaM
import Derived.Deep.AppendLies
namespace Go.Proofs.Ytcadgafenbmihaa
open Go.RowKit Fl

attribute [local go_sem] run_store_float

def vAt (l : LocoV) (es : List CarV) (sp v : Nat) (zs : List Nat) (k : Nat) : Nat := (zs.take k).foldl (fun v sl => pull l es v sl sp) v
def rides (l : LocoV) (es : List CarV) (sp v : Nat) (zs : List Nat) (k : Nat) : List Nat := (List.range k).map fun i => vAt l es sp v zs (i + 1)
def rideOk (l : LocoV) (es : List CarV) (v : Nat) (zs : List Nat) (sp : Nat) : Bool := locoOk l && trainOk es && spd v && spn sp && decide (zs.length ≤ 200) && zs.all slp
def ride (l : LocoV) (es : List CarV) (v : Nat) (zs : List Nat) (sp : Nat) : List Nat := if rideOk l es v zs sp = true then rides l es sp v zs zs.length else []
theorem ride_no {l : LocoV} {es : List CarV} {v : Nat} {zs : List Nat} {sp : Nat} (h : rideOk l es v zs sp = false) : ride l es v zs sp = [] := by unfold ride; rw [h]; rfl
theorem ride_yes {l : LocoV} {es : List CarV} {v : Nat} {zs : List Nat} {sp : Nat} (h1 : locoOk l = true) (h2 : trainOk es = true) (h3 : spd v = true) (h4 : spn sp = true) (h5 : zs.length ≤ 200) (h6 : zs.all slp = true) : ride l es v zs sp = rides l es sp v zs zs.length := by
  unfold ride rideOk; rw [h1, h2, h3, h4, h6, decide_eq_true h5]; rfl
theorem rides_len (l : LocoV) (es : List CarV) (sp v : Nat) (zs : List Nat) (k : Nat) : (rides l es sp v zs k).length = k := by simp [rides]
theorem ride_len (l : LocoV) (es : List CarV) (v : Nat) (zs : List Nat) (sp : Nat) : (ride l es v zs sp).length ≤ 200 := by
  unfold ride
  split
  · rename_i h
    unfold rideOk at h
    simp only [Bool.and_eq_true, decide_eq_true_eq] at h
    rw [rides_len]; exact h.1.2
  · simp
theorem vAt_succ {l : LocoV} {es : List CarV} {sp v : Nat} {zs : List Nat} {k : Nat} (hk : k < zs.length) : vAt l es sp v zs (k + 1) = pull l es (vAt l es sp v zs k) zs[k] sp := by
  unfold vAt; rw [List.take_succ_eq_append_getElem hk, List.foldl_append]; rfl
theorem rides_succ (l : LocoV) (es : List CarV) (sp v : Nat) (zs : List Nat) (k : Nat) : rides l es sp v zs (k + 1) = rides l es sp v zs k ++ [vAt l es sp v zs (k + 1)] := by
  simp [rides, List.range_succ]
theorem vAt_spd {l : LocoV} {es : List CarV} {sp v : Nat} {zs : List Nat} (h1 : locoOk l = true) (h2 : trainOk es = true) (h3 : spd v = true) (h4 : spn sp = true) (h6 : zs.all slp = true) : ∀ k, k ≤ zs.length → spd (vAt l es sp v zs k) = true := by
  rw [List.all_eq_true] at h6
  intro k
  induction k with
  | zero => intro _; exact h3
  | succ k ih =>
    intro hk
    have hk' : k < zs.length := by omega
    rw [vAt_succ hk', pull_yes h1 h2 (ih (by omega)) (h6 _ (List.getElem_mem hk')) h4]
    exact pull_spd h2 (ih (by omega)) h4

theorem own_keep {w w' : World} {base e sz n : Nat} {v : Value} {xs : List Value} (h : w.ownsRow base e sz v n xs) (hb : Below w.heap.size w w') : w'.ownsRow base e sz v n xs := by
  obtain ⟨h1, h2⟩ := h
  refine ⟨h1, ?_⟩
  rcases h2 with h2 | ⟨g, cap, cur, hv, hg, hh, r⟩
  · exact .inl h2
  · exact .inr ⟨g, cap, cur, hv, hg, (hb.block g (lt_of_block hh)).trans hh, r⟩
theorem own_far {w w' : World} {base e sz n : Nat} {v : Value} {vs : List Value} {r : Option Nat} (h : w.ownsRow base e sz v n vs) (hg : w.grownBy w' r) (hne : ∀ k, v.ownBlock = some k → some k ≠ r) : w'.ownsRow base e sz v n vs := by
  refine h.kept hg ?_
  cases hv : v.ownBlock with
  | none => exact .inl rfl
  | some k => exact .inr (hne k hv)
theorem own_from {w : World} {base e sz n B : Nat} {v : Value} {xs : List Value} (h : w.ownsRow base e sz v n xs) (hB : B ≤ base) : ∀ j, v.ownBlock = some j → B ≤ j := by
  intro j hj
  rcases h.2 with ⟨rfl, _⟩ | ⟨g, cap', cur, rfl, hg, _⟩
  · simp [Value.ownBlock] at hj
  · simp [Value.ownBlock] at hj; omega
theorem own_form {w : World} {base e sz n : Nat} {v : Value} {xs : List Value} (h : w.ownsRow base e sz v n xs) : ∃ a c, v = .slice a n c := by
  rcases h.2 with ⟨rfl, h0⟩ | ⟨g, cap', cur, rfl, _⟩
  · exact ⟨none, 0, by rw [h0]⟩
  · exact ⟨_, _, rfl⟩
theorem flts_own {w : World} {base n c : Nat} {a : Option Addr} {ys : List Nat} (h : w.ownsRow base 22 1 (.slice a n c) n (ys.map (Value.float .f64))) (hn : ys.length = n) : Flts w a ys := by
  rcases h.2 with ⟨_, h0⟩ | ⟨g, cap', cur, he, _⟩
  · left; cases ys <;> simp_all
  · simp only [Value.slice.injEq] at he
    obtain ⟨rfl, _, rfl⟩ := he
    exact Flts.of_owns h
theorem own_blk_lt {w : World} {base e sz n : Nat} {v : Value} {xs : List Value} (h : w.ownsRow base e sz v n xs) : ∀ k, v.ownBlock = some k → k < w.heap.size := by
  intro k hk
  rcases h.2 with ⟨rfl, _⟩ | ⟨g, cap', cur, rfl, _, hg, _⟩
  · simp [Value.ownBlock] at hk
  · simp [Value.ownBlock] at hk; subst hk; exact lt_of_block hg
theorem owns_lt {w : World} {base e sz g n cap : Nat} {xs : List Value} (h : w.ownsRow base e sz (.slice (some ⟨g, 0, none⟩) n cap) n xs) : g < w.heap.size := own_blk_lt h g rfl
theorem Bx2.grow {w w' : World} {b : Nat} {l : LocoV} {r : Option Nat} (h : Bx2 w b l) (hg : w.grownBy w' r) (hne : some b ≠ r) : Bx2 w' b l :=
  ⟨(hg.cell_far _ (cell_lt h.1) hne).trans h.1, (hg.cell_far _ (cell_lt h.1) hne).trans h.2⟩
theorem Flts.far {w w' : World} {a : Option Addr} {zs : List Nat} {b : Nat} (h : Flts w a zs) (ha : Apart a b) (hg : w.grownBy w' (some b)) : Flts w' a zs := by
  rcases h with h | ⟨b', off, rfl, hc⟩
  · exact .inl h
  · refine .inr ⟨b', off, rfl, fun i hi => ?_⟩
    have hb := cell_lt (hc i hi)
    have hne : b' ≠ b := ha _ rfl
    exact (hg.cell_far _ hb (by intro e; cases e; exact hne rfl)).trans (hc i hi)
theorem gset2 {w w' : World} {b g : Nat} (h : w.grownBy w' (some b)) (hg : w.heap.size ≤ g) (o : Nat) (v : Value) : w.grownBy (w'.setCell ⟨g, o, none⟩ v) (some b) :=
  ⟨h.os, h.tape, h.output, by simpa using h.size, fun k hk hne => (Below.heap_setCell _ _ _ _ (by show k ≠ g; omega)).trans (h.block k hk hne)⟩
theorem Train.other {w : World} {b e d m : Nat} {l : LocoV} {s : Value} {v sp g : Nat} (h : Train w b e d m l s v sp) (hne : b ≠ g) (o : Nat) (x : Value) : Train (w.setCell ⟨g, o, none⟩ x) b e d m l s v sp :=
  h.block (Below.heap_setCell _ _ _ _ hne)
theorem set_step (X : List Value) (n k : Nat) (y : Nat) (hX : X.length = k) (hk : k < n) :
    (X ++ List.replicate (n - k) (Value.float .f64 0)).set k (.float .f64 y) = (X ++ [.float .f64 y]) ++ List.replicate (n - (k + 1)) (Value.float .f64 0) := by
  have e1 : n - k = (n - (k + 1)) + 1 := by omega
  rw [List.set_append_right _ _ (by omega), e1, List.replicate_succ, hX, Nat.sub_self, List.set_cons_zero]
  simp

set_option maxHeartbeats 1600000 in
theorem c63 (b e0 d0 v sp : Nat) (l : LocoV) (a az : Option Addr) (cap cz : Nat) (es : List CarV) (zs : List Nat) (w : World) (hT : Train w b e0 d0 (weigh es) l (.slice a es.length cap) v sp) (he : Cars w a es) (hab : Apart a b) (hl : es.length ≤ 1048576)
    (hz : Flts w az zs) (hzb : Apart az b ∨ zs = []) (hzl : zs.length ≤ 200) (h1 : locoOk l = true) (ht : trainOk es = true) (hv : spd v = true) (hp : spn sp = true) (hs : zs.all slp = true) :
    Calls Try.prog 63 #[.slice az zs.length cz, .func (.func 61) #[.pointer (some ⟨b, 0, none⟩)] #[]] w fun r w' => ∃ u, r = .returned u ∧
      w'.ownsRow w.heap.size 22 1 u zs.length ((rides l es sp v zs zs.length).map (Value.float .f64)) ∧ w.grownBy w' (some b) := by
  have hvA := vAt_spd (v := v) h1 ht hv hp hs
  have hS : ∀ k (hk : k < zs.length), held (next l es (vAt l es sp v zs k) zs[k] sp) = vAt l es sp v zs (k + 1) := fun k hk => by
    rw [vAt_succ hk, pull_yes h1 ht (hvA k (by omega)) ((List.all_eq_true.1 hs) _ (List.getElem_mem hk)) hp]
  have hR := fun k => rides_succ l es sp v zs k
  have hRl := fun k => rides_len l es sp v zs k
  have hR0 : rides l es sp v zs 0 = [] := rfl
  have hV0 : vAt l es sp v zs 0 = v := rfl
  have hC : ∀ k (hk : k < zs.length) w' e' d', Train w' b e' d' (weigh es) l (.slice a es.length cap) (vAt l es sp v zs k) sp → Cars w' a es → _ := fun k hk w' e' d' t c => c61 b e' d' (vAt l es sp v zs k) sp zs[k] l a cap es w' t c hl ht (hvA k (by omega)) hp
  have hC2 : ∀ k (hk : k < zs.length) w' e' d', Train w' b e' d' (weigh es) l (.slice a es.length cap) (vAt l es sp v zs k) sp → Cars w' a es → Calls Try.prog 61 #[.pointer (some ⟨b, 0, none⟩), .float .f64 zs[k]] w' fun r w'' => r = .returned (.float .f64 (vAt l es sp v zs (k + 1))) ∧ (∃ e1 d1, Train w'' b e1 d1 (weigh es) l (.slice a es.length cap) (vAt l es sp v zs (k + 1)) sp) ∧ w'.grownBy w'' (some b) := fun k hk w' e' d' t c => by
    have := hC k hk w' e' d' t c
    rw [hS k hk] at this
    exact this
  clear hC hS hvA
  generalize vAt l es sp v zs = VA at *
  generalize rides l es sp v zs = RD at *
  generalize weigh es = we at *
  subst hV0
  have hbs := hT.lt
  obtain ⟨i0, hi, hz0, hz1, hz2⟩ := info_parts info22
  go_enter Try.func63, Try.ntmps63
  go_wp2_with (at_make; refine wpList_make_full _ rfl _ _ 52 rfl w.heap.size 22 i0 (.float .f64 0) 1 Try.underlying52 hi hz0 hz1 _ _ _ _ zs.length rfl rfl rfl rfl (by rw [hz2]; omega) (by unfold maxLen; omega) (Nat.le_refl _) ?_; intro w1 hown hgrow)
  have hown' : w1.ownsRow w.heap.size 22 1 (.slice (some ⟨w.heap.size, 0, none⟩) zs.length zs.length) zs.length (((RD 0).map (Value.float .f64)) ++ List.replicate (zs.length - 0) (Value.float .f64 0)) := by
    rw [hR0]; simpa [toList_madeCells_one, Value.cells] using hown
  have hbel : Below w.heap.size w w1 := (Below.refl _ _).grown hgrow (Nat.le_refl _) (fun k hk => by cases hk)
  have hT1 := hT.below hbel
  have hgr1 : w.grownBy w1 (some b) := gof hbel
  clear hown hgrow hT hbel hR0
  go_loopw [6, 7, 13] (fun _ _ i wr => ∃ k : Nat, k ≤ zs.length ∧ i = .int .i64 k ∧ wr.ownsRow w.heap.size 22 1 (.slice (some ⟨w.heap.size, 0, none⟩) zs.length zs.length) zs.length (((RD k).map (Value.float .f64)) ++ List.replicate (zs.length - k) (Value.float .f64 0)) ∧ (∃ e d, Train wr b e d we l (.slice a es.length cap) (VA k) sp) ∧ w.grownBy wr (some b)) (fun _ _ i _ => zs.length - (intOf i).toNat)
  case atStart => exact ⟨0, Nat.zero_le _, rfl, hown', ⟨_, _, hT1⟩, hgr1⟩
  case round =>
    obtain ⟨k, hk, rfl, hown, ⟨e1, d1, hT⟩, hgr⟩ := hrel
    clear hown' hT1 hgr1
    by_cases hlt : k < zs.length
    · have hCk := hC2 k hlt wr e1 d1 hT (he.far hab hgr)
      have hRk := hide (hR k)
      have hRlk := hRl k
      clear hC2 hR hRl
      rcases hz with hz | ⟨bz, off, rfl, hc⟩
      · simp [hz] at hlt
      have hne : bz ≠ b := by
        rcases hzb with h | h
        · exact h _ rfl
        · simp [h] at hlt
      have q0 := (hgr.cell_far _ (cell_lt (hc k hlt)) (by intro e; cases e; exact hne rfl)).trans (hc k hlt)
      have e0 : zs.getD k 0 = zs[k] := by simp [List.getD, hlt]
      rw [e0] at q0
      clear e0 hc
      generalize zs[k] = z at *
      generalize hY : VA (k + 1) = Y at *
      replace hY := hide hY
      go_wp2_with fail
      refine hCk.mono ?_
      rintro e w2 ⟨rfl, ⟨e2, d2, hT2⟩, hg2⟩
      have hgr2 := gtrans hgr hg2
      have hown2 := own_far hown hg2 (fun j hj => by simp [Value.ownBlock] at hj; subst hj; intro h; cases h; omega)
      clear hgr hown hCk hg2 hT q0
      have hfr := hown2.frozenAt k
      have hcw : w2.cell? ⟨w.heap.size, k, none⟩ = some (.float .f64 0) := by
        rw [hown2.cellAt k (by omega), List.getElem?_append_right (by simp [hRlk])]
        simp [hRlk, List.getElem?_replicate]
        omega
      have hown3 := (hown2.stored k (.float .f64 Y)).1
      rw [set_step _ _ _ _ (by simp [hRlk]) hlt, show (RD k).map (Value.float .f64) ++ [.float .f64 Y] = (RD k ++ [Y]).map (Value.float .f64) by simp, ← hRk.out] at hown3
      have hT3 := hT2.other (g := w.heap.size) (by omega) k (.float .f64 Y)
      have hgr3 := gset2 hgr2 (Nat.le_refl _) k (.float .f64 Y)
      clear hown2 hT2 hgr2 hRk
      go_wp2
      go_roundw
      case rel => exact ⟨k + 1, by omega, by go_num, hown3, ⟨_, _, by rw [hY.out]; exact hT3⟩, hgr3⟩
      case measure => simp [intOf]; omega
    · obtain rfl : k = zs.length := by omega
      have hown2 : wr.ownsRow w.heap.size 22 1 (.slice (some ⟨w.heap.size, 0, none⟩) zs.length zs.length) zs.length ((RD zs.length).map (Value.float .f64)) := by simpa using hown
      clear hown hC2 hR hRl
      go_wp2
      go_ret
      exact ⟨_, rfl, hown2, hgr⟩

end Go.Proofs.Ytcadgafenbmihaa
