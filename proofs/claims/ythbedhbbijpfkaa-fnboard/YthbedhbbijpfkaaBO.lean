/- The order of a board: one beginning alone. -/
import Derived.Test.YthbedhbbijpfkaaBI
namespace Go.Proofs.Ythbedhbbijpfkaa
open Go.RowKit
theorem cmpX_lt (ts : List TripV) (x y : Nat × Nat) : cmpX ts x y < 0 ↔ (hcA ts x.1 x.2).d < (hcA ts y.1 y.2).d ∨ ((hcA ts x.1 x.2).d = (hcA ts y.1 y.2).d ∧ (x.1 < y.1 ∨ (x.1 = y.1 ∧ x.2 < y.2))) := by
  unfold cmpX; exact cmpD_lt _ _ _ _ _ _
theorem cmpX_asym {ts : List TripV} {x y : Nat × Nat} (h : cmpX ts x y < 0) (g : cmpX ts y x < 0) : False := by
  rw [cmpX_lt] at h g; omega
theorem cmpX_trans {ts : List TripV} {x y z : Nat × Nat} (h : cmpX ts x y < 0) (g : cmpX ts y z < 0) : cmpX ts x z < 0 := by
  rw [cmpX_lt] at *; omega
theorem cmpX_total {ts : List TripV} {x y : Nat × Nat} (h : ¬ cmpX ts x y < 0) (g : ¬ cmpX ts y x < 0) : x = y := by
  rw [cmpX_lt] at h g
  exact Prod.ext (by omega) (by omega)
/-- The first of the departures, in their order. -/
structure IsBd (ts : List TripV) (ds0 out : List (Nat × Nat)) : Prop where
  inn : ∀ x ∈ out, x ∈ ds0
  sorted : out.Pairwise (fun x y => cmpX ts x y < 0)
  rest : ∀ x ∈ ds0, x ∉ out → ∀ y ∈ out, cmpX ts y x < 0
theorem IsBd.nil (ts : List TripV) (ds0 : List (Nat × Nat)) : IsBd ts ds0 [] := ⟨fun x h => by simp at h, List.Pairwise.nil, fun _ _ _ y h => by simp at h⟩
/-- What the search for the next one has found among L. -/
def BestIn (ts : List TripV) (out L : List (Nat × Nat)) (b : Option (Nat × Nat)) : Prop :=
  (b = none ∧ ∀ x ∈ L, x ∈ out) ∨ ∃ y, b = some y ∧ y ∈ L ∧ y ∉ out ∧ ∀ x ∈ L, x ∉ out → x = y ∨ cmpX ts y x < 0
theorem BestIn.skip {ts : List TripV} {out L : List (Nat × Nat)} {b : Option (Nat × Nat)} {x : Nat × Nat} (h : BestIn ts out L b) (hx : x ∈ out) : BestIn ts out (L ++ [x]) b := by
  rcases h with ⟨h1, h2⟩ | ⟨y, h1, h2, h3, h4⟩
  · refine .inl ⟨h1, fun z hz => ?_⟩
    rcases List.mem_append.1 hz with hz | hz
    · exact h2 z hz
    · simp at hz; rw [hz]; exact hx
  · refine .inr ⟨y, h1, List.mem_append.2 (.inl h2), h3, fun z hz hn => ?_⟩
    rcases List.mem_append.1 hz with hz | hz
    · exact h4 z hz hn
    · simp at hz; rw [hz] at hn; exact absurd hx hn
theorem BestIn.first {ts : List TripV} {out L : List (Nat × Nat)} {x : Nat × Nat} (h : BestIn ts out L none) (hx : x ∉ out) : BestIn ts out (L ++ [x]) (some x) := by
  rcases h with ⟨_, h2⟩ | ⟨y, h1, _⟩
  · refine .inr ⟨x, rfl, by simp, hx, fun z hz hn => ?_⟩
    rcases List.mem_append.1 hz with hz | hz
    · exact absurd (h2 z hz) hn
    · simp at hz; exact .inl hz
  · cases h1
theorem BestIn.less {ts : List TripV} {out L : List (Nat × Nat)} {x y : Nat × Nat} (h : BestIn ts out L (some y)) (hx : x ∉ out) (hd : (hcA ts x.1 x.2).d < (hcA ts y.1 y.2).d) : BestIn ts out (L ++ [x]) (some x) := by
  rcases h with ⟨h1, _⟩ | ⟨y', h1, h2, h3, h4⟩
  · cases h1
  · obtain rfl : y = y' := by simpa using h1
    refine .inr ⟨x, rfl, by simp, hx, fun z hz hn => ?_⟩
    rcases List.mem_append.1 hz with hz | hz
    · refine .inr ?_
      rcases h4 z hz hn with rfl | h5
      · rw [cmpX_lt]; exact .inl hd
      · rw [cmpX_lt] at h5 ⊢; omega
    · simp at hz; exact .inl hz
theorem BestIn.more {ts : List TripV} {out L : List (Nat × Nat)} {x y : Nat × Nat} (h : BestIn ts out L (some y)) (hd : ¬ (hcA ts x.1 x.2).d < (hcA ts y.1 y.2).d) (hl : ∀ z ∈ L, z.1 < x.1 ∨ (z.1 = x.1 ∧ z.2 < x.2)) : BestIn ts out (L ++ [x]) (some y) := by
  rcases h with ⟨h1, _⟩ | ⟨y', h1, h2, h3, h4⟩
  · cases h1
  · obtain rfl : y = y' := by simpa using h1
    refine .inr ⟨y, rfl, List.mem_append.2 (.inl h2), h3, fun z hz hn => ?_⟩
    rcases List.mem_append.1 hz with hz | hz
    · exact h4 z hz hn
    · simp at hz
      subst hz
      refine .inr ?_
      have := hl y h2
      rw [cmpX_lt]; omega
theorem IsBd.push {ts : List TripV} {ds0 out : List (Nat × Nat)} {y : Nat × Nat} (h : IsBd ts ds0 out) (hb : BestIn ts out ds0 (some y)) : IsBd ts ds0 (out ++ [y]) := by
  rcases hb with ⟨h1, _⟩ | ⟨y', h1, h2, h3, h4⟩
  · cases h1
  · obtain rfl : y = y' := by simpa using h1
    refine ⟨fun x hx => ?_, ?_, fun x hx hn z hz => ?_⟩
    · rcases List.mem_append.1 hx with hx | hx
      · exact h.inn x hx
      · simp at hx; rw [hx]; exact h2
    · rw [List.pairwise_append]
      refine ⟨h.sorted, by simp, fun a ha b hb => ?_⟩
      simp at hb; subst hb
      exact h.rest b h2 h3 a ha
    · have hn1 : x ∉ out := fun e => hn (List.mem_append.2 (.inl e))
      have hn2 : x ≠ y := fun e => hn (List.mem_append.2 (.inr (by simp [e])))
      rcases List.mem_append.1 hz with hz | hz
      · exact h.rest x hx hn1 z hz
      · simp at hz; subst hz
        exact (h4 x hx hn1).resolve_left hn2
/-- It is the beginning of the sorted list. -/
theorem bd_take {ts : List TripV} : ∀ {out ds : List (Nat × Nat)}, ds.Pairwise (fun x y => cmpX ts x y < 0) → out.Pairwise (fun x y => cmpX ts x y < 0) → (∀ x ∈ out, x ∈ ds) → (∀ x ∈ ds, x ∉ out → ∀ y ∈ out, cmpX ts y x < 0) → out = ds.take out.length
  | [], ds, _, _, _, _ => by simp
  | y :: out, [], _, _, h3, _ => by have := h3 y (List.mem_cons_self ..); simp at this
  | y :: out, z :: ds, h1, h2, h3, h4 => by
    have p1 := List.pairwise_cons.1 h1
    have p2 := List.pairwise_cons.1 h2
    have e : y = z := by
      rcases List.mem_cons.1 (h3 y (List.mem_cons_self ..)) with e | hy
      · exact e
      exfalso
      have c1 := p1.1 y hy
      by_cases hz : z ∈ y :: out
      · rcases List.mem_cons.1 hz with e | hz
        · rw [e] at c1; exact cmpX_asym c1 c1
        · exact cmpX_asym c1 (p2.1 z hz)
      · exact cmpX_asym c1 (h4 z (List.mem_cons_self ..) hz y (List.mem_cons_self ..))
    subst e
    rw [List.length_cons, List.take_succ_cons]
    congr 1
    refine bd_take p1.2 p2.2 (fun x hx => ?_) (fun x hx hn w hw => ?_)
    · rcases List.mem_cons.1 (h3 x (List.mem_cons_of_mem _ hx)) with e | h
      · exact absurd (p2.1 x hx) (by rw [e]; exact fun c => cmpX_asym c c)
      · exact h
    · have hxy : x ≠ y := fun e => by have := p1.1 x hx; rw [e] at this; exact cmpX_asym this this
      exact h4 x (List.mem_cons_of_mem _ hx) (fun h => by
        rcases List.mem_cons.1 h with e | h
        · exact hxy e
        · exact hn h) w (List.mem_cons_of_mem _ hw)
/-- The places come in order. -/
theorem depsI_rise (ts : List TripV) (wn : HaltV → Bool) : ∀ n, (depsI ts wn n).Pairwise (fun x y => x.1 < y.1 ∨ (x.1 = y.1 ∧ x.2 < y.2))
  | 0 => by simp [depsI]
  | n + 1 => by
    rw [depsI_succ]
    unfold depsK
    rw [List.pairwise_append]
    refine ⟨depsI_rise ts wn n, ?_, fun x hx y hy => ?_⟩
    · rw [List.pairwise_map]
      exact (List.pairwise_lt_range.filter _).imp fun h => .inr ⟨rfl, h⟩
    · obtain ⟨k, -, rfl⟩ := List.mem_map.1 hy
      unfold depsI at hx
      rw [List.mem_flatMap] at hx
      obtain ⟨i, hi, hx⟩ := hx
      obtain ⟨q, -, rfl⟩ := List.mem_map.1 hx
      exact .inl (List.mem_range.1 hi)
theorem sortX_strict {ts : List TripV} {wn : HaltV → Bool} {ds : List (Nat × Nat)} (hp : ds.Perm (depsOf ts wn)) (hs : SortX ts ds) : ds.Pairwise (fun x y => cmpX ts x y < 0) := by
  have hnd : ds.Nodup := hp.nodup_iff.2 ((depsI_rise ts wn ts.length).imp fun h e => by rw [e] at h; omega)
  rw [List.pairwise_iff_getElem]
  intro i j hi hj hij
  have h1 := hs i j hij hj
  rw [show ds.getD j (0, 0) = ds[j] by simp [List.getD, hj], show ds.getD i (0, 0) = ds[i] by simp [List.getD, hi]] at h1
  by_cases h : cmpX ts ds[i] ds[j] < 0
  · exact h
  · have e := cmpX_total h h1
    exact absurd e ((List.pairwise_iff_getElem.1 hnd) i j hi hj hij)
/-- The board's answer is one. -/
theorem board_one {ts : List TripV} {wn : HaltV → Bool} {ds out : List (Nat × Nat)} (hp : ds.Perm (depsOf ts wn)) (hs : SortX ts ds) (hb : IsBd ts (depsOf ts wn) out) (c : Nat) (hl : out.length = min c (depsOf ts wn).length) : out = ds.take c := by
  have h := bd_take (sortX_strict hp hs) hb.sorted (fun x hx => hp.symm.subset (hb.inn x hx)) (fun x hx hn => hb.rest x (hp.subset hx) hn)
  rw [h, hl, ← hp.length_eq]
  rw [List.take_eq_take_iff]; omega
theorem depsK_before {ts : List TripV} {wn : HaltV → Bool} {i k : Nat} {x : Nat × Nat} (h : x ∈ depsK ts wn i k) : x.1 < i ∨ (x.1 = i ∧ x.2 < k) := by
  unfold depsK at h
  rcases List.mem_append.1 h with h | h
  · unfold depsI at h
    rw [List.mem_flatMap] at h
    obtain ⟨j, hj, h⟩ := h
    obtain ⟨q, -, rfl⟩ := List.mem_map.1 h
    exact .inl (List.mem_range.1 hj)
  · obtain ⟨q, hq, rfl⟩ := List.mem_map.1 h
    exact .inr ⟨rfl, List.mem_range.1 (List.mem_filter.1 hq).1⟩
end Go.Proofs.Ythbedhbbijpfkaa
