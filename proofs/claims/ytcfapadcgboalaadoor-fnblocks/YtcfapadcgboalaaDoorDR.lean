/- Draws: right trains and moves together; what many moves do. -/
import Derived.Test.YtcfapadcgboalaaDoorDT
namespace Go.Proofs.YtcfapadcgboalaaDoor
open Go.RowKit

set_option maxRecDepth 20000 in
set_option maxHeartbeats 3200000 in
theorem cDrawRight (a : Option Addr) (cap : Nat) (zs : List Int) (w : World) (hz : Bytes w a zs) (hl : zs.length ≤ 1048576) :
    Calls Tryd.prog 6 #[.slice a zs.length cap] w fun e w' => ∃ (n : Int) (u v : Value) (ts : List SpanV) (ms : List Int), e = .returned (.tuple #[.int .i64 n, u, v]) ∧ 2 ≤ n ∧ n ≤ 15 ∧ trainsOk n ts = true ∧ ms.length ≤ 100 ∧ (∃ g c, v = .slice (some ⟨g, 0, none⟩) ms.length c) ∧
      w'.ownsRow w.heap.size 34 2 u ts.length (flatSpans ts) ∧ w'.ownsRow w.heap.size 3 1 v ms.length (ms.map (Value.int .i64)) ∧ Below w.heap.size w w' := by
  go_enter Tryd.func6, Tryd.ntmps6
  go_wp2_with fail
  refine (cnew a cap zs _ hz hl).mono ?_
  rintro e w1 ⟨cb, rfl, hcb, C1, HB1⟩
  go_wp2_with fail
  refine (cbelow cb cap a zs 14 _ C1 hl (by omega) (by omega)).mono ?_
  rintro e w2 ⟨x, rfl, x0, x1, C2, G2⟩
  have HB2 : Below w.heap.size w w2 := HB1.grown G2 HB1.size (fun k hk => by cases hk; omega)
  clear HB1 C1 G2
  go_wp2_with fail
  refine (cDrawTrains cb cap a zs (2 + x) _ C2 hl (by omega) (by omega)).mono ?_
  rintro e w3 ⟨u, ts, rfl, ht, O3, C3, G3⟩
  have HB3 : Below w.heap.size w w3 := HB2.grown G3 HB2.size (fun k hk => by cases hk; omega)
  have O3' := Go.Joins.ownsRow_le O3 HB2.size
  have hcb3 := C2.lt (.inl rfl)
  have hfar : ∀ k, u.ownBlock = some k → some k ≠ some cb := fun k hk e => by have := own_from O3 (Nat.le_refl _) k hk; cases e; omega
  clear HB2 C2 G3 O3
  go_wp2_with fail
  refine (cDrawMoves cb cap a zs _ C3 hl).mono ?_
  rintro e w4 ⟨v, ms, rfl, hms, hvs, O4, C4, G4⟩
  have HB4 : Below w.heap.size w w4 := HB3.grown G4 HB3.size (fun k hk => by cases hk; omega)
  have O3 := own_far O3' G4 hfar
  have O4' := Go.Joins.ownsRow_le O4 HB3.size
  clear HB3 C3 G4 C4 O4 O3' hfar
  generalize hN : 2 + x = N at *
  have h2 : 2 ≤ N := by omega
  have h15 : N ≤ 15 := by omega
  go_wp2
  go_ret3
  refine ⟨N, u, v, ?_⟩
  exact ⟨ts, ms, rfl, h2, h15, ht, hms, hvs, O3, O4', HB4⟩

theorem fold_shift (n y : Int) (ms : List Int) : ∀ (s : List SpanV) (c : Int), ms.foldl (stepD n y) (s, c) = ((ms.foldl (stepD n y) (s, 0)).1, c + (ms.foldl (stepD n y) (s, 0)).2) := by
  induction ms with
  | nil => intro s c; simp
  | cons m ms ih =>
    intro s c
    rw [List.foldl_cons, List.foldl_cons]
    have e : ∀ c, stepD n y (s, c) m = ((mv n y s m).getD s, c + if (mv n y s m).isSome = true then 0 else 1) := fun _ => rfl
    rw [e c, e 0, ih _ (c + _), ih _ (0 + _)]
    simp only [Prod.mk.injEq, true_and]
    omega
theorem drive_split (n y : Int) (ts : List SpanV) (ms : List Int) (k : Nat) : driveTo n y ts ms ms.length = ((driveTo n y (driveTo n y ts (ms.take k) (ms.take k).length).1 (ms.drop k) (ms.drop k).length).1, (driveTo n y ts (ms.take k) (ms.take k).length).2 + (driveTo n y (driveTo n y ts (ms.take k) (ms.take k).length).1 (ms.drop k) (ms.drop k).length).2) := by
  unfold driveTo
  rw [List.take_length, List.take_length, List.take_length]
  have e : ms.foldl (stepD n y) (ts, 0) = (ms.drop k).foldl (stepD n y) ((ms.take k).foldl (stepD n y) (ts, 0)) := by rw [← List.foldl_append, List.take_append_drop]
  rw [e]
  generalize (ms.take k).foldl (stepD n y) (ts, 0) = p
  obtain ⟨s, c⟩ := p
  exact fold_shift n y _ s c
def Mono (ts ts' : List SpanV) : Prop := ts'.length = ts.length ∧ ∀ i, rAt ts i ≤ rAt ts' i ∧ fAt ts i ≤ fAt ts' i
theorem Mono.refl (ts : List SpanV) : Mono ts ts := ⟨rfl, fun _ => ⟨Int.le_refl _, Int.le_refl _⟩⟩
theorem Mono.trans {a b c : List SpanV} (h : Mono a b) (g : Mono b c) : Mono a c := ⟨g.1.trans h.1, fun i => ⟨Int.le_trans (h.2 i).1 (g.2 i).1, Int.le_trans (h.2 i).2 (g.2 i).2⟩⟩
theorem set_mono {ts : List SpanV} {q : Nat} (hq : q < ts.length) {r f : Int} (h1 : rAt ts q ≤ r) (h2 : fAt ts q ≤ f) : Mono ts (ts.set q ⟨r, f⟩) := by
  refine ⟨by simp, fun i => ?_⟩
  unfold rAt fAt at *
  rw [getD_set]
  by_cases e : q = i
  · subst e
    rw [if_pos ⟨rfl, hq⟩]
    exact ⟨h1, h2⟩
  · rw [if_neg (fun x => e x.1)]
    exact ⟨Int.le_refl _, Int.le_refl _⟩
theorem mv_len {n y : Int} {ts ts' : List SpanV} {m : Int} (hf : mv n y ts m = some ts') : ts'.length ≤ ts.length := by
  unfold mv at hf
  split at hf
  · cases hf
  · split at hf
    · unfold fwd at hf
      split at hf
      · cases hf
        unfold moved
        split
        · rw [List.length_take]; omega
        · simp
      · cases hf
    · unfold shr at hf
      split at hf
      · cases hf
        unfold drawn
        simp
      · cases hf
theorem mv_mono {n : Int} {ts ts' : List SpanV} {m : Int} (hf : mv n 0 ts m = some ts') : Mono ts ts' := by
  unfold mv at hf
  split at hf
  · cases hf
  · split at hf
    · unfold fwd at hf
      split at hf
      · rename_i hc
        obtain ⟨q, hq, hql⟩ := place_of hc.1
        rw [hq, Int.toNat_natCast] at hf hc
        cases hf
        unfold moved
        split
        · rename_i hn
          exact absurd (ahead_end (y := 0) (by omega) (by omega) hn) hc.2.2
        · exact set_mono hql (Int.le_refl _) (by omega)
      · cases hf
    · unfold shr at hf
      split at hf
      · rename_i hc
        obtain ⟨q, hq, hql⟩ := place_of hc.1
        rw [hq, Int.toNat_natCast] at hf
        cases hf
        exact set_mono hql (by omega) (Int.le_refl _)
      · cases hf
theorem foldl_len {n y : Int} (ms : List Int) : ∀ s : List SpanV × Int, (ms.foldl (stepD n y) s).1.length ≤ s.1.length := by
  induction ms with
  | nil => intro s; simp
  | cons m ms ih =>
    intro s
    refine Nat.le_trans (ih _) ?_
    unfold stepD
    cases hm : mv n y s.1 m with
    | none => exact Nat.le_refl _
    | some t => exact mv_len hm
theorem foldl_mono {n : Int} (ms : List Int) : ∀ s : List SpanV × Int, Mono s.1 (ms.foldl (stepD n 0) s).1 := by
  induction ms with
  | nil => intro s; exact Mono.refl _
  | cons m ms ih =>
    intro s
    refine Mono.trans ?_ (ih _)
    unfold stepD
    cases hm : mv n 0 s.1 m with
    | none => exact Mono.refl _
    | some t => exact mv_mono hm
end Go.Proofs.YtcfapadcgboalaaDoor
