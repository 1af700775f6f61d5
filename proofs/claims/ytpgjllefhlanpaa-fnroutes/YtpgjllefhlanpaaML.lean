/- What ops keep: a right locking stays right, and only a request moves points, none of them under a taken block. -/
import Derived.Test.YtpgjllefhlanpaaMA
namespace Go.Proofs.Ytpgjllefhlanpaa

theorem getD_in {α : Type} {l : List α} {i : Nat} {d : α} (h : i < l.length) : l.getD i d = l[i] := by simp [List.getD, h]
theorem getD_out {α : Type} {l : List α} {i : Nat} {d : α} (h : l.length ≤ i) : l.getD i d = d := by simp [List.getD, h]
theorem set_get {α : Type} {l : List α} {i j : Nat} {v d : α} : (l.set i v).getD j d = if i = j ∧ j < l.length then v else l.getD j d := by
  by_cases h : i = j
  · subst h
    by_cases h2 : i < l.length
    · simp [List.getD, h2]
    · simp [List.getD, h2]
  · simp [List.getD, List.getElem?_set_ne h, h]

/-! Needs: points that ascend. -/
theorem needsGo_gt {n : Int} : ∀ {next : Int} {es : List NeedV}, needsGo n next es = true → ∀ e ∈ es, next ≤ e.point
  | next, [], _, e, he => by simp at he
  | next, x :: es, h, e, he => by
    simp only [needsGo, Bool.and_eq_true] at h
    obtain ⟨⟨ha, hb⟩, hc⟩ := h
    have a := inB_true ha
    rcases List.mem_cons.1 he with rfl | he
    · exact a.1
    · have := needsGo_gt hc e he; omega
theorem needsGo_inj {n : Int} : ∀ {next : Int} {es : List NeedV}, needsGo n next es = true → ∀ e ∈ es, ∀ f ∈ es, e.point = f.point → e = f
  | next, [], _, e, he, _, _, _ => by simp at he
  | next, x :: es, h, e, he, f, hf, hp => by
    simp only [needsGo, Bool.and_eq_true] at h
    obtain ⟨⟨ha, hb⟩, hc⟩ := h
    have g := needsGo_gt hc
    rcases List.mem_cons.1 he with he1 | he1 <;> rcases List.mem_cons.1 hf with hf1 | hf1
    · rw [he1, hf1]
    · have := g f hf1; rw [he1] at hp; omega
    · have := g e he1; rw [hf1] at hp; omega
    · exact needsGo_inj hc e he1 f hf1 hp
theorem throwAll_none {es : List NeedV} : ∀ {ps : List Int} {i : Nat}, (∀ e ∈ es, e.point.toNat ≠ i) → (throwAll ps es).getD i 0 = ps.getD i 0 := by
  induction es with
  | nil => intro ps i _; rfl
  | cons e es ih =>
    intro ps i h
    show (throwAll (ps.set e.point.toNat e.pos) es).getD i 0 = _
    rw [ih (fun f hf => h f (List.mem_cons_of_mem _ hf)), set_get, if_neg (fun hh => h e (List.mem_cons_self ..) hh.1)]
theorem throwAll_at {n : Int} {es : List NeedV} : ∀ {next : Int} {ps : List Int} {e : NeedV}, needsGo n next es = true → 0 ≤ next → e ∈ es → e.point.toNat < ps.length → (throwAll ps es).getD e.point.toNat 0 = e.pos := by
  induction es with
  | nil => intro next ps e _ _ he; simp at he
  | cons x es ih =>
    intro next ps e h h0 he hl
    show (throwAll (ps.set x.point.toNat x.pos) es).getD e.point.toNat 0 = _
    simp only [needsGo, Bool.and_eq_true] at h
    obtain ⟨⟨ha, hb⟩, hc⟩ := h
    have a := inB_true ha
    rcases List.mem_cons.1 he with rfl | he
    · have g := needsGo_gt hc
      rw [throwAll_none (fun f hf => by have := g f hf; omega), set_get, if_pos ⟨rfl, hl⟩]
    · exact ih hc (by omega) he (by simpa using hl)

/-- A right locking. -/
structure Lk (p : PlantV) (l : LockV) : Prop where
  ok : plantOk p = true
  fit : Fits p l
  bits : ∀ i, i < l.pos.length → 0 ≤ l.pos.getD i 0 ∧ l.pos.getD i 0 ≤ 1
  sets : ∀ r, r < l.set.length → l.set.getD r false = true → barred p l r = false ∧ laid p l r = true
theorem lk_iff {p : PlantV} {l : LockV} : lockOk p l = true ↔ Lk p l := by
  constructor
  · intro h
    have hf := lock_fits h
    simp only [lockOk, Bool.and_eq_true, List.all_eq_true, List.mem_range, Bool.or_eq_true, Bool.not_eq_true'] at h
    obtain ⟨⟨⟨h1, h2⟩, h3⟩, h4⟩ := h
    refine ⟨h1, hf, fun i hi => ?_, fun r hr hs => ?_⟩
    · rw [getD_in hi]; exact inB_true (h3 _ (List.getElem_mem hi))
    · rcases h4 r hr with h | h
      · rw [hs] at h; cases h
      · exact h
  · intro h
    simp only [lockOk, Bool.and_eq_true, List.all_eq_true, List.mem_range, Bool.or_eq_true, Bool.not_eq_true']
    refine ⟨⟨⟨h.ok, ?_⟩, fun x hx => ?_⟩, fun r hr => ?_⟩
    · simp only [fits, Bool.and_eq_true, decide_eq_true_eq]; exact ⟨⟨h.fit.pos, h.fit.set⟩, h.fit.taken⟩
    · obtain ⟨i, hi, rfl⟩ := List.mem_iff_getElem.1 hx
      have := h.bits i hi
      rw [getD_in hi] at this
      exact inB_yes this.1 this.2
    · cases hs : l.set.getD r false
      · exact .inl rfl
      · exact .inr (h.sets r hr hs)
theorem barred_iff {p : PlantV} {l : LockV} {r : Nat} : barred p l r = true ↔ ∃ o, o < l.set.length ∧ l.set.getD o false = true ∧ o ≠ r ∧ clash (p.route o) (p.route r) = true := by
  simp only [barred, List.any_eq_true, List.mem_range, Bool.and_eq_true, Bool.not_eq_true', decide_eq_false_iff_not]
  constructor
  · rintro ⟨o, h1, ⟨h2, h3⟩, h4⟩; exact ⟨o, h1, h2, h3, h4⟩
  · rintro ⟨o, h1, h2, h3, h4⟩; exact ⟨o, h1, ⟨h2, h3⟩, h4⟩
theorem laid_iff {p : PlantV} {l : LockV} {r : Nat} : laid p l r = true ↔ ∀ n ∈ (p.route r).needs, l.pos.getD n.point.toNat 0 = n.pos := by
  simp [laid, List.all_eq_true]
theorem not_true {b : Bool} : b = false ↔ ¬ b = true := by cases b <;> simp
theorem Right.goes {p : PlantV} (h : Right p) {r : Nat} (hr : r < p.routes.length) : needsGo p.under.length 0 (p.route r).needs = true := by
  have := h.route hr
  simp only [routeOk, Bool.and_eq_true] at this
  exact this.1
theorem Right.path {p : PlantV} (h : Right p) {r : Nat} (hr : r < p.routes.length) : pathOk p.blocks (p.route r).blocks = true := by
  have := h.route hr
  simp only [routeOk, Bool.and_eq_true] at this
  exact this.2
/-- What a route that is set puts in place. -/
theorem setRoute_pos {p : PlantV} {l : LockV} {r : Nat} (hf : Fits p l) (hr : r < p.routes.length) (i : Nat) :
    ((∃ n ∈ (p.route r).needs, n.point.toNat = i ∧ (throwAll l.pos (p.route r).needs).getD i 0 = n.pos)) ∨ ((∀ n ∈ (p.route r).needs, n.point.toNat ≠ i) ∧ (throwAll l.pos (p.route r).needs).getD i 0 = l.pos.getD i 0) := by
  by_cases h : ∃ n ∈ (p.route r).needs, n.point.toNat = i
  · obtain ⟨n, h1, h2⟩ := h
    have hb := hf.ok.need hr h1
    have := throwAll_at (ps := l.pos) (hf.ok.goes hr) (Int.le_refl _) h1 (by rw [hf.pos]; omega)
    rw [h2] at this
    exact .inl ⟨n, h1, h2, this⟩
  · have h' : ∀ n ∈ (p.route r).needs, n.point.toNat ≠ i := fun n hn e => h ⟨n, hn, e⟩
    exact .inr ⟨h', throwAll_none h'⟩
theorem not_apart {a b : RouteV} (h : clash a b = false) {n m : NeedV} (hn : n ∈ a.needs) (hm : m ∈ b.needs) (hp : n.point = m.point) : n.pos = m.pos := by
  by_cases e : n.pos = m.pos
  · exact e
  · exfalso
    have : clash a b = true := by
      simp only [clash, apart, Bool.or_eq_true, List.any_eq_true, Bool.and_eq_true, decide_eq_true_eq, Bool.not_eq_true', decide_eq_false_iff_not]
      exact .inr ⟨n, hn, m, hm, hp, e⟩
    rw [h] at this; cases this
theorem Lk.req {p : PlantV} {l : LockV} {r : Nat} (h : Lk p l) (hr : r < p.routes.length) (hb : barred p l r = false) : Lk p (setRoute p l (r : Int)) := by
  have e : ((r : Int)).toNat = r := by omega
  have hf := h.fit
  have hg : ∀ o, (l.set.set r true).getD o false = true → o = r ∨ (o ≠ r ∧ l.set.getD o false = true) := by
    intro o ho
    by_cases eo : o = r
    · exact .inl eo
    · rw [set_get, if_neg (by omega)] at ho; exact .inr ⟨eo, ho⟩
  unfold setRoute
  rw [e]
  refine ⟨h.ok, ⟨hf.ok, ?_, ?_, hf.taken⟩, ?_, ?_⟩
  · dsimp only; rw [throwAll_len]; exact hf.pos
  · dsimp only; rw [List.length_set]; exact hf.set
  · intro i hi
    dsimp only at *
    rw [throwAll_len] at hi
    rcases setRoute_pos hf hr i with ⟨n, h1, h2, h3⟩ | ⟨_, h3⟩
    · rw [h3]; exact (hf.ok.need hr h1).2.2
    · rw [h3]; exact h.bits i hi
  · intro o ho hs
    dsimp only at *
    rw [List.length_set] at ho
    have key : ∀ o', o' < l.set.length → (l.set.set r true).getD o' false = true → o' ≠ o → clash (p.route o') (p.route o) = false := by
      intro o' ho' hs' hne
      rw [not_true]
      intro hc
      rcases hg o' hs' with rfl | ⟨n1, s1⟩
      · rcases hg o hs with rfl | ⟨n2, s2⟩
        · exact hne rfl
        · have : barred p l o' = true := barred_iff.2 ⟨o, ho, s2, n2, by rw [clash_comm]; exact hc⟩
          rw [hb] at this; cases this
      · rcases hg o hs with rfl | ⟨n2, s2⟩
        · have : barred p l o = true := barred_iff.2 ⟨o', ho', s1, hne, hc⟩
          rw [hb] at this; cases this
        · have : barred p l o = true := barred_iff.2 ⟨o', ho', s1, hne, hc⟩
          rw [(h.sets o ho s2).1] at this; cases this
    constructor
    · rw [not_true]
      intro hx
      obtain ⟨o', h1, h2, h3, h4⟩ := barred_iff.1 hx
      dsimp only at *
      rw [List.length_set] at h1
      rw [key o' h1 h2 h3] at h4; cases h4
    · rw [laid_iff]
      dsimp only
      intro n hn
      have ho2 : o < p.routes.length := by rw [← hf.set]; exact ho
      have hbn := hf.ok.need ho2 hn
      rcases setRoute_pos hf hr n.point.toNat with ⟨k, h1, h2, h3⟩ | ⟨hx, h3⟩
      · rw [h3]
        have hbk := hf.ok.need hr h1
        rcases hg o hs with rfl | ⟨n2, s2⟩
        · have := needsGo_inj (hf.ok.goes hr) k h1 n hn (by omega)
          rw [this]
        · have hc := key r (by rw [hf.set]; exact hr) (by rw [set_get, if_pos ⟨rfl, by rw [hf.set]; exact hr⟩]) (Ne.symm n2)
          exact not_apart hc h1 hn (by omega)
      · rw [h3]
        rcases hg o hs with rfl | ⟨n2, s2⟩
        · exact absurd rfl (hx n hn)
        · exact laid_iff.1 (h.sets o ho s2).2 n hn
theorem Lk.taken {p : PlantV} {l : LockV} (h : Lk p l) (b : Int) (t : Bool) : Lk p (withTaken l b t) := by
  refine ⟨h.ok, ⟨h.fit.ok, h.fit.pos, h.fit.set, ?_⟩, h.bits, h.sets⟩
  unfold withTaken; dsimp only; rw [List.length_set]; exact h.fit.taken
theorem Lk.unset {p : PlantV} {l : LockV} (h : Lk p l) (r : Int) : Lk p (unsetRoute l r) := by
  refine ⟨h.ok, ⟨h.fit.ok, h.fit.pos, ?_, h.fit.taken⟩, h.bits, fun o ho hs => ?_⟩
  · unfold unsetRoute; dsimp only; rw [List.length_set]; exact h.fit.set
  · unfold unsetRoute at *
    dsimp only at *
    rw [List.length_set] at ho
    rw [set_get] at hs
    by_cases e : r.toNat = o ∧ o < l.set.length
    · rw [if_pos e] at hs; cases hs
    · rw [if_neg e] at hs
      obtain ⟨h1, h2⟩ := h.sets o ho hs
      refine ⟨?_, h2⟩
      rw [not_true]
      intro hx
      obtain ⟨o', a1, a2, a3, a4⟩ := barred_iff.1 hx
      dsimp only at *
      rw [List.length_set] at a1
      rw [set_get] at a2
      by_cases e' : r.toNat = o' ∧ o' < l.set.length
      · rw [if_pos e'] at a2; cases a2
      · rw [if_neg e'] at a2
        have : barred p l o = true := barred_iff.2 ⟨o', a1, a2, a3, a4⟩
        rw [h1] at this; cases this
theorem isRoute_nat {p : PlantV} {x : Int} (h : isRoute p x = true) : 0 ≤ x ∧ x.toNat < p.routes.length := by
  have := inB_true h; omega
theorem reqC_zero {p : PlantV} {l : LockV} {x : Int} (h : reqC p l x = 0) : lockOk p l = true ∧ isRoute p x = true ∧ l.set.getD x.toNat false = false ∧ barred p l x.toNat = false ∧ held p l x.toNat = false ∧ stuck p l x.toNat = false := by
  unfold reqC at h
  cases h1 : (lockOk p l && isRoute p x)
  · simp [h1] at h
  · simp only [h1, Bool.not_true, cond_false] at h
    cases h2 : l.set.getD x.toNat false
    · simp only [h2, cond_false] at h
      cases h3 : barred p l x.toNat
      · simp only [h3, cond_false] at h
        cases h4 : held p l x.toNat
        · simp only [h4, cond_false] at h
          cases h5 : stuck p l x.toNat
          · simp only [Bool.and_eq_true] at h1; exact ⟨h1.1, h1.2, rfl, rfl, rfl, rfl⟩
          · simp [h5] at h
        · simp [h4] at h
      · simp [h3] at h
    · rw [h2] at h; simp at h
theorem Lk.op {p : PlantV} {l : LockV} (h : Lk p l) (k : OpK) (x : Int) : Lk p (opL k p l x) := by
  cases k with
  | req =>
    show Lk p (reqL p l x)
    unfold reqL
    by_cases hc : reqC p l x = 0
    · rw [decide_eq_true hc]
      obtain ⟨_, h2, _, h4, _, _⟩ := reqC_zero hc
      have := isRoute_nat h2
      obtain ⟨r, rfl⟩ : ∃ r : Nat, x = r := ⟨x.toNat, by omega⟩
      have e : ((r : Int)).toNat = r := by omega
      rw [e] at h4 this
      exact h.req this.2 h4
    · rw [decide_eq_false hc]; exact h
  | occ =>
    show Lk p (occL p l x)
    unfold occL
    cases decide (occC p l x = 0)
    · exact h
    · exact h.taken _ _
  | vac =>
    show Lk p (vacL p l x)
    unfold vacL
    cases decide (vacC p l x = 0)
    · exact h
    · exact h.taken _ _
  | wd =>
    show Lk p (wdL p l x)
    unfold wdL
    cases decide (wdC p l x = 0)
    · exact h
    · exact h.unset _
  | none => exact h
theorem opL_same {p : PlantV} {l : LockV} {k : OpK} {x : Int} (h : opC k p l x ≠ 0) : opL k p l x = l := by
  cases k with
  | req => show reqL p l x = l; unfold reqL; rw [decide_eq_false (show ¬ reqC p l x = 0 from h)]; rfl
  | occ => show occL p l x = l; unfold occL; rw [decide_eq_false (show ¬ occC p l x = 0 from h)]; rfl
  | vac => show vacL p l x = l; unfold vacL; rw [decide_eq_false (show ¬ vacC p l x = 0 from h)]; rfl
  | wd => show wdL p l x = l; unfold wdL; rw [decide_eq_false (show ¬ wdC p l x = 0 from h)]; rfl
  | none => rfl
/-- Only a request moves a point, and none that lies under a taken block. -/
theorem op_moves {p : PlantV} {l : LockV} (h : Lk p l) {k : OpK} {x : Int} {i : Nat} (hm : (opL k p l x).pos.getD i 0 ≠ l.pos.getD i 0) : k = .req ∧ l.taken.getD (p.under.getD i 0).toNat false = false := by
  cases k with
  | req =>
    refine ⟨rfl, ?_⟩
    by_cases hc : reqC p l x = 0
    · obtain ⟨_, h2, _, _, _, h6⟩ := reqC_zero hc
      have hr := isRoute_nat h2
      have hm' : (throwAll l.pos (p.route x.toNat).needs).getD i 0 ≠ l.pos.getD i 0 := by
        have : (opL .req p l x).pos = throwAll l.pos (p.route x.toNat).needs := by
          show (reqL p l x).pos = _
          unfold reqL; rw [decide_eq_true hc]; rfl
        rwa [this] at hm
      rcases setRoute_pos h.fit hr.2 i with ⟨n, h1, h2', h3⟩ | ⟨_, h3⟩
      · rw [h3] at hm'
        rw [not_true]
        intro ht
        have : stuck p l x.toNat = true := by
          simp only [stuck, List.any_eq_true, Bool.and_eq_true, Bool.not_eq_true', decide_eq_false_iff_not]
          exact ⟨n, h1, by rw [h2']; exact fun e => hm' e.symm, by rw [h2']; exact ht⟩
        rw [h6] at this; cases this
      · exact absurd h3 hm'
    · rw [opL_same (k := .req) hc] at hm; exact absurd rfl hm
  | occ =>
    exfalso; apply hm
    show (occL p l x).pos.getD i 0 = _
    unfold occL; cases decide (occC p l x = 0) <;> rfl
  | vac =>
    exfalso; apply hm
    show (vacL p l x).pos.getD i 0 = _
    unfold vacL; cases decide (vacC p l x = 0) <;> rfl
  | wd =>
    exfalso; apply hm
    show (wdL p l x).pos.getD i 0 = _
    unfold wdL; cases decide (wdC p l x = 0) <;> rfl
  | none => exact absurd rfl hm
theorem rep_get {α : Type} {n i : Nat} {v d : α} : (List.replicate n v).getD i d = if i < n then v else d := by
  by_cases h : i < n
  · simp [List.getD, h]
  · simp [List.getD, h]
theorem Lk.bare {p : PlantV} (h : plantOk p = true) : Lk p (bareOf p) := by
  have hr := right_of h
  refine ⟨h, ⟨hr, by simp [bareOf], by simp [bareOf], ?_⟩, fun i hi => ?_, fun r hr hs => ?_⟩
  · simp only [bareOf, List.length_replicate]; have := hr.b1; omega
  · simp only [bareOf]; rw [rep_get]; by_cases e : i < p.under.length <;> simp [e]
  · simp only [bareOf] at hs; rw [rep_get] at hs; by_cases e : r < p.routes.length <;> simp [e] at hs
theorem Lk.run {p : PlantV} : ∀ {os : List OpV} {l : LockV}, Lk p l → Lk p (runL p l os)
  | [], _, h => h
  | o :: os, _, h => Lk.run (os := os) (h.op (kindOf o.kind) o.what)
theorem codes_at {p : PlantV} : ∀ {os : List OpV} {l : LockV} {i : Nat}, i < os.length → (codesL p l os).getD i 0 = stepC p (runL p l (os.take i)) (os.getD i OpV.zero)
  | [], _, _, h => by simp at h
  | o :: os, l, 0, _ => by simp [codesL, runL, List.getD]
  | o :: os, l, i + 1, h => by
    have ih := codes_at (p := p) (os := os) (l := stepL p l o) (i := i) (by simpa using h)
    simpa [codesL, runL, List.getD] using ih
theorem run_step {p : PlantV} {os : List OpV} {l : LockV} {i : Nat} (h : i < os.length) : runL p l (os.take (i + 1)) = stepL p (runL p l (os.take i)) (os.getD i OpV.zero) := by
  rw [List.take_succ_eq_append_getElem h, runL_snoc, getD_in h]
end Go.Proofs.Ytpgjllefhlanpaa
