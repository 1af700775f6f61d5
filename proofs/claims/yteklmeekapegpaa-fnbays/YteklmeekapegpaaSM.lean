/- The model's assignment: what meets, and the mathematics of its search. -/
import Derived.Test.YteklmeekapegpaaSO
namespace Go.Proofs.Yteklmeekapegpaa
open Go.RowKit

def meetB (s t : StayV) (g : Int) : Bool := holdsB s g t.f || holdsB t g s.f
set_option maxHeartbeats 800000 in
theorem cMeet (s t : StayV) (g : Int) (w : World) (h1 : s.t ≤ 100000) (h0 : 0 ≤ s.t) (k1 : t.t ≤ 100000) (k0 : 0 ≤ t.t) (g0 : 1 ≤ g) (g1 : g ≤ 60) : Calls Try.prog 52 #[s.val, t.val, .int .i64 g] w fun e w' => e = .returned (.bool (meetB s t g)) ∧ Below w.heap.size w w' := by
  have C1 := fun V => cHolds s g t.f V h1 h0 g0 g1
  have C2 := fun V => cHolds t g s.f V k1 k0 g0 g1
  have E : Hid (meetB s t g = (holdsB s g t.f || holdsB t g s.f)) := rfl
  obtain ⟨f, u, l⟩ := s
  obtain ⟨f', u', l'⟩ := t
  unfold StayV.val at *
  dsimp only at *
  have hb1 := btrans (balloc w (.cells #[.int .i64 f, .int .i64 u, .int .i64 l] 37)) (balloc _ (.cells #[.int .i64 f', .int .i64 u', .int .i64 l'] 37))
  have B0 := (Bx3p.new w (.int .i64 f) (.int .i64 u) (.int .i64 l) 37).below (balloc _ (.cells #[.int .i64 f', .int .i64 u', .int .i64 l'] 37))
  have B1 := Bx3p.new1 w (.cells #[.int .i64 f, .int .i64 u, .int .i64 l] 37) (.int .i64 f') (.int .i64 u') (.int .i64 l') 37
  go_enter Try.func52, Try.ntmps52
  go_wp2_with fail
  refine (C1 _).mono ?_
  rintro e w1 ⟨rfl, hb⟩
  replace hb1 := btrans hb1 hb
  obtain ⟨a0, a1, a2⟩ := B0.below hb
  obtain ⟨c0, c1, c2⟩ := B1.below hb
  clear B0 B1 hb
  cases hh : holdsB ⟨f, u, l⟩ g f'
  · have R := hide (show meetB ⟨f, u, l⟩ ⟨f', u', l'⟩ g = holdsB ⟨f', u', l'⟩ g f by rw [E.out, hh]; rfl)
    clear E hh
    go_wp2_with fail
    refine (C2 _).mono ?_
    rintro e w2 ⟨rfl, hb⟩
    replace hb1 := btrans hb1 hb
    go_wp2
    go_ret
    exact ⟨ret_bool R.out.symm, hb1⟩
  · have R := hide (show meetB ⟨f, u, l⟩ ⟨f', u', l'⟩ g = true by rw [E.out, hh]; rfl)
    clear E hh
    go_wp2
    go_ret
    exact ⟨ret_bool R.out.symm, hb1⟩

/-- Of two stays of which one comes ahead: they meet just when that one still holds its bay. -/
theorem meet_before {ss : List StayV} {g : Int} {k i : Nat} (hg : 1 ≤ g) (hk : fA ss k ≤ tA ss k) (hb : before ss k i) : meetB (ss.getD i StayV.zero) (ss.getD k StayV.zero) g = true ↔ fA ss i < tA ss k + g := by
  unfold before fA at hb
  unfold fA tA at hk
  unfold meetB fA tA holdsB inB
  simp only [Bool.or_eq_true, decide_eq_true_eq]
  omega
def ordA (os : List Nat) (k : Nat) : Nat := os.getD k 0
theorem ordA_mem {os : List Nat} {k : Nat} (hk : k < os.length) : ordA os k ∈ os := getD_mem hk
theorem ordA_ne {os : List Nat} (hn : os.Nodup) {i j : Nat} (hi : i < os.length) (hj : j < os.length) (hij : i ≠ j) : ordA os i ≠ ordA os j := nodup_ne hn hi hj hij
theorem ordA_before {ss : List StayV} {os : List Nat} (h : IsOrder ss os) {i j : Nat} (hij : i < j) (hj : j < os.length) : before ss (ordA os i) (ordA os j) := by
  have := List.pairwise_iff_getElem.1 h.sorted i j (by omega) hj hij
  simpa [ordA, List.getD, hj, show i < os.length by omega] using this
theorem ordA_all {ss : List StayV} {os : List Nat} (h : IsOrder ss os) (hl : os.length = ss.length) {k : Nat} (hk : k < ss.length) : ∃ i, i < os.length ∧ ordA os i = k := by
  have hm : k ∈ os := by
    refine Classical.byContradiction fun hn => ?_
    have := sub_len (l1 := k :: os) (l2 := List.range ss.length) (List.nodup_cons.2 ⟨hn, h.nodup⟩) (fun x hx => by
      rcases List.mem_cons.1 hx with rfl | hx
      · exact List.mem_range.2 hk
      · exact List.mem_range.2 (h.low x hx))
    simp only [List.length_cons, List.length_range] at this
    omega
  obtain ⟨i, hi, e⟩ := List.mem_iff_getElem.1 hm
  exact ⟨i, hi, by simpa [ordA, List.getD, hi] using e⟩
theorem before_ord {ss : List StayV} {os : List Nat} (h : IsOrder ss os) (hl : os.length = ss.length) {k i : Nat} (hi : i < os.length) (hk : k < ss.length) : before ss k (ordA os i) ↔ ∃ j, j < i ∧ ordA os j = k := by
  constructor
  · intro hb
    obtain ⟨j, hj, rfl⟩ := ordA_all h hl hk
    refine ⟨j, ?_, rfl⟩
    rcases Nat.lt_trichotomy j i with h' | h' | h'
    · exact h'
    · subst h'; exact absurd hb (before_irrefl _)
    · exact absurd (before_trans hb (ordA_before h h' hj)) (before_irrefl _)
  · rintro ⟨j, hj, rfl⟩
    exact ordA_before h hj hi
/-- The list behind the first i stays of the order. -/
structure OInv (zs : List Int) (ss : List StayV) (g : Int) (os : List Nat) (i : Nat) (ls : List Int) : Prop where
  len : ls.length = ss.length
  done : ∀ k, k < i → AssignAt zs ss g (fun x => ls.getD x 0) (ordA os k)
  todo : ∀ k, i ≤ k → k < os.length → ls.getD (ordA os k) 0 = -1
/-- What is found among the bays from b on. -/
def PickTo (zs : List Int) (ss : List StayV) (g : Int) (A : Nat → Int) (s b : Nat) (v : Int) : Prop :=
  (∃ b' : Nat, b ≤ b' ∧ CanHave zs ss g A s b' ∧ (∀ b'', b ≤ b'' → b'' < b' → ¬ CanHave zs ss g A s b'') ∧ v = b') ∨ ((∀ b', b ≤ b' → ¬ CanHave zs ss g A s b') ∧ v = -1)
theorem PickTo.start (zs : List Int) (ss : List StayV) (g : Int) (A : Nat → Int) (s : Nat) : PickTo zs ss g A s zs.length (-1) := .inr ⟨fun b' hb h => by have := h.1; omega, rfl⟩
theorem PickTo.yes {zs : List Int} {ss : List StayV} {g : Int} {A : Nat → Int} {s b : Nat} {v : Int} (_h : PickTo zs ss g A s (b + 1) v) (hc : CanHave zs ss g A s b) : PickTo zs ss g A s b b := .inl ⟨b, Nat.le_refl _, hc, fun b'' h1 h2 => by omega, rfl⟩
theorem PickTo.no {zs : List Int} {ss : List StayV} {g : Int} {A : Nat → Int} {s b : Nat} {v : Int} (h : PickTo zs ss g A s (b + 1) v) (hc : ¬ CanHave zs ss g A s b) : PickTo zs ss g A s b v := by
  rcases h with ⟨b', h1, h2, h3, h4⟩ | ⟨h1, h2⟩
  · refine .inl ⟨b', by omega, h2, fun b'' h5 h6 => ?_, h4⟩
    by_cases e : b'' = b
    · subst e; exact hc
    · exact h3 b'' (by omega) h6
  · refine .inr ⟨fun b' hb' => ?_, h2⟩
    by_cases e : b' = b
    · subst e; exact hc
    · exact h1 b' (by omega)
theorem PickTo.at {zs : List Int} {ss : List StayV} {g : Int} {A : Nat → Int} {s : Nat} {v : Int} (h : PickTo zs ss g A s 0 v) (e : A s = v) : AssignAt zs ss g A s := by
  rcases h with ⟨b', _, h2, h3, h4⟩ | ⟨h1, h2⟩
  · exact .inl ⟨b', h2, fun b'' hb => h3 b'' (Nat.zero_le _) hb, e.trans h4⟩
  · exact .inr ⟨fun b' => h1 b' (Nat.zero_le _), e.trans h2⟩
/-- A change of the list at s itself leaves what s could have. -/
theorem canHave_set {zs : List Int} {ss : List StayV} {g : Int} {ls : List Int} {s b : Nat} {v : Int} : CanHave zs ss g (fun x => (ls.set s v).getD x 0) s b ↔ CanHave zs ss g (fun x => ls.getD x 0) s b :=
  canHave_congr (fun k _ hb => getD_set_ne ls (fun e => by subst e; exact before_irrefl _ hb) v)
theorem OInv.step {zs : List Int} {ss : List StayV} {g : Int} {os : List Nat} {i : Nat} {ls : List Int} {v : Int} (h : OInv zs ss g os i ls) (ho : IsOrder ss os) (hl : os.length = ss.length) (hi : i < os.length) (hp : PickTo zs ss g (fun x => ls.getD x 0) (ordA os i) 0 v) : OInv zs ss g os (i + 1) (ls.set (ordA os i) v) := by
  have hs : ordA os i < ls.length := by rw [h.len]; exact ho.low _ (ordA_mem hi)
  have hA : AssignAt zs ss g (fun x => (ls.set (ordA os i) v).getD x 0) (ordA os i) := by
    refine PickTo.at (v := v) ?_ (getD_set_same ls hs v)
    rcases hp with ⟨b', h1, h2, h3, h4⟩ | ⟨h1, h2⟩
    · exact .inl ⟨b', h1, canHave_set.2 h2, fun b'' h5 h6 hx => h3 b'' h5 h6 (canHave_set.1 hx), h4⟩
    · exact .inr ⟨fun b' hb' hx => h1 b' hb' (canHave_set.1 hx), h2⟩
  refine ⟨by rw [List.length_set, h.len], fun k hk => ?_, fun k hk1 hk2 => ?_⟩
  · by_cases e : k = i
    · subst e; exact hA
    · have hki : k < i := by omega
      refine assignAt_congr (fun k' hk' hb' => (getD_set_ne ls (fun e' => ?_) v).symm) (getD_set_ne ls (ordA_ne ho.nodup hi (by omega) (by omega)) v).symm (h.done k hki)
      rw [← e'] at hb'
      exact before_irrefl _ (before_trans hb' (ordA_before ho hki hi))
  · rw [getD_set_ne ls (ordA_ne ho.nodup hi hk2 (by omega))]
    exact h.todo k (by omega) hk2
theorem OInv.fin {zs : List Int} {ss : List StayV} {g : Int} {os : List Nat} {ls : List Int} (h : OInv zs ss g os os.length ls) (ho : IsOrder ss os) (hl : os.length = ss.length) : IsAssign zs ss g (fun x => ls.getD x 0) := by
  intro i hi
  obtain ⟨k, hk, rfl⟩ := ordA_all ho hl hi
  exact h.done k hk
/-- Bay b is free for s as far as the first k of the order tell. -/
def FreeTo (zs : List Int) (ss : List StayV) (g : Int) (os : List Nat) (ls : List Int) (s b k : Nat) : Bool :=
  decide (lenA ss s ≤ zs.getD b 0) && (List.range k).all (fun j => !(decide (ls.getD (ordA os j) 0 = (b : Int)) && meetB (ss.getD s StayV.zero) (ss.getD (ordA os j) StayV.zero) g))
theorem FreeTo_succ (zs : List Int) (ss : List StayV) (g : Int) (os : List Nat) (ls : List Int) (s b k : Nat) : FreeTo zs ss g os ls s b (k + 1) = (FreeTo zs ss g os ls s b k && !(decide (ls.getD (ordA os k) 0 = (b : Int)) && meetB (ss.getD s StayV.zero) (ss.getD (ordA os k) StayV.zero) g)) := by
  unfold FreeTo
  rw [List.range_succ, List.all_append, Bool.and_assoc]
  simp
theorem FreeTo_can {zs : List Int} {ss : List StayV} {g : Int} {os : List Nat} {ls ls' : List Int} {i b : Nat} (ho : IsOrder ss os) (hl : os.length = ss.length) (hg : 1 ≤ g) (hF : Fine ss ss.length) (hi : i < os.length) (hb : b < zs.length) (he : ∀ j, j < i → ls'.getD (ordA os j) 0 = ls.getD (ordA os j) 0) : FreeTo zs ss g os ls' (ordA os i) b i = true ↔ CanHave zs ss g (fun x => ls.getD x 0) (ordA os i) b := by
  unfold FreeTo CanHave
  simp only [Bool.and_eq_true, decide_eq_true_eq, List.all_eq_true, List.mem_range, Bool.not_eq_true', Bool.and_eq_false_iff, decide_eq_false_iff_not]
  constructor
  · rintro ⟨h1, h2⟩
    refine ⟨hb, h1, fun k hk hbk e => ?_⟩
    obtain ⟨j, hj, rfl⟩ := (before_ord ho hl hi hk).1 hbk
    rcases h2 j hj with h | h
    · exact absurd ((he j hj).trans e) h
    · have := mt (meet_before hg (hF _ hk) hbk).2 (by rw [h]; simp)
      omega
  · rintro ⟨_, h1, h2⟩
    refine ⟨h1, fun j hj => ?_⟩
    have hbk := ordA_before ho hj hi
    have hk := ho.low _ (ordA_mem (os := os) (k := j) (by omega))
    by_cases e : ls'.getD (ordA os j) 0 = (b : Int)
    · right
      have := h2 _ hk hbk ((he j hj).symm.trans e)
      cases hm : meetB (ss.getD (ordA os i) StayV.zero) (ss.getD (ordA os j) StayV.zero) g
      · rfl
      · have := (meet_before hg (hF _ hk) hbk).1 hm
        omega
    · exact .inl e
end Go.Proofs.Yteklmeekapegpaa
