/- Journeys leg by leg: the search tells the first of those with the fewest legs. -/
import Derived.Test.YtajeiiebddnchaaGreatDoorLP
namespace Go.Proofs.YtajeiiebddnchaaGreatDoor
open Go.RowKit
abbrev Lg := Nat × Nat × Nat
def lgLt (x y : Lg) : Prop := x.1 < y.1 ∨ (x.1 = y.1 ∧ (x.2.1 < y.2.1 ∨ (x.2.1 = y.2.1 ∧ x.2.2 < y.2.2)))
theorem lgLt_irr (x : Lg) : ¬ lgLt x x := by unfold lgLt; omega
theorem lgLt_trans {x y z : Lg} (h : lgLt x y) (g : lgLt y z) : lgLt x z := by unfold lgLt at *; omega
theorem lg_ext {x y : Lg} (h1 : x.1 = y.1) (h2 : x.2.1 = y.2.1) (h3 : x.2.2 = y.2.2) : x = y := by
  obtain ⟨a, b, c⟩ := x; obtain ⟨d, e, f⟩ := y; simp_all
theorem lgLt_tri (x y : Lg) : lgLt x y ∨ x = y ∨ lgLt y x := by
  by_cases h : lgLt x y
  · exact .inl h
  · by_cases g : lgLt y x
    · exact .inr (.inr g)
    · exact .inr (.inl (lg_ext (by unfold lgLt at *; omega) (by unfold lgLt at *; omega) (by unfold lgLt at *; omega)))
/-- Lists of legs, compared leg by leg. -/
def lsLt : List Lg → List Lg → Prop
  | x :: xs, y :: ys => lgLt x y ∨ (x = y ∧ lsLt xs ys)
  | _, _ => False
theorem lsLt_irr : ∀ (xs : List Lg), ¬ lsLt xs xs
  | [] => fun h => h
  | x :: xs => fun h => h.elim (lgLt_irr x) (fun g => lsLt_irr xs g.2)
theorem lsLt_trans : ∀ {xs ys zs : List Lg}, lsLt xs ys → lsLt ys zs → lsLt xs zs
  | x :: xs, y :: ys, z :: zs, h, g => by
    rcases h with h | ⟨rfl, h⟩ <;> rcases g with g | ⟨rfl, g⟩
    · exact .inl (lgLt_trans h g)
    · exact .inl h
    · exact .inl g
    · exact .inr ⟨rfl, lsLt_trans h g⟩
  | [], _, _, h, _ => absurd h (by simp [lsLt])
  | _ :: _, [], _, h, _ => absurd h (by simp [lsLt])
  | _ :: _, _ :: _, [], _, g => absurd g (by simp [lsLt])
theorem lsLt_app : ∀ {xs ys : List Lg} (x y : Lg), lsLt xs ys → lsLt (xs ++ [x]) (ys ++ [y])
  | a :: xs, b :: ys, x, y, h => h.elim .inl (fun g => .inr ⟨g.1, lsLt_app x y g.2⟩)
  | [], _, _, _, h => absurd h (by simp [lsLt])
  | _ :: _, [], _, _, h => absurd h (by simp [lsLt])
theorem lsLt_snoc : ∀ {xs : List Lg} {x y : Lg}, lgLt x y → lsLt (xs ++ [x]) (xs ++ [y])
  | [], _, _, h => .inl h
  | _ :: _, _, _, h => .inr ⟨rfl, lsLt_snoc h⟩
def lsLe (xs ys : List Lg) : Prop := xs = ys ∨ lsLt xs ys
theorem lsLe_anti {xs ys : List Lg} (h : lsLe xs ys) (g : lsLe ys xs) : xs = ys := by
  rcases h with h | h
  · exact h
  · rcases g with g | g
    · exact g.symm
    · exact absurd (lsLt_trans h g) (lsLt_irr _)
/-- A leg leads from a node, left at r or later, to q. -/
def Leads (ts : List TripV) (r n : Int) (x : Lg) (q : Qn) : Prop := LegIn ts x.1 x.2.1 x.2.2 ∧ (hcA ts x.1 x.2.1).n = n ∧ r ≤ (hcA ts x.1 x.2.1).d ∧ (hcA ts x.1 x.2.2).n = q.n ∧ (hcA ts x.1 x.2.2).a = q.m
theorem Leads.nxt {ts : List TripV} {r n : Int} {x : Lg} {q : Qn} (h : Leads ts r n x q) : Nxt ts r n q := ⟨_, _, _, h⟩
theorem nxt_leads {ts : List TripV} {r n : Int} {q : Qn} (h : Nxt ts r n q) : ∃ x, Leads ts r n x q := by
  obtain ⟨i, k, l, h⟩ := h; exact ⟨(i, k, l), h⟩
theorem Leads.uniq {ts : List TripV} {r n r' n' : Int} {x : Lg} {q q' : Qn} (h : Leads ts r n x q) (g : Leads ts r' n' x q') : q = q' := by
  obtain ⟨_, _, _, h1, h2⟩ := h; obtain ⟨_, _, _, g1, g2⟩ := g
  cases q; cases q'; simp_all
/-- Legs that lead from p to q. -/
def Pt (ts : List TripV) (s : Qn) (ch : Int) : Qn → List Lg → Qn → Prop
  | p, [], q => p = q
  | p, x :: xs, q => ∃ p', Leads ts (rdy s ch p) p.n x p' ∧ Pt ts s ch p' xs q
theorem pt_snoc {ts : List TripV} {s : Qn} {ch : Int} {x : Lg} {q : Qn} : ∀ (xs : List Lg) (p : Qn), Pt ts s ch p (xs ++ [x]) q ↔ ∃ p', Pt ts s ch p xs p' ∧ Leads ts (rdy s ch p') p'.n x q
  | [], p => by
    constructor
    · rintro ⟨p', h, rfl⟩; exact ⟨p, rfl, h⟩
    · rintro ⟨p', rfl, h⟩; exact ⟨q, h, rfl⟩
  | y :: ys, p => by
    constructor
    · rintro ⟨p', h, g⟩
      obtain ⟨p2, g1, g2⟩ := (pt_snoc ys p').1 g
      exact ⟨p2, ⟨p', h, g1⟩, g2⟩
    · rintro ⟨p2, ⟨p', h, g1⟩, g2⟩
      exact ⟨p', h, (pt_snoc ys p').2 ⟨p2, g1, g2⟩⟩
theorem pt_uniq {ts : List TripV} {s : Qn} {ch : Int} {q q' : Qn} : ∀ {xs : List Lg} {p : Qn}, Pt ts s ch p xs q → Pt ts s ch p xs q' → q = q'
  | [], _, h, g => h.symm.trans g
  | _ :: _, _, ⟨_, h1, h2⟩, ⟨_, g1, g2⟩ => by have := h1.uniq g1; subst this; exact pt_uniq h2 g2
theorem pt_jr {ts : List TripV} {s : Qn} {ch : Int} : ∀ (n : Nat) (xs : List Lg) (q : Qn), xs.length = n → Pt ts s ch s xs q → Jr ts s ch n q := by
  intro n
  induction n with
  | zero => intro xs q hl h; rw [List.length_eq_zero_iff] at hl; subst hl; exact h.symm
  | succ n ih =>
    intro xs q hl h
    obtain ⟨ys, y, rfl⟩ : ∃ ys y, xs = ys ++ [y] := by
      cases hx : xs.reverse with
      | nil => rw [List.reverse_eq_nil_iff] at hx; subst hx; simp at hl
      | cons y r => exact ⟨r.reverse, y, by have := congrArg List.reverse hx; simpa using this⟩
    obtain ⟨p, h1, h2⟩ := (pt_snoc ys s).1 h
    exact .inr ⟨p, ih ys p (by simpa using hl) h1, h2.nxt⟩
theorem jr_pt {ts : List TripV} {s : Qn} {ch : Int} : ∀ (n : Nat) (q : Qn), Jr ts s ch n q → ∃ xs : List Lg, xs.length ≤ n ∧ Pt ts s ch s xs q := by
  intro n
  induction n with
  | zero => intro q h; exact ⟨[], Nat.le_refl _, h.symm⟩
  | succ n ih =>
    intro q h
    rcases h with h | ⟨p, h, g⟩
    · obtain ⟨xs, h1, h2⟩ := ih q h; exact ⟨xs, by omega, h2⟩
    · obtain ⟨xs, h1, h2⟩ := ih p h
      obtain ⟨x, hx⟩ := nxt_leads g
      exact ⟨xs ++ [x], by simp; omega, (pt_snoc xs s).2 ⟨p, h2, hx⟩⟩
theorem legs_leads {ts : List TripV} {n r : Int} {q : Qn} {x : Lg} : Leads ts r n x q ↔ x ∈ legsF ts (depsOf ts (wantB n r)) ∧ ∀ lv par pa, (recOf ts lv par pa x).q = q := by
  unfold legsF
  obtain ⟨i, k, l⟩ := x
  constructor
  · rintro ⟨⟨h0, h1, h2⟩, h3, h4, h5, h6⟩
    simp only at h0 h1 h2 h3 h4 h5 h6
    refine ⟨List.mem_flatMap.2 ⟨(i, k), mem_deps.2 ⟨h0, by show k + 1 < ncA ts i; omega, by simp [wantB, h3, h4]⟩, mem_legAll.2 ⟨l, h1, h2, rfl⟩⟩, fun lv par pa => ?_⟩
    cases q
    simp only [recOf, Rec.q]
    exact congr (congrArg Qn.mk h5) h6
  · rintro ⟨hx, hq⟩
    obtain ⟨d, hd, hx⟩ := List.mem_flatMap.1 hx
    obtain ⟨l', h1, h2, e⟩ := mem_legAll.1 hx
    simp only [Prod.mk.injEq] at e
    obtain ⟨rfl, rfl, rfl⟩ := e
    obtain ⟨g1, g2, g3⟩ := mem_deps.1 hd
    have e := hq 0 0 []
    simp only [wantB, Bool.and_eq_true, decide_eq_true_eq] at g3
    exact ⟨⟨g1, h1, h2⟩, g3.1, g3.2, by rw [← e]; rfl, by rw [← e]; rfl⟩
theorem pairwise_flatMap {α β : Type} {R : β → β → Prop} {f : α → List β} : ∀ {l : List α}, (∀ a ∈ l, (f a).Pairwise R) → l.Pairwise (fun a b => ∀ x ∈ f a, ∀ y ∈ f b, R x y) → (l.flatMap f).Pairwise R
  | [], _, _ => by simp
  | a :: l, h1, h2 => by
    rw [List.pairwise_cons] at h2
    rw [List.flatMap_cons, List.pairwise_append]
    refine ⟨h1 a List.mem_cons_self, pairwise_flatMap (fun b hb => h1 b (List.mem_cons_of_mem _ hb)) h2.2, fun x hx y hy => ?_⟩
    obtain ⟨b, hb, hy⟩ := List.mem_flatMap.1 hy
    exact h2.1 b hb x hx y hy
theorem legs_asc (ts : List TripV) (wn : HaltV → Bool) : (legsF ts (depsOf ts wn)).Pairwise lgLt := by
  unfold legsF
  refine pairwise_flatMap (fun d _ => ?_) ?_
  · unfold legAll
    rw [List.pairwise_map]
    exact (List.pairwise_lt_range').imp (fun h => .inr ⟨rfl, .inr ⟨rfl, h⟩⟩)
  · have hd : (depsOf ts wn).Pairwise (fun a b => a.1 < b.1 ∨ (a.1 = b.1 ∧ a.2 < b.2)) := by
      unfold depsOf
      refine pairwise_flatMap (fun i _ => ?_) ?_
      · rw [List.pairwise_map]
        exact ((List.pairwise_lt_range).filter _).imp (fun h => .inr ⟨rfl, h⟩)
      · refine (List.pairwise_lt_range).imp (fun h x hx y hy => ?_)
        obtain ⟨_, _, rfl⟩ := List.mem_map.1 hx
        obtain ⟨_, _, rfl⟩ := List.mem_map.1 hy
        exact .inl h
    refine hd.imp (fun h x hx y hy => ?_)
    obtain ⟨l, _, _, rfl⟩ := mem_legAll.1 hx
    obtain ⟨l', _, _, rfl⟩ := mem_legAll.1 hy
    rcases h with h | ⟨h1, h2⟩
    · exact .inl h
    · exact .inr ⟨h1, .inl h2⟩
/-- What adding brings, where the legs come in their order. -/
theorem addF_asc (ts : List TripV) (lv par : Nat) (pa : List Lg) (xs : List Lg) : ∀ (R : List Rec), xs.Pairwise lgLt → ∃ ys : List Lg, addF ts lv par pa R xs = R ++ ys.map (recOf ts lv par pa) ∧ ys.Pairwise lgLt ∧ (∀ y ∈ ys, y ∈ xs) ∧
    (∀ y ∈ ys, hasQ R (recOf ts lv par pa y).q = false) ∧ (∀ y ∈ ys, ∀ x ∈ xs, (recOf ts lv par pa x).q = (recOf ts lv par pa y).q → x = y ∨ lgLt y x) := by
  induction xs with
  | nil => intro R _; exact ⟨[], by simp [addF_nil], by simp, by simp, by simp, by simp⟩
  | cons x xs ih =>
    intro R hp
    rw [List.pairwise_cons] at hp
    have e : addF ts lv par pa R (x :: xs) = addF ts lv par pa (askF R (recOf ts lv par pa x)) xs := rfl
    by_cases hq : hasQ R (recOf ts lv par pa x).q = true
    · have ea : askF R (recOf ts lv par pa x) = R := by unfold askF; rw [if_pos hq]
      rw [e, ea]
      obtain ⟨ys, h1, h2, h3, h4, h5⟩ := ih R hp.2
      refine ⟨ys, h1, h2, fun y hy => List.mem_cons_of_mem _ (h3 y hy), h4, fun y hy x' hx' hqq => ?_⟩
      rcases List.mem_cons.1 hx' with rfl | hx'
      · have := h4 y hy; rw [← hqq, hq] at this; cases this
      · exact h5 y hy x' hx' hqq
    · have ea : askF R (recOf ts lv par pa x) = R ++ [recOf ts lv par pa x] := by unfold askF; rw [if_neg hq]
      rw [e, ea]
      obtain ⟨ys, h1, h2, h3, h4, h5⟩ := ih (R ++ [recOf ts lv par pa x]) hp.2
      have h4' : ∀ y ∈ ys, hasQ R (recOf ts lv par pa y).q = false ∧ (recOf ts lv par pa x).q ≠ (recOf ts lv par pa y).q := fun y hy => by
        have := h4 y hy
        simp only [hasQ, List.any_append, List.any_cons, List.any_nil, Bool.or_false, Bool.or_eq_false_iff, decide_eq_false_iff_not] at this
        exact ⟨this.1, this.2⟩
      refine ⟨x :: ys, by rw [h1]; simp, by rw [List.pairwise_cons]; exact ⟨fun y hy => hp.1 y (h3 y hy), h2⟩, fun y hy => ?_, fun y hy => ?_, fun y hy x' hx' hqq => ?_⟩
      · rcases List.mem_cons.1 hy with rfl | hy
        · exact List.mem_cons_self
        · exact List.mem_cons_of_mem _ (h3 y hy)
      · rcases List.mem_cons.1 hy with rfl | hy
        · simpa using hq
        · exact (h4' y hy).1
      · rcases List.mem_cons.1 hy with e4 | hy2
        · rcases List.mem_cons.1 hx' with e3 | hx2
          · exact .inl (e3.trans e4.symm)
          · exact .inr (by rw [e4]; exact hp.1 x' hx2)
        · rcases List.mem_cons.1 hx' with e3 | hx2
          · exact absurd (by rw [← e3]; exact hqq) (h4' y hy2).2
          · exact h5 y hy2 x' hx2 hqq
/-- The journeys of the search: in their order, and each the first of those with as few legs. -/
structure Bx (ts : List TripV) (s : Qn) (ch : Int) (hops : Nat) (R : List Rec) (i : Nat) : Prop where
  pth : ∀ r ∈ R, Pt ts s ch s r.pa r.q ∧ r.pa.length = r.lv
  ord : ∀ a b, a < b → b < R.length → (R.getD a Rec.zero).lv = (R.getD b Rec.zero).lv → lsLt (R.getD a Rec.zero).pa (R.getD b Rec.zero).pa
  lnk : ∀ j, 0 < j → j < R.length → (R.getD j Rec.zero).par < i ∧ (R.getD j Rec.zero).par < j ∧ (R.getD j Rec.zero).lv = (R.getD (R.getD j Rec.zero).par Rec.zero).lv + 1 ∧ (R.getD j Rec.zero).pa = (R.getD (R.getD j Rec.zero).par Rec.zero).pa ++ [((R.getD j Rec.zero).t, (R.getD j Rec.zero).k, (R.getD j Rec.zero).l)]
  fst : ∀ j, 0 < j → j < R.length → ∀ x, Leads ts (rdy s ch (R.getD (R.getD j Rec.zero).par Rec.zero).q) (R.getD (R.getD j Rec.zero).par Rec.zero).n x (R.getD j Rec.zero).q → x = ((R.getD j Rec.zero).t, (R.getD j Rec.zero).k, (R.getD j Rec.zero).l) ∨ lgLt ((R.getD j Rec.zero).t, (R.getD j Rec.zero).k, (R.getD j Rec.zero).l) x
  cl2 : ∀ a, a < i → (R.getD a Rec.zero).lv < hops → ∀ q, Nxt ts (rdy s ch (R.getD a Rec.zero).q) (R.getD a Rec.zero).n q → ∃ j, j < R.length ∧ (R.getD j Rec.zero).q = q ∧ (j = 0 ∨ (R.getD j Rec.zero).par ≤ a)
theorem bx_start (ts : List TripV) (s : Qn) (ch : Int) (hops : Nat) : Bx ts s ch hops [startR s] 0 where
  pth := by intro r hr; simp only [List.mem_singleton] at hr; subst hr; exact ⟨rfl, rfl⟩
  ord := by intro a b h1 h2; simp at h2; omega
  lnk := by intro j h1 h2; simp at h2; omega
  fst := by intro j h1 h2; simp at h2; omega
  cl2 := by intro a h; omega
theorem bx_step {ts : List TripV} {s : Qn} {ch : Int} {hops : Nat} {R : List Rec} {i : Nat} (h : Bf ts s ch hops R i) (g : Bx ts s ch hops R i) (hi : i < R.length) : Bx ts s ch hops (stepF ts ch hops R i) (i + 1) := by
  unfold stepF
  split
  rotate_left
  · next hlv =>
    refine ⟨g.pth, g.ord, fun j h1 h2 => ?_, g.fst, fun a ha hl q hq => ?_⟩
    · obtain ⟨l1, l2, l3, l4⟩ := g.lnk j h1 h2; exact ⟨by omega, l2, l3, l4⟩
    · by_cases e : a = i
      · subst e; exact absurd hl hlv
      · exact g.cl2 a (by omega) hl q hq
  next hlv =>
  unfold goF
  have hrd := h.ready hi
  have hall := addF_spec ts ((R.getD i Rec.zero).lv + 1) i (R.getD i Rec.zero).pa (legsF ts (depsOf ts (wantB (R.getD i Rec.zero).n (rdyF ch i (R.getD i Rec.zero))))) R
  obtain ⟨ys, e, hp, hin, hno, hmin⟩ := addF_asc ts ((R.getD i Rec.zero).lv + 1) i (R.getD i Rec.zero).pa (legsF ts (depsOf ts (wantB (R.getD i Rec.zero).n (rdyF ch i (R.getD i Rec.zero))))) R (legs_asc ts _)
  obtain ⟨N, e', _, hcov, _⟩ := hall
  have hN : N = ys.map (recOf ts ((R.getD i Rec.zero).lv + 1) i (R.getD i Rec.zero).pa) := List.append_cancel_left (e'.symm.trans e)
  subst hN
  rw [e]
  generalize hr : recOf ts ((R.getD i Rec.zero).lv + 1) i (R.getD i Rec.zero).pa = rc at *
  have hrc : ∀ y, (rc y).lv = (R.getD i Rec.zero).lv + 1 ∧ (rc y).par = i ∧ (rc y).pa = (R.getD i Rec.zero).pa ++ [y] ∧ ((rc y).t, (rc y).k, (rc y).l) = y := fun y => by rw [← hr]; exact ⟨rfl, rfl, rfl, rfl⟩
  have hld : ∀ y ∈ ys, Leads ts (rdy s ch (R.getD i Rec.zero).q) (R.getD i Rec.zero).n y (rc y).q := fun y hy => by
    rw [← hrd]; exact legs_leads.2 ⟨hin y hy, fun lv par pa => by rw [← hr]; rfl⟩
  have hlen : (R ++ ys.map rc).length = R.length + ys.length := by simp
  have hnew : ∀ b, R.length ≤ b → b < (R ++ ys.map rc).length → ∃ y, y ∈ ys ∧ ys.getD (b - R.length) (0, 0, 0) = y ∧ (R ++ ys.map rc).getD b Rec.zero = rc y := fun b h1 h2 => by
    have hb : b - R.length < ys.length := by omega
    refine ⟨_, getD_mem hb, rfl, ?_⟩
    rw [getD_app_r h1]
    simp [List.getD, hb]
  have hpi : ∀ x ∈ R, Pt ts s ch s x.pa x.q ∧ x.pa.length = x.lv := g.pth
  have hpti := g.pth _ (getD_mem (d := Rec.zero) hi)
  refine ⟨fun r hr => ?_, fun a b h1 h2 h3 => ?_, fun j h1 h2 => ?_, fun j h1 h2 x hx => ?_, fun a ha hl q hq => ?_⟩
  · rcases List.mem_append.1 hr with hr | hr
    · exact g.pth r hr
    · obtain ⟨y, hy, rfl⟩ := List.mem_map.1 hr
      obtain ⟨c1, c2, c3, c4⟩ := hrc y
      rw [c1, c3]
      exact ⟨(pt_snoc _ _).2 ⟨_, hpti.1, hld y hy⟩, by rw [List.length_append, hpti.2]; rfl⟩
  · by_cases hb : b < R.length
    · rw [getD_app_l hb, getD_app_l (by omega)] at h3 ⊢
      exact g.ord a b h1 hb h3
    · obtain ⟨y, hy, ey, eb⟩ := hnew b (by omega) h2
      rw [eb] at h3 ⊢
      obtain ⟨c1, c2, c3, c4⟩ := hrc y
      rw [c1] at h3
      rw [c3]
      by_cases hb' : a < R.length
      · rw [getD_app_l hb'] at h3 ⊢
        have ha0 : 0 < a := by
          refine Nat.pos_of_ne_zero (fun e0 => ?_)
          subst e0
          rw [h.fst] at h3
          have : (startR s).lv = 0 := rfl
          omega
        obtain ⟨l1, l2, l3, l4⟩ := g.lnk a ha0 hb'
        rw [l4]
        exact lsLt_app _ _ (g.ord _ _ l1 hi (by omega))
      · obtain ⟨x, hx, ex, ea⟩ := hnew a (by omega) (by omega)
        rw [ea, (hrc x).2.2.1]
        refine lsLt_snoc ?_
        rw [← ex, ← ey]
        have := (List.pairwise_iff_getElem.1 hp) (a - R.length) (b - R.length) (by omega) (by omega) (by omega)
        simpa [List.getD, show a - R.length < ys.length by omega, show b - R.length < ys.length by omega] using this
  · by_cases hb : j < R.length
    · obtain ⟨l1, l2, l3, l4⟩ := g.lnk j h1 hb
      rw [getD_app_l hb, getD_app_l (by omega)]
      exact ⟨by omega, l2, l3, l4⟩
    · obtain ⟨y, hy, ey, eb⟩ := hnew j (by omega) h2
      obtain ⟨c1, c2, c3, c4⟩ := hrc y
      rw [eb, c1, c2, c3, c4, getD_app_l hi]
      exact ⟨by omega, by omega, rfl, rfl⟩
  · by_cases hb : j < R.length
    · obtain ⟨l1, l2, l3, l4⟩ := g.lnk j h1 hb
      rw [getD_app_l hb, getD_app_l (by omega)] at hx
      rw [getD_app_l hb]
      exact g.fst j h1 hb x hx
    · obtain ⟨y, hy, ey, eb⟩ := hnew j (by omega) h2
      obtain ⟨c1, c2, c3, c4⟩ := hrc y
      rw [eb, c2, getD_app_l hi] at hx
      rw [eb, c4]
      rw [← hrd] at hx
      obtain ⟨hx1, hx2⟩ := legs_leads.1 hx
      exact hmin y hy x hx1 (by rw [← hr] at hx2 ⊢; exact hx2 _ _ _)
  · by_cases e0 : a = i
    · subst e0
      rw [getD_app_l hi] at hl hq
      obtain ⟨x, hx⟩ := nxt_leads hq
      rw [← hrd] at hx
      obtain ⟨hx1, hx2⟩ := legs_leads.1 hx
      obtain ⟨r, hr1, hr2⟩ := hcov x hx1
      obtain ⟨j, hj, ej⟩ := mem_getD (d := Rec.zero) hr1
      have hq2 : r.q = q := hr2.trans (by rw [← hr]; exact hx2 _ _ _)
      refine ⟨j, hj, by rw [ej]; exact hq2, ?_⟩
      by_cases hb : j < R.length
      · by_cases hj0 : j = 0
        · exact .inl hj0
        · right
          rw [getD_app_l hb]
          have := (g.lnk j (by omega) hb).1
          omega
      · obtain ⟨y, hy, ey, eb⟩ := hnew j (by omega) hj
        exact .inr (by rw [eb, (hrc y).2.1]; exact Nat.le_refl _)
    · rw [getD_app_l (by omega)] at hl hq
      obtain ⟨j, hj, ej, hc⟩ := g.cl2 a (by omega) hl q hq
      exact ⟨j, by omega, by rw [getD_app_l hj]; exact ej, by rw [getD_app_l hj]; exact hc⟩
theorem Bx.least {ts : List TripV} {s : Qn} {ch : Int} {hops : Nat} {R : List Rec} (h : Bf ts s ch hops R R.length) (g : Bx ts s ch hops R R.length) : ∀ (n j : Nat), j < R.length → (R.getD j Rec.zero).lv = n → ∀ L : List Lg, L.length = n → Pt ts s ch s L (R.getD j Rec.zero).q → lsLe (R.getD j Rec.zero).pa L := by
  intro n
  induction n with
  | zero =>
    intro j hj hlv L hL hP
    rw [List.length_eq_zero_iff] at hL
    have := (g.pth _ (getD_mem (d := Rec.zero) hj)).2
    rw [hlv, List.length_eq_zero_iff] at this
    rw [this, hL]
    exact .inl rfl
  | succ n ih =>
    intro j hj hlv L hL hP
    obtain ⟨M, x, rfl⟩ : ∃ M x, L = M ++ [x] := by
      cases hx : L.reverse with
      | nil => rw [List.reverse_eq_nil_iff] at hx; subst hx; simp at hL
      | cons y r => exact ⟨r.reverse, y, by have := congrArg List.reverse hx; simpa using this⟩
    have hM : M.length = n := by simpa using hL
    obtain ⟨p, hp1, hp2⟩ := (pt_snoc M s).1 hP
    have hlh : (R.getD j Rec.zero).lv ≤ hops := (h.snd _ (getD_mem (d := Rec.zero) hj)).2
    obtain ⟨r, hr1, hr2, hr3⟩ := h.done n (by omega) p (pt_jr n M p hM hp1)
    obtain ⟨a, ha, ea⟩ := mem_getD (d := Rec.zero) hr1
    have hqa : (R.getD a Rec.zero).q = p := by rw [ea]; exact hr2
    have hna : (R.getD a Rec.zero).n = p.n := by rw [← hqa]; rfl
    have hla : (R.getD a Rec.zero).lv ≤ n := by rw [ea]; exact hr3
    have hnx : Nxt ts (rdy s ch (R.getD a Rec.zero).q) (R.getD a Rec.zero).n (R.getD j Rec.zero).q := by rw [hqa, hna]; exact hp2.nxt
    have hla2 : (R.getD a Rec.zero).lv = n := by
      obtain ⟨r', q1, q2, q3⟩ := h.cls a ha (by omega) _ hnx
      obtain ⟨j', hj', ej'⟩ := mem_getD (d := Rec.zero) q1
      have := nodup_q h.nd hj' hj (by rw [ej']; exact q2)
      subst this
      rw [ej'] at hlv
      omega
    obtain ⟨j', hj', ej', hc⟩ := g.cl2 a ha (by omega) _ hnx
    have := nodup_q h.nd hj' hj ej'
    subst this
    have hj0 : 0 < j' := by
      refine Nat.pos_of_ne_zero (fun e0 => ?_)
      subst e0
      rw [h.fst] at hlv
      have : (startR s).lv = 0 := rfl
      omega
    have hpa : (R.getD j' Rec.zero).par ≤ a := by rcases hc with hc | hc <;> omega
    obtain ⟨l1, l2, l3, l4⟩ := g.lnk j' hj0 hj
    have hIH := ih a ha hla2 M hM (by rw [hqa]; exact hp1)
    rw [l4]
    by_cases hlt : (R.getD j' Rec.zero).par < a
    · have ho := g.ord _ _ hlt ha (by omega)
      right
      refine lsLt_app _ _ ?_
      rcases hIH with e | e
      · rw [← e]; exact ho
      · exact lsLt_trans ho e
    · have e0 : (R.getD j' Rec.zero).par = a := by omega
      rw [e0]
      rcases hIH with e | e
      · rw [← e]
        have hf := g.fst j' hj0 hj x (by rw [e0, hqa, hna]; exact hp2)
        rcases hf with hf | hf
        · rw [hf]; exact .inl rfl
        · exact .inr (lsLt_snoc hf)
      · exact .inr (lsLt_app _ _ e)
/-- Of the journeys that come to q with the fewest legs the first. -/
def IsJn (ts : List TripV) (s : Qn) (ch : Int) (q : Qn) (L : List Lg) : Prop :=
  Pt ts s ch s L q ∧ (∀ L', Pt ts s ch s L' q → L.length ≤ L'.length) ∧ ∀ L', L'.length = L.length → Pt ts s ch s L' q → lsLe L L'
theorem IsJn.uniq {ts : List TripV} {s : Qn} {ch : Int} {q : Qn} {L L' : List Lg} (h : IsJn ts s ch q L) (g : IsJn ts s ch q L') : L = L' := by
  have h1 := h.2.1 L' g.1
  have h2 := g.2.1 L h.1
  exact lsLe_anti (h.2.2 L' (by omega) g.1) (g.2.2 L (by omega) h.1)
theorem bx_jn {ts : List TripV} {s : Qn} {ch : Int} {hops : Nat} {R : List Rec} (h : Bf ts s ch hops R R.length) (g : Bx ts s ch hops R R.length) {j : Nat} (hj : j < R.length) : IsJn ts s ch (R.getD j Rec.zero).q (R.getD j Rec.zero).pa := by
  have hp := g.pth _ (getD_mem (d := Rec.zero) hj)
  have hl := (h.snd _ (getD_mem (d := Rec.zero) hj)).2
  refine ⟨hp.1, fun L' hL => ?_, fun L' hL hP => g.least h _ j hj rfl L' (by rw [hL]; exact hp.2) hP⟩
  rw [hp.2]
  refine Classical.byContradiction fun hn => ?_
  obtain ⟨r, h1, h2, h3⟩ := h.done L'.length (by omega) _ (pt_jr _ L' _ rfl hL)
  obtain ⟨b, hb, eb⟩ := mem_getD (d := Rec.zero) h1
  have := nodup_q h.nd hb hj (by rw [eb]; exact h2)
  subst this
  rw [eb] at hn
  omega
end Go.Proofs.YtajeiiebddnchaaGreatDoor
