/- The program's search as a function on lists, and what it finds: all that journeys lead to. -/
import Derived.Test.YtajeiiebddnchaaGreatDoorLM
namespace Go.Proofs.YtajeiiebddnchaaGreatDoor
open Go.RowKit
/-- One stretch of the program's search: a leg, the node and the minute to which it comes, with how many legs, behind which stretch, and the whole journey. -/
structure Rec where
  t : Nat
  k : Nat
  l : Nat
  n : Int
  m : Int
  lv : Nat
  par : Nat
  pa : List (Nat × Nat × Nat)
  deriving DecidableEq
def Rec.q (r : Rec) : Qn := ⟨r.n, r.m⟩
def Rec.zero : Rec := ⟨0, 0, 0, 0, 0, 0, 0, []⟩
def hasQ (R : List Rec) (q : Qn) : Bool := R.any fun x => decide (x.q = q)
theorem hasQ_iff {R : List Rec} {q : Qn} : hasQ R q = true ↔ ∃ r ∈ R, r.q = q := by simp [hasQ]
def askF (R : List Rec) (r : Rec) : List Rec := if hasQ R r.q = true then R else R ++ [r]
def legAll (ts : List TripV) (i k : Nat) : List (Nat × Nat × Nat) := (List.range' (k + 1) (ncA ts i - (k + 1))).map fun l => (i, k, l)
/-- The departures from a node, at r or later. -/
def depsOf (ts : List TripV) (wn : HaltV → Bool) : List (Nat × Nat) := (List.range ts.length).flatMap fun i => ((List.range (ncA ts i - 1)).filter fun k => wn (hcA ts i k)).map fun k => (i, k)
def wantB (n r : Int) (c : HaltV) : Bool := decide (c.n = n) && decide (r ≤ c.d)
theorem mem_legAll {ts : List TripV} {i k : Nat} {x : Nat × Nat × Nat} : x ∈ legAll ts i k ↔ ∃ l, k < l ∧ l < ncA ts i ∧ x = (i, k, l) := by
  unfold legAll
  simp only [List.mem_map, List.mem_range'_1]
  constructor
  · rintro ⟨l, hl, rfl⟩; exact ⟨l, by omega, by omega, rfl⟩
  · rintro ⟨l, h1, h2, rfl⟩; exact ⟨l, by omega, rfl⟩
theorem mem_deps {ts : List TripV} {wn : HaltV → Bool} {d : Nat × Nat} : d ∈ depsOf ts wn ↔ d.1 < ts.length ∧ d.2 + 1 < ncA ts d.1 ∧ wn (hcA ts d.1 d.2) = true := by
  unfold depsOf
  simp only [List.mem_flatMap, List.mem_map, List.mem_filter, List.mem_range]
  constructor
  · rintro ⟨i, hi, k, ⟨hk, hw⟩, rfl⟩; exact ⟨hi, by show k + 1 < ncA ts i; omega, hw⟩
  · rintro ⟨h1, h2, h3⟩; exact ⟨d.1, h1, d.2, ⟨by omega, h3⟩, rfl⟩
/-- The legs of the departures ds, in their order. -/
def legsF (ts : List TripV) (ds : List (Nat × Nat)) : List (Nat × Nat × Nat) := ds.flatMap fun d => legAll ts d.1 d.2
def recOf (ts : List TripV) (lv par : Nat) (pa : List (Nat × Nat × Nat)) (x : Nat × Nat × Nat) : Rec := ⟨x.1, x.2.1, x.2.2, (hcA ts x.1 x.2.2).n, (hcA ts x.1 x.2.2).a, lv, par, pa ++ [x]⟩
def addF (ts : List TripV) (lv par : Nat) (pa : List (Nat × Nat × Nat)) (R : List Rec) (xs : List (Nat × Nat × Nat)) : List Rec := xs.foldl (fun R x => askF R (recOf ts lv par pa x)) R
def rdyF (ch : Int) (j : Nat) (r : Rec) : Int := if j = 0 then r.m else r.m + ch
/-- The search goes on from its stretch j. -/
def goF (ts : List TripV) (ch : Int) (R : List Rec) (j : Nat) : List Rec :=
  addF ts ((R.getD j Rec.zero).lv + 1) j (R.getD j Rec.zero).pa R (legsF ts (depsOf ts (wantB (R.getD j Rec.zero).n (rdyF ch j (R.getD j Rec.zero)))))
def stepF (ts : List TripV) (ch : Int) (hops : Nat) (R : List Rec) (j : Nat) : List Rec := if (R.getD j Rec.zero).lv < hops then goF ts ch R j else R
def startR (s : Qn) : Rec := ⟨0, 0, 0, s.n, s.m, 0, 0, []⟩
theorem addF_nil (ts : List TripV) (lv par : Nat) (pa : List (Nat × Nat × Nat)) (R : List Rec) : addF ts lv par pa R [] = R := rfl
theorem addF_app (ts : List TripV) (lv par : Nat) (pa : List (Nat × Nat × Nat)) (R : List Rec) (xs ys : List (Nat × Nat × Nat)) : addF ts lv par pa R (xs ++ ys) = addF ts lv par pa (addF ts lv par pa R xs) ys := by simp [addF]
theorem addF_one (ts : List TripV) (lv par : Nat) (pa : List (Nat × Nat × Nat)) (R : List Rec) (x : Nat × Nat × Nat) : addF ts lv par pa R [x] = askF R (recOf ts lv par pa x) := rfl
/-- What adding brings: new ones behind the old, each of those that were told, all of them there, none twice. -/
theorem addF_spec (ts : List TripV) (lv par : Nat) (pa : List (Nat × Nat × Nat)) (xs : List (Nat × Nat × Nat)) : ∀ (R : List Rec), ∃ N, addF ts lv par pa R xs = R ++ N ∧ (∀ r ∈ N, ∃ x ∈ xs, r = recOf ts lv par pa x) ∧
    (∀ x ∈ xs, ∃ r ∈ R ++ N, r.q = (recOf ts lv par pa x).q) ∧ ((R.map Rec.q).Nodup → ((R ++ N).map Rec.q).Nodup) := by
  induction xs with
  | nil => intro R; exact ⟨[], by simp [addF_nil], by simp, by simp, by simp⟩
  | cons x xs ih =>
    intro R
    have e : addF ts lv par pa R (x :: xs) = addF ts lv par pa (askF R (recOf ts lv par pa x)) xs := rfl
    by_cases hq : hasQ R (recOf ts lv par pa x).q = true
    · have ea : askF R (recOf ts lv par pa x) = R := by unfold askF; rw [if_pos hq]
      rw [e, ea]
      obtain ⟨N, h1, h2, h3, h4⟩ := ih R
      refine ⟨N, h1, fun r hr => ?_, fun y hy => ?_, h4⟩
      · obtain ⟨y, hy, e⟩ := h2 r hr; exact ⟨y, List.mem_cons_of_mem _ hy, e⟩
      · rcases List.mem_cons.1 hy with rfl | hy
        · obtain ⟨r, hr, e⟩ := hasQ_iff.1 hq; exact ⟨r, List.mem_append_left _ hr, e⟩
        · exact h3 y hy
    · have ea : askF R (recOf ts lv par pa x) = R ++ [recOf ts lv par pa x] := by unfold askF; rw [if_neg hq]
      rw [e, ea]
      obtain ⟨N, h1, h2, h3, h4⟩ := ih (R ++ [recOf ts lv par pa x])
      have e2 : R ++ [recOf ts lv par pa x] ++ N = R ++ (recOf ts lv par pa x :: N) := by simp
      rw [e2] at h1 h3 h4
      refine ⟨recOf ts lv par pa x :: N, h1, fun r hr => ?_, fun y hy => ?_, fun hn => h4 ?_⟩
      · rcases List.mem_cons.1 hr with rfl | hr
        · exact ⟨x, List.mem_cons_self, rfl⟩
        · obtain ⟨y, hy, e⟩ := h2 r hr; exact ⟨y, List.mem_cons_of_mem _ hy, e⟩
      · rcases List.mem_cons.1 hy with rfl | hy
        · exact ⟨recOf ts lv par pa y, by simp, rfl⟩
        · exact h3 y hy
      · rw [List.map_append, List.nodup_append]
        refine ⟨hn, by simp, fun a ha b hb => ?_⟩
        simp only [List.map_cons, List.map_nil, List.mem_singleton] at hb
        rintro rfl
        obtain ⟨r, hr, e⟩ := List.mem_map.1 ha
        exact hq (hasQ_iff.2 ⟨r, hr, e.trans hb⟩)
theorem legs_nxt {ts : List TripV} {n r : Int} {q : Qn} : Nxt ts r n q ↔ ∃ x ∈ legsF ts (depsOf ts (wantB n r)), ∀ lv par pa, (recOf ts lv par pa x).q = q := by
  unfold legsF
  constructor
  · rintro ⟨i, k, l, ⟨h0, h1, h2⟩, h3, h4, h5, h6⟩
    refine ⟨(i, k, l), List.mem_flatMap.2 ⟨(i, k), mem_deps.2 ⟨h0, by show k + 1 < ncA ts i; omega, by simp [wantB, h3, h4]⟩, mem_legAll.2 ⟨l, h1, h2, rfl⟩⟩, fun lv par pa => ?_⟩
    cases q
    simp only [recOf, Rec.q]
    exact congr (congrArg Qn.mk h5) h6
  · rintro ⟨x, hx, hq⟩
    obtain ⟨d, hd, hx⟩ := List.mem_flatMap.1 hx
    obtain ⟨l, h1, h2, rfl⟩ := mem_legAll.1 hx
    obtain ⟨g1, g2, g3⟩ := mem_deps.1 hd
    have e := hq 0 0 []
    simp only [wantB, Bool.and_eq_true, decide_eq_true_eq] at g3
    refine ⟨d.1, d.2, l, ⟨g1, h1, h2⟩, g3.1, g3.2, ?_, ?_⟩
    · rw [← e]; rfl
    · rw [← e]; rfl
/-- What stands when the first i stretches have been gone on from. -/
structure Bf (ts : List TripV) (s : Qn) (ch : Int) (hops : Nat) (R : List Rec) (i : Nat) : Prop where
  le : i ≤ R.length
  pos : 0 < R.length
  fst : R.getD 0 Rec.zero = startR s
  nd : (R.map Rec.q).Nodup
  snd : ∀ r ∈ R, Jr ts s ch r.lv r.q ∧ r.lv ≤ hops
  asc : ∀ a b, a ≤ b → b < R.length → (R.getD a Rec.zero).lv ≤ (R.getD b Rec.zero).lv
  top : ∀ b, b < R.length → i < R.length → (R.getD b Rec.zero).lv ≤ (R.getD i Rec.zero).lv + 1
  cls : ∀ j, j < i → (R.getD j Rec.zero).lv < hops → ∀ q, Nxt ts (rdy s ch (R.getD j Rec.zero).q) (R.getD j Rec.zero).n q → ∃ r ∈ R, r.q = q ∧ r.lv ≤ (R.getD j Rec.zero).lv + 1
  par : ∀ j, 0 < j → j < R.length → (R.getD j Rec.zero).par < j
theorem bf_start (ts : List TripV) (s : Qn) (ch : Int) (hops : Nat) : Bf ts s ch hops [startR s] 0 where
  le := Nat.zero_le _
  pos := by simp
  fst := rfl
  nd := by simp
  snd := by intro r hr; simp only [List.mem_singleton] at hr; subst hr; exact ⟨rfl, Nat.zero_le _⟩
  asc := by intro a b h1 h2; simp at h2; subst h2; simp at h1; subst h1; exact Nat.le_refl _
  top := by intro b h1 _; simp at h1; subst h1; exact Nat.le_succ _
  cls := by intro j hj; omega
  par := by intro j h1 h2; simp at h2; omega
theorem getD_app_l {α : Type} {A B : List α} {d : α} {j : Nat} (h : j < A.length) : (A ++ B).getD j d = A.getD j d := by simp [List.getD, List.getElem?_append_left h]
theorem getD_app_r {α : Type} {A B : List α} {d : α} {j : Nat} (h : A.length ≤ j) : (A ++ B).getD j d = B.getD (j - A.length) d := by simp [List.getD, List.getElem?_append_right h]
theorem getD_mem {α : Type} {A : List α} {d : α} {j : Nat} (h : j < A.length) : A.getD j d ∈ A := by simp [List.getD, h]
theorem mem_getD {α : Type} {A : List α} {d x : α} (h : x ∈ A) : ∃ j, j < A.length ∧ A.getD j d = x := by
  obtain ⟨j, hj, e⟩ := List.mem_iff_getElem.1 h
  exact ⟨j, hj, by simp [List.getD, hj, e]⟩
theorem nodup_q {R : List Rec} (hn : (R.map Rec.q).Nodup) {a b : Nat} (ha : a < R.length) (hb : b < R.length) (e : (R.getD a Rec.zero).q = (R.getD b Rec.zero).q) : a = b := by
  have h := List.getElem_inj (xs := R.map Rec.q) (i := a) (j := b) (h₀ := by simpa using ha) (h₁ := by simpa using hb) hn
  refine h.1 ?_
  simp only [List.getElem_map]
  simpa [List.getD, ha, hb] using e
theorem Bf.ready {ts : List TripV} {s : Qn} {ch : Int} {hops : Nat} {R : List Rec} {i : Nat} (h : Bf ts s ch hops R i) {j : Nat} (hj : j < R.length) : rdyF ch j (R.getD j Rec.zero) = rdy s ch (R.getD j Rec.zero).q := by
  unfold rdyF rdy
  have e0 : (R.getD 0 Rec.zero).q = s := by rw [h.fst]; rfl
  by_cases e : j = 0
  · subst e; rw [if_pos rfl, if_pos e0]; rfl
  · rw [if_neg e, if_neg (fun e2 => e (nodup_q h.nd hj h.pos (e2.trans e0.symm)))]; rfl
theorem bf_step {ts : List TripV} {s : Qn} {ch : Int} {hops : Nat} {R : List Rec} {i : Nat} (h : Bf ts s ch hops R i) (hi : i < R.length) : Bf ts s ch hops (stepF ts ch hops R i) (i + 1) := by
  unfold stepF
  split
  · next hlv =>
    unfold goF
    have hrd := h.ready hi
    obtain ⟨N, e, h2, h3, h4⟩ := addF_spec ts ((R.getD i Rec.zero).lv + 1) i (R.getD i Rec.zero).pa (legsF ts (depsOf ts (wantB (R.getD i Rec.zero).n (rdyF ch i (R.getD i Rec.zero))))) R
    rw [e]
    have hN : ∀ r ∈ N, r.lv = (R.getD i Rec.zero).lv + 1 ∧ r.par = i ∧ Nxt ts (rdy s ch (R.getD i Rec.zero).q) (R.getD i Rec.zero).n r.q := fun r hr => by
      obtain ⟨x, hx, rfl⟩ := h2 r hr
      exact ⟨rfl, rfl, legs_nxt.2 ⟨x, by rw [← hrd]; exact hx, fun _ _ _ => rfl⟩⟩
    have hlen : (R ++ N).length = R.length + N.length := by simp
    have hNd : ∀ b, R.length ≤ b → b < (R ++ N).length → (R ++ N).getD b Rec.zero ∈ N := fun b h1 h5 => by
      rw [getD_app_r h1]; exact getD_mem (by omega)
    refine ⟨by omega, by have := h.pos; omega, by rw [getD_app_l h.pos]; exact h.fst, h4 h.nd, fun r hr => ?_, fun a b h1 h5 => ?_, fun b h1 h5 => ?_, fun j hj hl q hq => ?_, fun j h1 h5 => ?_⟩
    · rcases List.mem_append.1 hr with hr | hr
      · exact h.snd r hr
      · obtain ⟨e1, _, e3⟩ := hN r hr
        rw [e1]
        have hs := (h.snd _ (getD_mem (d := Rec.zero) hi)).1
        exact ⟨.inr ⟨_, hs, e3⟩, hlv⟩
    · by_cases hb : b < R.length
      · rw [getD_app_l hb, getD_app_l (by omega)]; exact h.asc a b h1 hb
      · rw [(hN _ (hNd b (by omega) h5)).1]
        by_cases ha : a < R.length
        · rw [getD_app_l ha]; exact h.top a ha hi
        · rw [(hN _ (hNd a (by omega) (by omega))).1]; exact Nat.le_refl _
    · have h6 : (R.getD i Rec.zero).lv ≤ ((R ++ N).getD (i + 1) Rec.zero).lv := by
        by_cases h7 : i + 1 < R.length
        · rw [getD_app_l h7]; exact h.asc i (i + 1) (by omega) h7
        · rw [(hN _ (hNd _ (by omega) h5)).1]; omega
      by_cases hb : b < R.length
      · rw [getD_app_l hb]; have := h.top b hb hi; omega
      · rw [(hN _ (hNd b (by omega) h1)).1]; omega
    · rw [getD_app_l (by omega)] at hl hq ⊢
      by_cases e2 : j = i
      · subst e2
        obtain ⟨x, hx, hxq⟩ := legs_nxt.1 hq
        obtain ⟨r, hr, e3⟩ := h3 x (by rw [hrd]; exact hx)
        refine ⟨r, hr, e3.trans (hxq _ _ _), ?_⟩
        rcases List.mem_append.1 hr with hr | hr
        · obtain ⟨b, hb, e4⟩ := mem_getD (d := Rec.zero) hr
          rw [← e4]; exact h.top b hb hi
        · rw [(hN r hr).1]; exact Nat.le_refl _
      · obtain ⟨r, hr, e3, e4⟩ := h.cls j (by omega) hl q hq
        exact ⟨r, List.mem_append_left _ hr, e3, e4⟩
    · by_cases hb : j < R.length
      · rw [getD_app_l hb]; exact h.par j h1 hb
      · rw [(hN _ (hNd j (by omega) h5)).2.1]; omega
  · next hlv =>
    refine ⟨hi, h.pos, h.fst, h.nd, h.snd, h.asc, fun b h1 h5 => ?_, fun j hj hl q hq => ?_, h.par⟩
    · have := h.top b h1 hi; have := h.asc i (i + 1) (by omega) h5; omega
    · by_cases e2 : j = i
      · subst e2; exact absurd hl hlv
      · exact h.cls j (by omega) hl q hq
theorem Bf.done {ts : List TripV} {s : Qn} {ch : Int} {hops : Nat} {R : List Rec} (h : Bf ts s ch hops R R.length) : ∀ (k : Nat), k ≤ hops → ∀ q, Jr ts s ch k q → ∃ r ∈ R, r.q = q ∧ r.lv ≤ k := by
  intro k
  induction k with
  | zero =>
    intro _ q hq
    have e0 := h.fst
    exact ⟨R.getD 0 Rec.zero, getD_mem h.pos, by rw [e0]; exact hq.symm, by rw [e0]; exact Nat.le_refl _⟩
  | succ k ih =>
    intro hk q hq
    rcases hq with hq | ⟨p, hp, hn⟩
    · obtain ⟨r, h1, h2, h3⟩ := ih (by omega) q hq; exact ⟨r, h1, h2, by omega⟩
    · obtain ⟨r, h1, h2, h3⟩ := ih (by omega) p hp
      obtain ⟨j, hj, e⟩ := mem_getD (d := Rec.zero) h1
      have e1 : (R.getD j Rec.zero).q = p := by rw [e]; exact h2
      have e2 : (R.getD j Rec.zero).n = p.n := by rw [← e1]; rfl
      obtain ⟨r', g1, g2, g3⟩ := h.cls j hj (by rw [e]; omega) q (by rw [e1, e2]; exact hn)
      exact ⟨r', g1, g2, by rw [e] at g3; omega⟩
theorem Bf.all {ts : List TripV} {s : Qn} {ch : Int} {hops : Nat} {R : List Rec} (h : Bf ts s ch hops R R.length) (q : Qn) : (∃ r ∈ R, r.q = q) ↔ Jr ts s ch hops q := by
  constructor
  · rintro ⟨r, hr, rfl⟩; obtain ⟨h1, h2⟩ := h.snd r hr; exact h1.more h2
  · intro hq; obtain ⟨r, h1, h2, _⟩ := h.done hops (Nat.le_refl _) q hq; exact ⟨r, h1, h2⟩
theorem sub_len {α : Type} [DecidableEq α] : ∀ {l1 l2 : List α}, l1.Nodup → (∀ x ∈ l1, x ∈ l2) → l1.length ≤ l2.length := by
  intro l1
  induction l1 with
  | nil => intro l2 _ _; simp
  | cons a l ih =>
    intro l2 hn hs
    rw [List.nodup_cons] at hn
    have h := ih (l2 := l2.erase a) hn.2 (fun x hx => (List.mem_erase_of_ne (by rintro rfl; exact hn.1 hx)).2 (hs x (List.mem_cons_of_mem _ hx)))
    have ha := hs a List.mem_cons_self
    rw [List.length_erase_of_mem ha] at h
    have := List.length_pos_of_mem ha
    simp; omega
/-- All nodes and minutes to which a leg can lead. -/
def allQ (ts : List TripV) : List Qn := (List.range 24).flatMap fun i => (List.range 12).map fun l => ⟨(hcA ts i l).n, (hcA ts i l).a⟩
theorem allQ_len (ts : List TripV) : (allQ ts).length = 288 := by
  unfold allQ
  simp only [List.length_flatMap, List.length_map, List.length_range]
  rfl
theorem Bf.short {ts : List TripV} {s : Qn} {ch : Int} {hops : Nat} {R : List Rec} {i : Nat} (hg : Gd ts) (h : Bf ts s ch hops R i) : R.length ≤ 289 := by
  have h1 := sub_len (l2 := s :: allQ ts) h.nd (fun q hq => by
    obtain ⟨r, hr, rfl⟩ := List.mem_map.1 hq
    have hj := (h.snd r hr).1
    have key : ∀ k q, Jr ts s ch k q → q ∈ s :: allQ ts := by
      intro k
      induction k with
      | zero => intro q hq; have hq' : q = s := hq; rw [hq']; exact List.mem_cons_self
      | succ k ih =>
        intro q hq
        rcases hq with hq | ⟨p, _, i, k, l, hl, _, _, h5, h6⟩
        · exact ih q hq
        · refine List.mem_cons_of_mem _ (List.mem_flatMap.2 ⟨i, List.mem_range.2 (by have := hg.few; have := hl.1; omega), List.mem_map.2 ⟨l, List.mem_range.2 (by have := (hg.len i hl.1).2; have := hl.2.2; omega), ?_⟩⟩)
          cases q
          exact congr (congrArg Qn.mk h5) h6
    exact key _ _ hj)
  simp [allQ_len] at h1
  omega
end Go.Proofs.YtajeiiebddnchaaGreatDoor
