/- The soonest and the latest: what both answer, and how they lean on each other. -/
import Derived.Test.YtajeiiebddnchaaGreatDoorLN
namespace Go.Proofs.YtajeiiebddnchaaGreatDoor
open Go.RowKit
/-- The soonest minute at which a journey of at most h legs ends at a node; -1 where there is none. -/
def IsSoon (ts : List TripV) (s : Qn) (ch : Int) (h : Nat) (to : Int) (r : Int) : Prop := IsMin (fun m => Jr ts s ch h ⟨to, m⟩) r
/-- Of the first k stretches the one that comes to a node the soonest. -/
def Best (R : List Rec) (to : Int) (k : Nat) (o : Option Nat) : Prop :=
  (o = none ∧ ∀ j, j < k → (R.getD j Rec.zero).n ≠ to) ∨ ∃ b, b < k ∧ o = some b ∧ (R.getD b Rec.zero).n = to ∧ ∀ j, j < k → (R.getD j Rec.zero).n = to → (R.getD b Rec.zero).m ≤ (R.getD j Rec.zero).m
theorem best_start (R : List Rec) (to : Int) : Best R to 0 none := .inl ⟨rfl, fun j h => by omega⟩
theorem best_skip {R : List Rec} {to : Int} {k : Nat} {o : Option Nat} (h : Best R to k o) (hn : (R.getD k Rec.zero).n ≠ to) : Best R to (k + 1) o := by
  rcases h with ⟨h1, h2⟩ | ⟨b, h1, h2, h3, h4⟩
  · exact .inl ⟨h1, fun j hj => by by_cases e : j = k; (subst e; exact hn); exact h2 j (by omega)⟩
  · exact .inr ⟨b, by omega, h2, h3, fun j hj hn' => by by_cases e : j = k; (subst e; exact absurd hn' hn); exact h4 j (by omega) hn'⟩
theorem best_first {R : List Rec} {to : Int} {k : Nat} (h : Best R to k none) (hn : (R.getD k Rec.zero).n = to) : Best R to (k + 1) (some k) := by
  rcases h with ⟨_, h2⟩ | ⟨b, _, h2, _⟩
  · exact .inr ⟨k, by omega, rfl, hn, fun j hj hn' => by by_cases e : j = k; (subst e; exact Int.le_refl _); exact absurd hn' (h2 j (by omega))⟩
  · cases h2
theorem best_less {R : List Rec} {to : Int} {k b : Nat} (h : Best R to k (some b)) (hn : (R.getD k Rec.zero).n = to) (hl : (R.getD k Rec.zero).m < (R.getD b Rec.zero).m) : Best R to (k + 1) (some k) := by
  rcases h with ⟨h2, _⟩ | ⟨b', h1, h2, h3, h4⟩
  · cases h2
  · cases h2
    exact .inr ⟨k, by omega, rfl, hn, fun j hj hn' => by by_cases e : j = k; (subst e; exact Int.le_refl _); (have := h4 j (by omega) hn'; omega)⟩
theorem best_keep {R : List Rec} {to : Int} {k b : Nat} (h : Best R to k (some b)) (hl : ¬ (R.getD k Rec.zero).m < (R.getD b Rec.zero).m) : Best R to (k + 1) (some b) := by
  rcases h with ⟨h2, _⟩ | ⟨b', h1, h2, h3, h4⟩
  · cases h2
  · cases h2
    exact .inr ⟨b, by omega, rfl, h3, fun j hj hn' => by by_cases e : j = k; (subst e; omega); exact h4 j (by omega) hn'⟩
def minuteOf (R : List Rec) : Option Nat → Int
  | none => -1
  | some b => (R.getD b Rec.zero).m
theorem best_soon {ts : List TripV} {s : Qn} {ch : Int} {hops : Nat} {R : List Rec} {to : Int} {o : Option Nat} (h : Bf ts s ch hops R R.length) (hb : Best R to R.length o) : IsSoon ts s ch hops to (minuteOf R o) := by
  have key : ∀ m, Jr ts s ch hops ⟨to, m⟩ ↔ ∃ j, j < R.length ∧ (R.getD j Rec.zero).n = to ∧ (R.getD j Rec.zero).m = m := fun m => by
    rw [← h.all]
    constructor
    · rintro ⟨r, hr, e⟩
      obtain ⟨j, hj, e2⟩ := mem_getD (d := Rec.zero) hr
      refine ⟨j, hj, ?_, ?_⟩
      · rw [e2]; exact congrArg Qn.n e
      · rw [e2]; exact congrArg Qn.m e
    · rintro ⟨j, hj, e1, e2⟩
      exact ⟨_, getD_mem hj, congr (congrArg Qn.mk e1) e2⟩
  rcases hb with ⟨rfl, h2⟩ | ⟨b, h1, rfl, h3, h4⟩
  · exact .inl ⟨rfl, fun m hm => by obtain ⟨j, hj, e, _⟩ := (key m).1 hm; exact h2 j hj e⟩
  · refine .inr ⟨(key _).2 ⟨b, h1, h3, rfl⟩, fun m hm => ?_⟩
    obtain ⟨j, hj, e1, e2⟩ := (key m).1 hm
    have := h4 j hj e1
    show (R.getD b Rec.zero).m ≤ m
    omega
theorem Nxt.less {ts : List TripV} {r r' n : Int} {q : Qn} (h : Nxt ts r n q) (hr : r' ≤ r) : Nxt ts r' n q := by
  obtain ⟨i, k, l, h1, h2, h3, h4⟩ := h
  exact ⟨i, k, l, h1, h2, by omega, h4⟩
/-- Whoever can start earlier comes wherever one comes who starts later. -/
theorem Jr.early {ts : List TripV} {f m m' ch : Int} (hc : 0 ≤ ch) (hm : m' ≤ m) {h : Nat} : ∀ {q : Qn}, Jr ts ⟨f, m⟩ ch h q → q = ⟨f, m⟩ ∨ Jr ts ⟨f, m'⟩ ch h q := by
  induction h with
  | zero => intro q hq; exact .inl hq
  | succ h ih =>
    intro q hq
    rcases hq with hq | ⟨p, hp, hn⟩
    · rcases ih hq with e | e
      · exact .inl e
      · exact .inr (.inl e)
    · refine .inr (.inr ?_)
      by_cases e : p = ⟨f, m⟩
      · subst e
        refine ⟨⟨f, m'⟩, Jr.start h, hn.less ?_⟩
        unfold rdy; rw [if_pos rfl, if_pos rfl]; exact hm
      · rcases ih hp with e' | e'
        · exact absurd e' e
        · refine ⟨p, e', hn.less ?_⟩
          unfold rdy; rw [if_neg e]; split <;> omega
theorem Jr.change {ts : List TripV} {s : Qn} {ch ch' : Int} (hc : ch ≤ ch') {h : Nat} : ∀ {q : Qn}, Jr ts s ch' h q → Jr ts s ch h q := by
  induction h with
  | zero => intro q hq; exact hq
  | succ h ih =>
    intro q hq
    rcases hq with hq | ⟨p, hp, hn⟩
    · exact .inl (ih hq)
    · refine .inr ⟨p, ih hp, hn.less ?_⟩
      unfold rdy; split <;> omega
/-- A journey that goes anywhere can as well start when its first leg leaves. -/
theorem Jr.leave {ts : List TripV} {f m ch : Int} (hc : 0 ≤ ch) {h : Nat} : ∀ {q : Qn}, Jr ts ⟨f, m⟩ ch h q → q = ⟨f, m⟩ ∨ ∃ i k, i < ts.length ∧ k < ncA ts i ∧ (hcA ts i k).n = f ∧ m ≤ (hcA ts i k).d ∧ Jr ts ⟨f, (hcA ts i k).d⟩ ch h q := by
  induction h with
  | zero => intro q hq; exact .inl hq
  | succ h ih =>
    intro q hq
    rcases hq with hq | ⟨p, hp, hn⟩
    · rcases ih hq with e | ⟨i, k, h1, h2, h3, h4, h5⟩
      · exact .inl e
      · exact .inr ⟨i, k, h1, h2, h3, h4, .inl h5⟩
    · refine .inr ?_
      by_cases e : p = ⟨f, m⟩
      · subst e
        obtain ⟨i, k, l, hl, h2, h3, h4, h5⟩ := hn
        refine ⟨i, k, hl.1, Nat.lt_trans hl.2.1 hl.2.2, h2, ?_, .inr ⟨⟨f, (hcA ts i k).d⟩, Jr.start h, i, k, l, hl, h2, ?_, h4, h5⟩⟩
        · unfold rdy at h3; rw [if_pos rfl] at h3; exact h3
        · unfold rdy; rw [if_pos rfl]; exact Int.le_refl _
      · rcases ih hp with e' | ⟨i, k, h1, h2, h3, h4, h5⟩
        · exact absurd e' e
        · refine ⟨i, k, h1, h2, h3, h4, .inr ⟨p, h5, hn.less ?_⟩⟩
          unfold rdy; rw [if_neg e]; split <;> omega
/-- From minute m on one is at a node by the minute by. -/
def InTime (ts : List TripV) (f to ch by_ : Int) (h : Nat) (m : Int) : Prop := ∃ x, x ≤ by_ ∧ Jr ts ⟨f, m⟩ ch h ⟨to, x⟩
/-- The latest minute up to by from which on one is in time; -1 where there is none. -/
def IsLatest (ts : List TripV) (f to ch by_ : Int) (h : Nat) (r : Int) : Prop :=
  (r = -1 ∧ ∀ m, 0 ≤ m → m ≤ by_ → ¬ InTime ts f to ch by_ h m) ∨ (0 ≤ r ∧ r ≤ by_ ∧ InTime ts f to ch by_ h r ∧ ∀ m, r < m → m ≤ by_ → ¬ InTime ts f to ch by_ h m)
theorem IsLatest.uniq {ts : List TripV} {f to ch by_ : Int} {h : Nat} {r r' : Int} (a : IsLatest ts f to ch by_ h r) (b : IsLatest ts f to ch by_ h r') : r = r' := by
  rcases a with ⟨a1, a2⟩ | ⟨a1, a2, a3, a4⟩ <;> rcases b with ⟨b1, b2⟩ | ⟨b1, b2, b3, b4⟩
  · omega
  · exact absurd b3 (a2 _ b1 b2)
  · exact absurd a3 (b2 _ a1 a2)
  · by_cases h1 : r < r'
    · exact absurd b3 (a4 _ h1 b2)
    · by_cases h2 : r' < r
      · exact absurd a3 (b4 _ h2 a2)
      · omega
theorem InTime.early {ts : List TripV} {f to ch by_ m m' : Int} {h : Nat} (hc : 0 ≤ ch) (hm : m' ≤ m) (a : InTime ts f to ch by_ h m) : InTime ts f to ch by_ h m' := by
  obtain ⟨x, h1, h2⟩ := a
  rcases h2.early hc hm with e | e
  · cases e
    exact ⟨m', by omega, Jr.start h⟩
  · exact ⟨x, h1, e⟩
theorem soon_intime {ts : List TripV} {f to ch by_ m r : Int} {h : Nat} (hg : Gd ts) (hc : 0 ≤ ch) (hm : 0 ≤ m) (hs : IsSoon ts ⟨f, m⟩ ch h to r) : (r < 0 ∨ by_ < r) ↔ ¬ InTime ts f to ch by_ h m := by
  rcases hs with ⟨h1, h2⟩ | ⟨h1, h2⟩
  · exact Iff.intro (fun _ ⟨x, _, hx⟩ => h2 x hx) (fun _ => .inl (by omega))
  · have h0 : m ≤ r := Jr.ge hg hc h1
    constructor
    · rintro h3 ⟨x, h4, hx⟩
      have := h2 x hx
      omega
    · intro h3
      by_cases h5 : by_ < r
      · exact .inr h5
      · exact absurd ⟨r, by omega, h1⟩ h3
theorem latest_same {ts : List TripV} {f ch by_ : Int} {h : Nat} (hb : 0 ≤ by_) : IsLatest ts f f ch by_ h by_ :=
  .inr ⟨hb, Int.le_refl _, ⟨by_, Int.le_refl _, Jr.start h⟩, fun m h1 h2 => by omega⟩
/-- What the model has found of the latest minute, behind all calls of the trips ahead of i and the first k of that one. -/
structure LatTo (ts : List TripV) (f to ch by_ : Int) (h : Nat) (i k : Nat) (best : Int) : Prop where
  ok : best = -1 ∨ (0 ≤ best ∧ best ≤ by_ ∧ InTime ts f to ch by_ h best)
  all : ∀ i' k', i' < ts.length → k' < ncA ts i' → (i' < i ∨ (i' = i ∧ k' < k)) → (hcA ts i' k').n = f → (hcA ts i' k').d ≤ by_ → best < (hcA ts i' k').d → ¬ InTime ts f to ch by_ h (hcA ts i' k').d
theorem LatTo.start (ts : List TripV) (f to ch by_ : Int) (h : Nat) : LatTo ts f to ch by_ h 0 0 (-1) := ⟨.inl rfl, fun i' k' _ _ h1 => by omega⟩
theorem LatTo.trip {ts : List TripV} {f to ch by_ best : Int} {h i : Nat} (a : LatTo ts f to ch by_ h i (ncA ts i) best) : LatTo ts f to ch by_ h (i + 1) 0 best := by
  refine ⟨a.ok, fun i' k' h1 h2 h3 => a.all i' k' h1 h2 ?_⟩
  by_cases e : i' = i
  · subst e; exact .inr ⟨rfl, h2⟩
  · exact .inl (by omega)
theorem LatTo.skip {ts : List TripV} {f to ch by_ best : Int} {h i k : Nat} (a : LatTo ts f to ch by_ h i k best) (hs : (hcA ts i k).n ≠ f ∨ by_ < (hcA ts i k).d ∨ (hcA ts i k).d ≤ best ∨ ¬ InTime ts f to ch by_ h (hcA ts i k).d) : LatTo ts f to ch by_ h i (k + 1) best := by
  refine ⟨a.ok, fun i' k' h1 h2 h3 h4 h5 h6 => ?_⟩
  by_cases e : i' = i ∧ k' = k
  · obtain ⟨rfl, rfl⟩ := e
    rcases hs with hs | hs | hs | hs
    · exact absurd h4 hs
    · omega
    · omega
    · exact hs
  · exact a.all i' k' h1 h2 (by omega) h4 h5 h6
theorem LatTo.take {ts : List TripV} {f to ch by_ best : Int} {h i k : Nat} (a : LatTo ts f to ch by_ h i k best) (h0 : 0 ≤ (hcA ts i k).d) (h1 : (hcA ts i k).d ≤ by_) (h2 : best < (hcA ts i k).d) (h3 : InTime ts f to ch by_ h (hcA ts i k).d) : LatTo ts f to ch by_ h i (k + 1) (hcA ts i k).d := by
  refine ⟨.inr ⟨h0, h1, h3⟩, fun i' k' g1 g2 g3 g4 g5 g6 => ?_⟩
  by_cases e : i' = i ∧ k' = k
  · obtain ⟨rfl, rfl⟩ := e; omega
  · exact a.all i' k' g1 g2 (by omega) g4 g5 (by omega)
theorem LatTo.done {ts : List TripV} {f to ch by_ best : Int} {h : Nat} (hg : Gd ts) (hc : 0 ≤ ch) (hne : f ≠ to) (a : LatTo ts f to ch by_ h ts.length 0 best) : IsLatest ts f to ch by_ h best := by
  have hno : ∀ m, best < m → 0 ≤ m → m ≤ by_ → ¬ InTime ts f to ch by_ h m := by
    rintro m h1 h0 h2 ⟨x, h3, hx⟩
    rcases hx.leave hc with e | ⟨i, k, g1, g2, g3, g4, g5⟩
    · exact hne (congrArg Qn.n e).symm
    · have g6 : (hcA ts i k).d ≤ x := Jr.ge hg hc g5
      exact a.all i k g1 g2 (.inl g1) g3 (by omega) (by omega) ⟨x, h3, g5⟩
  rcases a.ok with e | ⟨h1, h2, h3⟩
  · exact .inl ⟨e, fun m h1 h2 => hno m (by omega) h1 h2⟩
  · exact .inr ⟨h1, h2, h3, fun m g1 g2 => hno m g1 (by omega) g2⟩
end Go.Proofs.YtajeiiebddnchaaGreatDoor
