/- Which task comes ahead of which: matchings, the greatest of them, and that of Chains. -/
import Derived.Test.YtbnhkkaiohmllaaMB
namespace Go.Proofs.Ytbnhkkaiohmllaa
open Go.RowKit

/-! Matchings as lists: at each place the one ahead, or less than 0. -/
def mA (aq : List Int) (b : Nat) : Int := aq.getD b (-1)
theorem mA_set {aq : List Int} {b : Nat} (hb : b < aq.length) (y : Int) (c : Nat) : mA (aq.set b y) c = if b = c then y else mA aq c := by
  unfold mA
  simp only [List.getD_eq_getElem?_getD, List.getElem?_set]
  by_cases e : b = c
  · subst e; simp [hb]
  · simp [e]
def sA (bs : List Bool) (b : Nat) : Prop := bs.getD b false = true
theorem sA_set {bs : List Bool} {b : Nat} (hb : b < bs.length) (c : Nat) : sA (bs.set b true) c ↔ b = c ∨ sA bs c := by
  unfold sA
  simp only [List.getD_eq_getElem?_getD, List.getElem?_set]
  by_cases e : b = c
  · subst e; simp [hb]
  · simp [e]
def cN (aq : List Int) (N : Nat) (x : Int) : Int := sumTo (fun b => if mA aq b = x then 1 else 0) N
def szN (aq : List Int) (N : Nat) : Int := sumTo (fun b => if 0 ≤ mA aq b then 1 else 0) N
def Valid (F : Nat → Nat → Prop) (N : Nat) (aq : List Int) : Prop := ∀ b, b < N → mA aq b = -1 ∨ ∃ x : Nat, mA aq b = x ∧ x < N ∧ F x b
def Dead (F : Nat → Nat → Prop) (N : Nat) (aq : List Int) (D : Nat → Prop) : Prop := ∀ b, b < N → D b → 0 ≤ mA aq b ∧ ∀ x : Nat, mA aq b = x → ∀ b', b' < N → F x b' → D b'
theorem cN_set {aq : List Int} {N b : Nat} (hl : aq.length = N) (hb : b < N) (y x : Int) : cN (aq.set b y) N x = cN aq N x + ((if y = x then 1 else 0) - (if mA aq b = x then 1 else 0)) := by
  unfold cN
  rw [sumTo_one (f := fun c => if mA (aq.set b y) c = x then 1 else 0) (g := fun c => if mA aq c = x then 1 else 0) hb (fun i hi => by rw [mA_set (by omega) y i, if_neg (Ne.symm hi)])]
  rw [mA_set (by omega) y b, if_pos rfl]
theorem szN_set {aq : List Int} {N b : Nat} (hl : aq.length = N) (hb : b < N) (y : Int) : szN (aq.set b y) N = szN aq N + ((if 0 ≤ y then 1 else 0) - (if 0 ≤ mA aq b then 1 else 0)) := by
  unfold szN
  rw [sumTo_one (f := fun c => if 0 ≤ mA (aq.set b y) c then 1 else 0) (g := fun c => if 0 ≤ mA aq c then 1 else 0) hb (fun i hi => by rw [mA_set (by omega) y i, if_neg (Ne.symm hi)])]
  rw [mA_set (by omega) y b, if_pos rfl]
theorem sumTo_nonneg {f : Nat → Int} {n : Nat} (h : ∀ i, i < n → 0 ≤ f i) : 0 ≤ sumTo f n := by
  induction n with
  | zero => simp [sumTo]
  | succ n ih => have := ih (fun i hi => h i (by omega)); have := h n (by omega); rw [sumTo]; omega
theorem cN_nonneg (aq : List Int) (N : Nat) (x : Int) : 0 ≤ cN aq N x := sumTo_nonneg (fun i _ => show (0 : Int) ≤ if mA aq i = x then 1 else 0 by split <;> omega)
theorem cN_some {aq : List Int} {N : Nat} {x : Int} (h : 0 < cN aq N x) : ∃ b, b < N ∧ mA aq b = x := by
  by_cases hh : ∃ b, b < N ∧ mA aq b = x
  · exact hh
  · exfalso
    have : cN aq N x = 0 := sumTo_zero (fun i hi => if_neg (fun e => hh ⟨i, hi, e⟩))
    omega
theorem cN_one {aq : List Int} {N : Nat} (hl : aq.length = N) {x : Int} (hx : 0 ≤ x) {b : Nat} (hb : b < N) (e : mA aq b = x) : cN aq N x = cN (aq.set b (-1)) N x + 1 := by
  rw [cN_set hl hb, if_neg (by omega), if_pos e]; omega
theorem cN_inj {aq : List Int} {N : Nat} (hl : aq.length = N) (h : ∀ x : Nat, cN aq N x ≤ 1) {b b' : Nat} (hb : b < N) (hb' : b' < N) (h0 : 0 ≤ mA aq b) (e : mA aq b = mA aq b') : b = b' := by
  by_cases hne : b = b'
  · exact hne
  · exfalso
    obtain ⟨x, hx⟩ : ∃ x : Nat, mA aq b = x := ⟨(mA aq b).toNat, by omega⟩
    have h1 := cN_one hl (by omega : (0 : Int) ≤ (x : Int)) hb hx
    have h2 := cN_one (aq := aq.set b (-1)) (N := N) (by simpa using hl) (by omega : (0 : Int) ≤ (x : Int)) hb' (by rw [mA_set (by omega), if_neg hne, ← e, hx])
    have h3 := cN_nonneg ((aq.set b (-1)).set b' (-1)) N x
    have := h x
    omega

/-- What a search for a place behind a tells. -/
structure MRes (F : Nat → Nat → Prop) (N a : Nat) (aq : List Int) (bs : List Bool) (r : Bool) (aq' : List Int) (bs' : List Bool) : Prop where
  la : aq'.length = N
  lb : bs'.length = N
  mono : ∀ b, sA bs b → sA bs' b
  no : r = false → aq' = aq ∧ (∀ b, b < N → F a b → sA bs' b) ∧ ∀ b, b < N → sA bs' b → ¬ sA bs b → 0 ≤ mA aq b ∧ ∀ x : Nat, mA aq b = x → ∀ b', b' < N → F x b' → sA bs' b'
  yes : r = true → (∀ x : Nat, cN aq' N x = cN aq N x + if x = a then 1 else 0) ∧ szN aq' N = szN aq N + 1 ∧ (∀ b, b < N → sA bs b → mA aq' b = mA aq b) ∧ Valid F N aq'
  dead : ∀ D, Dead F N aq D → ((∀ b, b < N → F a b → D b) → r = false) ∧ (r = true → ∀ b, b < N → D b → mA aq' b = mA aq b)
/-- What stands behind the first k places. -/
structure LInv (F : Nat → Nat → Prop) (N a : Nat) (aq : List Int) (bs : List Bool) (k : Nat) (ck : List Bool) : Prop where
  lb : ck.length = N
  mono : ∀ b, sA bs b → sA ck b
  met : ∀ b, b < k → F a b → sA ck b
  shut : ∀ b, b < N → sA ck b → ¬ sA bs b → 0 ≤ mA aq b ∧ ∀ x : Nat, mA aq b = x → ∀ b', b' < N → F x b' → sA ck b'
theorem LInv.start {F : Nat → Nat → Prop} {N a : Nat} {aq : List Int} {bs : List Bool} (hl : bs.length = N) : LInv F N a aq bs 0 bs := ⟨hl, fun _ h => h, fun b h => by omega, fun b _ h1 h2 => absurd h1 h2⟩
theorem LInv.skip {F : Nat → Nat → Prop} {N a : Nat} {aq : List Int} {bs ck : List Bool} {k : Nat} (h : LInv F N a aq bs k ck) (hk : F a k → sA ck k) : LInv F N a aq bs (k + 1) ck := by
  refine ⟨h.lb, h.mono, fun b hb hf => ?_, h.shut⟩
  by_cases e : b = k
  · subst e; exact hk hf
  · exact h.met b (by omega) hf
theorem LInv.fin {F : Nat → Nat → Prop} {N a : Nat} {aq : List Int} {bs ck : List Bool} (h : LInv F N a aq bs N ck) (hl : aq.length = N) : MRes F N a aq bs false aq ck :=
  ⟨hl, h.lb, h.mono, fun _ => ⟨rfl, h.met, h.shut⟩, fun e => (nomatch e), fun _ _ => ⟨fun _ => rfl, fun e => (nomatch e)⟩⟩
theorem LInv.free {F : Nat → Nat → Prop} {N a : Nat} {aq : List Int} {bs ck : List Bool} {k : Nat} (h : LInv F N a aq bs k ck) (hl : aq.length = N) (hk : k < N) (hs : ¬ sA ck k) (hf : F a k) (ha : a < N) (hv : Valid F N aq) (hm : mA aq k < 0) : MRes F N a aq bs true (aq.set k a) (ck.set k true) := by
  refine ⟨by simpa using hl, by simpa using h.lb, fun b hb => (sA_set (by rw [h.lb]; exact hk) b).2 (.inr (h.mono b hb)), fun e => (nomatch e), fun _ => ⟨fun x => ?_, ?_, fun b hb hsb => ?_, fun b hb => ?_⟩, fun D hD => ⟨fun g => ?_, fun _ b hb hd => ?_⟩⟩
  · rw [cN_set hl hk, if_neg (by omega : ¬ mA aq k = (x : Int))]
    by_cases e : x = a
    · subst e; rw [if_pos rfl, if_pos rfl]; omega
    · rw [if_neg (by omega), if_neg e]; omega
  · rw [szN_set hl hk, if_pos (by omega), if_neg (by omega)]; omega
  · rw [mA_set (by omega), if_neg (fun e => hs (by rw [e]; exact h.mono b hsb))]
  · rw [mA_set (by omega)]
    by_cases e : k = b
    · subst e; rw [if_pos rfl]; exact .inr ⟨a, rfl, ha, hf⟩
    · rw [if_neg e]; exact hv b hb
  · have := (hD k hk (g k hk hf)).1; omega
  · rw [mA_set (by omega), if_neg (fun e => by subst e; have := (hD k hk hd).1; omega)]
theorem LInv.lost {F : Nat → Nat → Prop} {N a x : Nat} {aq aq' : List Int} {bs ck ck' : List Bool} {k : Nat} (h : LInv F N a aq bs k ck) (hk : k < N) (hx : mA aq k = x) (R : MRes F N x aq (ck.set k true) false aq' ck') : LInv F N a aq bs (k + 1) ck' := by
  obtain ⟨_, g2, g3⟩ := R.no rfl
  have hsub : ∀ b, sA ck b → sA ck' b := fun b hb => R.mono b ((sA_set (by rw [h.lb]; exact hk) b).2 (.inr hb))
  have hself : sA ck' k := R.mono k ((sA_set (by rw [h.lb]; exact hk) k).2 (.inl rfl))
  refine ⟨R.lb, fun b hb => hsub b (h.mono b hb), fun b hb hf => ?_, fun b hb h1 h2 => ?_⟩
  · by_cases e : b = k
    · subst e; exact hself
    · exact hsub b (h.met b (by omega) hf)
  · by_cases e : b = k
    · subst e
      exact ⟨by omega, fun y hy b' hb' hf => g2 b' hb' (by have h9 : x = y := (by omega); rw [h9]; exact hf)⟩
    · by_cases hc : sA ck b
      · obtain ⟨q1, q2⟩ := h.shut b hb hc h2
        exact ⟨q1, fun y hy b' hb' hf => hsub b' (q2 y hy b' hb' hf)⟩
      · exact g3 b hb h1 (fun hq => by
          rcases (sA_set (by rw [h.lb]; exact hk) b).1 hq with hq | hq
          · exact e hq.symm
          · exact hc hq)
theorem LInv.won {F : Nat → Nat → Prop} {N a x : Nat} {aq aq' : List Int} {bs ck ck' : List Bool} {k : Nat} (h : LInv F N a aq bs k ck) (hk : k < N) (hs : ¬ sA ck k) (hf : F a k) (ha : a < N) (hx : mA aq k = x) (R : MRes F N x aq (ck.set k true) true aq' ck') : MRes F N a aq bs true (aq'.set k a) ck' := by
  obtain ⟨g1, g2, g3, g4⟩ := R.yes rfl
  have hkk : mA aq' k = x := by rw [g3 k hk ((sA_set (by rw [h.lb]; exact hk) k).2 (.inl rfl)), hx]
  have hnD : ∀ D, Dead F N aq D → ¬ D k := fun D hD hd => by
    have := (R.dead D hD).1 (fun b hb hfb => (hD k hk hd).2 x hx b hb hfb)
    cases this
  refine ⟨by simpa using R.la, R.lb, fun b hb => R.mono b ((sA_set (by rw [h.lb]; exact hk) b).2 (.inr (h.mono b hb))), fun e => (nomatch e), fun _ => ⟨fun y => ?_, ?_, fun b hb hsb => ?_, fun b hb => ?_⟩, fun D hD => ⟨fun g => ?_, fun _ b hb hd => ?_⟩⟩
  · rw [cN_set R.la hk, hkk, g1 y]
    repeat' split
    all_goals omega
  · rw [szN_set R.la hk, hkk, g2, if_pos (by omega), if_pos (by omega)]; omega
  · rw [mA_set (by rw [R.la]; exact hk), if_neg (fun e => hs (by rw [e]; exact h.mono b hsb))]
    exact g3 b hb ((sA_set (by rw [h.lb]; exact hk) b).2 (.inr (h.mono b hsb)))
  · rw [mA_set (by rw [R.la]; exact hk)]
    by_cases e : k = b
    · subst e; rw [if_pos rfl]; exact .inr ⟨a, rfl, ha, hf⟩
    · rw [if_neg e]; exact g4 b hb
  · exact absurd (g k hk hf) (hnD D hD)
  · rw [mA_set (by rw [R.la]; exact hk), if_neg (fun e => by subst e; exact hnD D hD hd)]
    exact (R.dead D hD).2 rfl b hb hd

/-- What stands when the first k tasks have looked for one behind them. -/
structure Kuhn (F : Nat → Nat → Prop) (N : Nat) (aq : List Int) (k : Nat) (c : Int) : Prop where
  la : aq.length = N
  valid : Valid F N aq
  one : ∀ x : Nat, cN aq N x ≤ 1
  low : ∀ x : Nat, k ≤ x → cN aq N x = 0
  size : szN aq N = c
  dead : ∃ D, Dead F N aq D ∧ ∀ a, a < k → cN aq N a = 0 → ∀ b, b < N → F a b → D b
theorem mA_repl (N b : Nat) : mA (List.replicate N (-1)) b = -1 := by
  unfold mA
  simp only [List.getD_eq_getElem?_getD, List.getElem?_replicate]
  split <;> rfl
theorem Kuhn.start (F : Nat → Nat → Prop) (N : Nat) : Kuhn F N (List.replicate N (-1)) 0 0 := by
  have hc : ∀ x : Nat, cN (List.replicate N (-1)) N x = 0 := fun x => sumTo_zero (fun i _ => by rw [mA_repl, if_neg (by omega)])
  refine ⟨by simp, fun b _ => .inl (mA_repl N b), fun x => by rw [hc]; omega, fun x _ => hc x, sumTo_zero (fun i _ => by rw [mA_repl, if_neg (by omega)]), fun _ => False, fun b _ h => h.elim, fun a h => by omega⟩
theorem Kuhn.no {F : Nat → Nat → Prop} {N k : Nat} {aq aq' : List Int} {c : Int} {ck : List Bool} (h : Kuhn F N aq k c) (R : MRes F N k aq (List.replicate N false) false aq' ck) : Kuhn F N aq' (k + 1) c := by
  obtain ⟨rfl, g2, g3⟩ := R.no rfl
  obtain ⟨D, d1, d2⟩ := h.dead
  have hs0 : ∀ b, ¬ sA (List.replicate N false) b := fun b hb => by
    unfold sA at hb
    simp only [List.getD_eq_getElem?_getD, List.getElem?_replicate] at hb
    split at hb <;> simp at hb
  refine ⟨h.la, h.valid, h.one, fun x hx => h.low x (by omega), h.size, fun b => D b ∨ sA ck b, fun b hb hd => ?_, fun a ha h0 b hb hf => ?_⟩
  · rcases hd with hd | hd
    · obtain ⟨q1, q2⟩ := d1 b hb hd
      exact ⟨q1, fun x hx b' hb' hf => .inl (q2 x hx b' hb' hf)⟩
    · obtain ⟨q1, q2⟩ := g3 b hb hd (hs0 b)
      exact ⟨q1, fun x hx b' hb' hf => .inr (q2 x hx b' hb' hf)⟩
  · by_cases e : a = k
    · subst e; exact .inr (g2 b hb hf)
    · exact .inl (d2 a (by omega) h0 b hb hf)
theorem Kuhn.yes {F : Nat → Nat → Prop} {N k : Nat} {aq aq' : List Int} {c : Int} {ck : List Bool} (h : Kuhn F N aq k c) (R : MRes F N k aq (List.replicate N false) true aq' ck) : Kuhn F N aq' (k + 1) (c + 1) := by
  obtain ⟨g1, g2, _, g4⟩ := R.yes rfl
  obtain ⟨D, d1, d2⟩ := h.dead
  have hag := (R.dead D d1).2 rfl
  refine ⟨R.la, g4, fun x => ?_, fun x hx => ?_, by rw [g2, h.size], D, fun b hb hd => ?_, fun a ha h0 b hb hf => ?_⟩
  · rw [g1]
    by_cases e : x = k
    · subst e; rw [h.low x (Nat.le_refl _), if_pos rfl]; omega
    · rw [if_neg e]; have := h.one x; omega
  · rw [g1, h.low x (by omega), if_neg (by omega)]; omega
  · rw [hag b hb hd]; exact d1 b hb hd
  · rw [g1] at h0
    have hc := cN_nonneg aq N a
    by_cases e : a = k
    · subst e; rw [if_pos rfl] at h0; omega
    · rw [if_neg e] at h0
      exact d2 a (by omega) (by omega) b hb hf

/-! Two matchings held against each other. -/
open Classical in
theorem inj_count {N : Nat} {m m2 : Nat → Int} (D : Nat → Prop) (inj : ∀ b b', b < N → b' < N → 0 ≤ m2 b → m2 b = m2 b' → b = b') (hD : ∀ b, b < N → D b → 0 ≤ m b) (hN : ∀ b, b < N → 0 ≤ m2 b → ¬ D b → ∃ b', b' < N ∧ m b' = m2 b ∧ ¬ D b') :
    ((List.range N).filter (fun b => decide (0 ≤ m2 b))).length ≤ ((List.range N).filter (fun b => decide (0 ≤ m b))).length := by
  have hch : ∀ b, ∃ c, b < N → 0 ≤ m2 b → (c < N ∧ 0 ≤ m c ∧ ((D b ∧ c = b) ∨ (¬ D b ∧ m c = m2 b ∧ ¬ D c))) := by
    intro b
    by_cases hb : b < N ∧ 0 ≤ m2 b
    · by_cases hd : D b
      · exact ⟨b, fun _ _ => ⟨hb.1, hD b hb.1 hd, .inl ⟨hd, rfl⟩⟩⟩
      · obtain ⟨c, c1, c2, c3⟩ := hN b hb.1 hb.2 hd
        exact ⟨c, fun _ _ => ⟨c1, by omega, .inr ⟨hd, c2, c3⟩⟩⟩
    · exact ⟨0, fun h1 h2 => absurd ⟨h1, h2⟩ hb⟩
  obtain ⟨φ, hφ⟩ := Classical.axiomOfChoice hch
  have hmem : ∀ b, b ∈ (List.range N).filter (fun b => decide (0 ≤ m2 b)) ↔ b < N ∧ 0 ≤ m2 b := fun b => by simp [List.mem_filter]
  have key := sub_len (l1 := ((List.range N).filter (fun b => decide (0 ≤ m2 b))).map φ) (l2 := (List.range N).filter (fun b => decide (0 ≤ m b))) ?_ ?_
  · simpa using key
  · rw [List.Nodup, List.pairwise_map]
    have hn : ((List.range N).filter (fun b => decide (0 ≤ m2 b))).Pairwise (· ≠ ·) := (List.nodup_range (n := N)).filter _
    refine hn.imp_of_mem (fun {b b'} hb hb' hne e => hne ?_)
    obtain ⟨b1, b2⟩ := (hmem b).1 hb
    obtain ⟨b1', b2'⟩ := (hmem b').1 hb'
    obtain ⟨c1, c2, c3⟩ := hφ b b1 b2
    obtain ⟨c1', c2', c3'⟩ := hφ b' b1' b2'
    rcases c3 with ⟨q1, q2⟩ | ⟨q1, q2, q3⟩ <;> rcases c3' with ⟨r1, r2⟩ | ⟨r1, r2, r3⟩
    · omega
    · rw [← e, q2] at r3; exact absurd q1 r3
    · rw [e, r2] at q3; exact absurd r1 q3
    · rw [e, r2] at q2
      exact inj b b' b1 b1' b2 q2.symm
  · intro c hc
    rw [List.mem_map] at hc
    obtain ⟨b, hb, rfl⟩ := hc
    obtain ⟨b1, b2⟩ := (hmem b).1 hb
    obtain ⟨c1, c2, _⟩ := hφ b b1 b2
    simp [List.mem_filter, c1, c2]
theorem sz_filter (m : Nat → Int) (N : Nat) : sumTo (fun b => if 0 ≤ m b then 1 else 0) N = (((List.range N).filter (fun b => decide (0 ≤ m b))).length : Int) := by
  induction N with
  | zero => rfl
  | succ N ih =>
    rw [sumTo, ih, List.range_succ, List.filter_append]
    by_cases h : 0 ≤ m N
    · simp [h]
    · simp [h]
/-- A matching of the tasks. -/
structure Mat (F : Nat → Nat → Prop) (N : Nat) (m : Nat → Int) : Prop where
  val : ∀ b, b < N → m b = -1 ∨ ∃ a : Nat, m b = a ∧ a < N ∧ F a b
  inj : ∀ b b', b < N → b' < N → 0 ≤ m b → m b = m b' → b = b'
def szM (m : Nat → Int) (N : Nat) : Int := sumTo (fun b => if 0 ≤ m b then 1 else 0) N
theorem Kuhn.mat {F : Nat → Nat → Prop} {N : Nat} {aq : List Int} {c : Int} {k : Nat} (h : Kuhn F N aq k c) : Mat F N (mA aq) :=
  ⟨h.valid, fun _ _ hb hb' h0 e => cN_inj h.la h.one hb hb' h0 e⟩
theorem Kuhn.most {F : Nat → Nat → Prop} {N : Nat} {aq : List Int} {c : Int} (h : Kuhn F N aq N c) {m2 : Nat → Int} (M : Mat F N m2) : szM m2 N ≤ c := by
  rw [← h.size]
  unfold szM szN
  rw [sz_filter, sz_filter]
  obtain ⟨D, d1, d2⟩ := h.dead
  have := inj_count (N := N) (m := mA aq) (m2 := m2) D M.inj (fun b hb hd => (d1 b hb hd).1) (fun b hb h0 hd => by
    rcases M.val b hb with e | ⟨a, e, ha, hf⟩
    · omega
    · by_cases hc : cN aq N a = 0
      · exact absurd (d2 a ha hc b hb hf) hd
      · have h1 := cN_nonneg aq N a
        obtain ⟨b', hb', eb⟩ := cN_some (aq := aq) (N := N) (x := a) (by omega)
        exact ⟨b', hb', by rw [eb, e], fun hd' => hd ((d1 b' hb' hd').2 a eb b hb hf)⟩)
  omega

/-! The matching of Chains. -/
structure Grd (ts : List TaskV) (n : Int) (os : List Nat) (h : Hist) (m : Nat → Int) : Prop where
  val : ∀ b, b ∈ os → m b = -1 ∨ ∃ a : Nat, m b = a ∧ a ∈ os ∧ folB (tkA ts a) (tkA ts b) n = true
  out : ∀ b, b ∉ os → m b = -1
  inj : ∀ b b', 0 ≤ m b → m b = m b' → b = b'
  cnt : (os.filter (fun b => decide (0 ≤ m b))).length + nU h = os.length
  last : ∀ a : Nat, a ∈ os → (∀ b, m b ≠ a) → ∃ u, u < nU h ∧ lastU h u = a
  lasts : ∀ u, u < nU h → lastU h u ∈ os ∧ ∀ b, m b ≠ (lastU h u : Int)
  new : ∀ t, t ∈ os → m t = -1 → ∀ a : Nat, a ∈ os → folB (tkA ts a) (tkA ts t) n = true → ∃ b, b ∈ os ∧ before ts b t ∧ m b = a
theorem fol_before {ts : List TaskV} {n : Int} {a b : Nat} (h : folB (tkA ts a) (tkA ts b) n = true) : before ts a b := by
  obtain ⟨h1, _, h3, _, h5⟩ := folB_iff.1 h
  have := taskB_iff.1 h1
  have := inB_true h3
  exact .inl (by omega)
theorem Chn.grd {ts : List TaskV} {n : Int} {os : List Nat} {h : Hist} (c : Chn ts n os h) (hs : os.Pairwise (before ts)) : ∃ m, Grd ts n os h m := by
  induction c with
  | nil => exact ⟨fun _ => -1, fun b hb => by simp at hb, fun _ _ => rfl, fun b b' h0 => by simp at h0, rfl, fun a ha => by simp at ha, fun u hu => by simp [nU] at hu, fun t ht => by simp at ht⟩
  | @snoc os h t u c M ih =>
    rw [List.pairwise_append] at hs
    obtain ⟨m, G⟩ := ih hs.1
    have hbt : ∀ a, a ∈ os → before ts a t := fun a ha => hs.2.2 a ha t (by simp)
    have hto : t ∉ os := fun hx => before_irrefl t (hbt t hx)
    have mem : ∀ b, b ∈ os ++ [t] ↔ b ∈ os ∨ b = t := fun b => by simp
    rcases M with ⟨M1, _⟩ | ⟨M1, M2⟩
    · -- the unit goes on
      have hu := M1.1
      have hf := M1.2
      obtain ⟨hl1, hl2⟩ := G.lasts u hu
      have hnn : nU (h ++ [(t, u)]) = nU h := by rw [nU_snoc]; omega
      have hmt : m t = -1 := G.out t hto
      refine ⟨fun b => if b = t then (lastU h u : Int) else m b, fun b hb => ?_, fun b hb => ?_, fun b b' h0 e => ?_, ?_, fun a ha hna => ?_, fun v hv => ?_, fun b hb h0 a ha hfa => ?_⟩
      · rcases (mem b).1 hb with hb | rfl
        · rw [if_neg (fun e => hto (by rw [← e]; exact hb))]
          rcases G.val b hb with e | ⟨a, e, ha, hfa⟩
          · exact .inl e
          · exact .inr ⟨a, e, (mem a).2 (.inl ha), hfa⟩
        · rw [if_pos rfl]; exact .inr ⟨_, rfl, (mem _).2 (.inl hl1), hf⟩
      · have : b ≠ t := fun e => hb ((mem b).2 (.inr e))
        simp only [if_neg this]
        exact G.out b (fun hx => hb ((mem b).2 (.inl hx)))
      · by_cases e1 : b = t <;> by_cases e2 : b' = t
        · rw [e1, e2]
        · rw [if_pos e1, if_neg e2] at e; exact absurd e.symm (hl2 b')
        · rw [if_neg e1, if_pos e2] at e; exact absurd e (hl2 b)
        · rw [if_neg e1] at h0; rw [if_neg e1, if_neg e2] at e; exact G.inj b b' h0 e
      · rw [List.filter_append, List.length_append, hnn, List.length_append]
        have e1 : os.filter (fun b => decide (0 ≤ if b = t then (lastU h u : Int) else m b)) = os.filter (fun b => decide (0 ≤ m b)) := List.filter_congr (fun b hb => by rw [if_neg (fun e => hto (by rw [← e]; exact hb))])
        have := G.cnt
        rw [e1]
        simp
        omega
      · rcases (mem a).1 ha with ha | rfl
        · obtain ⟨v, hv, e⟩ := G.last a ha (fun b hb => by
            have h1 := hna b
            by_cases e1 : b = t
            · subst e1; rw [hmt] at hb; omega
            · simp only [if_neg e1] at h1; exact h1 hb)
          refine ⟨v, by rw [hnn]; exact hv, ?_⟩
          rw [lastU_snoc, if_neg (fun e1 => by subst e1; have := hna t; simp only [if_true] at this; exact this (by rw [e]))]
          exact e
        · exact ⟨u, by rw [hnn]; exact hu, by rw [lastU_snoc, if_pos rfl]⟩
      · rw [hnn] at hv
        rw [lastU_snoc]
        by_cases e1 : u = v
        · subst e1
          rw [if_pos rfl]
          refine ⟨(mem t).2 (.inr rfl), fun b hb => ?_⟩
          by_cases e2 : b = t
          · rw [if_pos e2] at hb
            have : lastU h u = t := by omega
            exact hto (by rw [← this]; exact hl1)
          · rw [if_neg e2] at hb
            by_cases hbo : b ∈ os
            · rcases G.val b hbo with q | ⟨a, q, ha, _⟩
              · omega
              · have : a = t := by omega
                exact hto (by rw [← this]; exact ha)
            · rw [G.out b hbo] at hb; omega
        · rw [if_neg e1]
          obtain ⟨q1, q2⟩ := G.lasts v hv
          refine ⟨(mem _).2 (.inl q1), fun b hb => ?_⟩
          by_cases e2 : b = t
          · rw [if_pos e2] at hb
            -- two units with one last task
            have hlast : lastU h u = lastU h v := by omega
            have r1 := c.full u hu
            have r2 := c.full v hv
            have m1 : (lastU h u, u) ∈ h := by
              refine runU_mem.1 ?_
              unfold lastU
              rw [List.getLastD_eq_getLast?]
              cases hg : (runU h u).getLast? with
              | none => rw [List.getLast?_eq_none_iff] at hg; exact absurd hg r1
              | some x => exact List.mem_of_getLast? hg
            have m2 : (lastU h v, v) ∈ h := by
              refine runU_mem.1 ?_
              unfold lastU
              rw [List.getLastD_eq_getLast?]
              cases hg : (runU h v).getLast? with
              | none => rw [List.getLast?_eq_none_iff] at hg; exact absurd hg r2
              | some x => exact List.mem_of_getLast? hg
            have hnd : (h.map (·.1)).Nodup := by
              rw [c.places]
              exact hs.1.imp (fun {a b} hab e => by subst e; exact before_irrefl _ hab)
            have x1 := unitD_mem hnd m1 0
            have x2 := unitD_mem hnd m2 0
            rw [hlast] at x1
            omega
          · rw [if_neg e2] at hb; exact q2 b hb
      · by_cases e1 : b = t
        · rw [if_pos e1] at h0; omega
        · rw [if_neg e1] at h0
          rcases (mem b).1 hb with hbo | hbo
          · rcases (mem a).1 ha with hao | rfl
            · obtain ⟨b2, q1, q2, q3⟩ := G.new b hbo h0 a hao hfa
              exact ⟨b2, (mem _).2 (.inl q1), q2, by simp only [if_neg (fun e => hto (by rw [← e]; exact q1) : ¬ b2 = t)]; exact q3⟩
            · exact absurd (fol_before hfa) (before_asymm (hbt b hbo))
          · exact absurd hbo e1
    · -- a new unit
      subst M1
      have hnn : nU (h ++ [(t, nU h)]) = nU h + 1 := by rw [nU_snoc]; omega
      have hmt : m t = -1 := G.out t hto
      refine ⟨m, fun b hb => ?_, fun b hb => G.out b (fun hx => hb ((mem b).2 (.inl hx))), G.inj, ?_, fun a ha hna => ?_, fun v hv => ?_, fun b hb h0 a ha hfa => ?_⟩
      · rcases (mem b).1 hb with hb | rfl
        · rcases G.val b hb with e | ⟨a, e, ha, hfa⟩
          · exact .inl e
          · exact .inr ⟨a, e, (mem a).2 (.inl ha), hfa⟩
        · exact .inl hmt
      · rw [List.filter_append, List.length_append, hnn, List.length_append]
        have := G.cnt
        simp [hmt]
        omega
      · rcases (mem a).1 ha with ha | rfl
        · obtain ⟨v, hv, e⟩ := G.last a ha hna
          exact ⟨v, by omega, by rw [lastU_snoc, if_neg (by omega)]; exact e⟩
        · exact ⟨nU h, by omega, by rw [lastU_snoc, if_pos rfl]⟩
      · rw [lastU_snoc]
        by_cases e1 : nU h = v
        · rw [if_pos e1]
          refine ⟨(mem t).2 (.inr rfl), fun b hb => ?_⟩
          by_cases hbo : b ∈ os
          · rcases G.val b hbo with q | ⟨a, q, ha, _⟩
            · omega
            · have : a = t := by omega
              exact hto (by rw [← this]; exact ha)
          · rw [G.out b hbo] at hb; omega
        · rw [if_neg e1]
          obtain ⟨q1, q2⟩ := G.lasts v (by omega)
          exact ⟨(mem _).2 (.inl q1), q2⟩
      · rcases (mem b).1 hb with hbo | rfl
        · rcases (mem a).1 ha with hao | rfl
          · obtain ⟨b2, q1, q2, q3⟩ := G.new b hbo h0 a hao hfa
            exact ⟨b2, (mem _).2 (.inl q1), q2, q3⟩
          · exact absurd (fol_before hfa) (before_asymm (hbt b hbo))
        · rcases (mem a).1 ha with ha | rfl
          · by_cases hx : ∃ b2, m b2 = (a : Int)
            · obtain ⟨b2, q⟩ := hx
              have hb2 : b2 ∈ os := by
                by_cases hq : b2 ∈ os
                · exact hq
                · rw [G.out b2 hq] at q; omega
              exact ⟨b2, (mem _).2 (.inl hb2), hbt b2 hb2, q⟩
            · obtain ⟨v, hv, e⟩ := G.last a ha (fun b2 q => hx ⟨b2, q⟩)
              exact absurd ⟨hv, by rw [e]; exact hfa⟩ (M2 v)
          · exact absurd (fol_before hfa) (before_irrefl _)
/-- How many units Chains needs is the least number. -/
theorem Grd.mat {ts : List TaskV} {n : Int} {os : List Nat} {h : Hist} {m : Nat → Int} (G : Grd ts n os h m) (hO : Ord ts os) : Mat (fun a b => folB (tkA ts a) (tkA ts b) n = true) ts.length m :=
  ⟨fun b hb => by
    rcases G.val b ((hO.2 b).2 hb) with e | ⟨a, e, ha, hf⟩
    · exact .inl e
    · exact .inr ⟨a, e, (hO.2 a).1 ha, hf⟩, fun b b' _ _ h0 e => G.inj b b' h0 e⟩
theorem Grd.size {ts : List TaskV} {n : Int} {os : List Nat} {h : Hist} {m : Nat → Int} (G : Grd ts n os h m) (hO : Ord ts os) : szM m ts.length + nU h = ts.length := by
  unfold szM
  rw [sz_filter]
  have h1 := G.cnt
  have h2 := hO.len
  have hm : ∀ b, b ∈ (List.range ts.length).filter (fun b => decide (0 ≤ m b)) ↔ b ∈ os.filter (fun b => decide (0 ≤ m b)) := fun b => by
    rw [List.mem_filter, List.mem_filter, List.mem_range, hO.2 b]
  have a1 := sub_len (l1 := (List.range ts.length).filter (fun b => decide (0 ≤ m b))) (l2 := os.filter (fun b => decide (0 ≤ m b))) ((List.nodup_range (n := ts.length)).filter _) (fun b hb => (hm b).1 hb)
  have a2 := sub_len (l1 := os.filter (fun b => decide (0 ≤ m b))) (l2 := (List.range ts.length).filter (fun b => decide (0 ≤ m b))) (hO.nodup.filter _) (fun b hb => (hm b).2 hb)
  omega
theorem Grd.most {ts : List TaskV} {n : Int} {os : List Nat} {h : Hist} {m m2 : Nat → Int} (G : Grd ts n os h m) (hO : Ord ts os) (hr : ts.all taskB = true) (M : Mat (fun a b => folB (tkA ts a) (tkA ts b) n = true) ts.length m2) : szM m2 ts.length ≤ szM m ts.length := by
  unfold szM
  rw [sz_filter, sz_filter]
  have key := inj_count (N := ts.length) (m := m) (m2 := m2) (fun b => ¬ ∃ t, t < ts.length ∧ m t = -1 ∧ (tkA ts t).e = (tkA ts b).e ∧ (b = t ∨ before ts b t)) M.inj
    (fun b hb hd => by
      rcases G.val b ((hO.2 b).2 hb) with e | ⟨a, e, _⟩
      · exact absurd ⟨b, hb, e, rfl, .inl rfl⟩ hd
      · omega)
    (fun b hb h0 hd => by
      obtain ⟨t, ht, hmt, he, hbt⟩ := Classical.not_not.1 hd
      rcases M.val b hb with e | ⟨a, e, ha, hf⟩
      · omega
      · obtain ⟨f1, f2, f3, f4, f5⟩ := folB_iff.1 hf
        have hbf : (tkA ts b).f ≤ (tkA ts t).f := by
          rcases hbt with rfl | hbt
          · omega
          · rcases hbt with q | q <;> omega
        have hft : folB (tkA ts a) (tkA ts t) n = true := folB_iff.2 ⟨f1, tkA_ok hr ht, f3, by omega, by omega⟩
        obtain ⟨b', q1, q2, q3⟩ := G.new t ((hO.2 t).2 ht) hmt a ((hO.2 a).2 ha) hft
        refine ⟨b', (hO.2 b').1 q1, by rw [q3, e], fun hq => hq ⟨t, ht, hmt, ?_, .inr q2⟩⟩
        rcases G.val b' q1 with w | ⟨a', w, _, hf'⟩
        · omega
        · have : a' = a := by omega
          subst this
          have g4 := (folB_iff.1 hf').2.2.2.1
          omega)
  omega
theorem fleet_eq {ts : List TaskV} {n : Int} {os : List Nat} {h : Hist} (hO : Ord ts os) (hC : Chn ts n os h) (hr : ts.all taskB = true) {aq : List Int} {c : Int} (K : Kuhn (fun a b => folB (tkA ts a) (tkA ts b) n = true) ts.length aq ts.length c) : (nU h : Int) = ts.length - c := by
  obtain ⟨m, G⟩ := hC.grd hO.1
  have h1 := K.most (G.mat hO)
  have h2 := G.most hO hr K.mat
  have h3 := G.size hO
  have h4 : szM (mA aq) ts.length = c := K.size
  omega
end Go.Proofs.Ytbnhkkaiohmllaa
