/- Lists of telegrams in rows of their own: compared, marked, held. -/
import Derived.Test.YtgnohomplehacaaWD
import Derived.Test.YtgnohomplehacaaV
namespace Go.Proofs.Ytgnohomplehacaa
open Go.RowKit
theorem own_other {w : World} {B B' e e' sz sz' n n' : Nat} {v v' : Value} {xs xs' : List Value} (h : w.ownsRow B e sz v n xs) (h' : w.ownsRow B' e' sz' v' n' xs') (hne : e ≠ e') : ∀ k, v.ownBlock = some k → some k ≠ v'.ownBlock := by
  intro k hk e1
  rcases h.2 with ⟨rfl, _⟩ | ⟨g, cap, cur, rfl, _, hh, _⟩
  · simp [Value.ownBlock] at hk
  · rcases h'.2 with ⟨rfl, _⟩ | ⟨g', cap', cur', rfl, _, hh', _⟩
    · simp [Value.ownBlock] at e1
    · simp [Value.ownBlock] at hk e1
      subst hk
      subst e1
      rw [hh] at hh'
      simp only [Option.some.injEq, Obj.cells.injEq] at hh'
      exact hne hh'.2.1
theorem own_cap {w : World} {B e sz n c : Nat} {a : Option Addr} {xs : List Value} (h : w.ownsRow B e sz (.slice a n c) n xs) : n ≤ c := by
  obtain ⟨a', c', e, h1, _⟩ := own_room h
  simp only [Value.slice.injEq] at e
  obtain ⟨_, _, rfl⟩ := e
  exact h1
theorem infoTel : (Try.prog.info? 25).map (fun i => (i.zero, i.size, i.bytes)) = some (some (.agg #[.int .i64 0, .int .i64 0, .slice none 0 0]), 3, 40) := by kernel_rfl
structure TC where
  q : Int
  k : Int
  v : Value
def TC.vs (c : TC) : List Value := [.int .i64 c.q, .int .i64 c.k, c.v]
def flatC (cs : List TC) : List Value := cs.flatMap TC.vs
theorem flatC_cons (c : TC) (cs : List TC) : flatC (c :: cs) = .int .i64 c.q :: .int .i64 c.k :: c.v :: flatC cs := rfl
theorem flatC_len (cs : List TC) : (flatC cs).length = cs.length * 3 := by
  induction cs with
  | nil => rfl
  | cons c cs ih => rw [flatC_cons]; simp [ih]; omega
theorem flatC_snoc (cs : List TC) (c : TC) : flatC (cs ++ [c]) = flatC cs ++ [.int .i64 c.q, .int .i64 c.k, c.v] := by simp [flatC, TC.vs]
theorem flatC_get : ∀ (cs : List TC) (j : Nat) (hj : j < cs.length), (flatC cs)[j * 3]? = some (.int .i64 cs[j].q) ∧ (flatC cs)[j * 3 + 1]? = some (.int .i64 cs[j].k) ∧ (flatC cs)[j * 3 + 2]? = some cs[j].v := by
  intro cs
  induction cs with
  | nil => intro j hj; simp at hj
  | cons c cs ih =>
    intro j hj
    cases j with
    | zero => exact ⟨rfl, rfl, rfl⟩
    | succ j =>
      have := ih j (by simpa using hj)
      rw [flatC_cons, show (j + 1) * 3 = j * 3 + 1 + 1 + 1 by omega]
      simpa using this
theorem flatC_set2 : ∀ (cs : List TC) (j : Nat) (hj : j < cs.length) (x y : Int), ((flatC cs).set (j * 3) (.int .i64 x)).set (j * 3 + 1) (.int .i64 y) = flatC (cs.set j ⟨x, y, cs[j].v⟩) := by
  intro cs
  induction cs with
  | nil => intro j hj; simp at hj
  | cons c cs ih =>
    intro j hj x y
    cases j with
    | zero => rfl
    | succ j =>
      have := ih j (by simpa using hj) x y
      rw [flatC_cons, show (j + 1) * 3 = j * 3 + 1 + 1 + 1 by omega]
      simp only [List.set_cons_succ, List.getElem_cons_succ, flatC_cons]
      rw [this]
/-- A list of telegrams in rows of its own. -/
structure TabT (B : Nat) (w : World) (v : Value) (cs : List TC) (ts : List TelV) : Prop where
  own : w.ownsRow B 25 3 v ts.length (flatC cs)
  len : cs.length = ts.length
  each : ∀ j, (hj : j < cs.length) → cs[j].q = (ts.getD j TelV.zero).q ∧ cs[j].k = (ts.getD j TelV.zero).k ∧ w.ownsRow B 5 1 cs[j].v (ts.getD j TelV.zero).b.length (enc8 (ts.getD j TelV.zero).b)
  pair : ∀ i j, (hi : i < cs.length) → (hj : j < cs.length) → i ≠ j → ∀ k, cs[i].v.ownBlock = some k → cs[j].v.ownBlock ≠ some k
theorem TabT.nil (B : Nat) (w : World) : TabT B w (.slice none 0 0) [] [] := ⟨World.ownsRow_nil _ _ _ _, rfl, fun j hj => by simp at hj, fun i j hi => by simp at hi⟩
theorem TabT.of0 {B : Nat} {w : World} {v : Value} (h : w.ownsRow B 25 3 v 0 []) : TabT B w v [] [] := ⟨h, rfl, fun j hj => by simp at hj, fun i j hi => by simp at hi⟩
theorem TabT.below {B : Nat} {w w2 : World} {v : Value} {cs : List TC} {ts : List TelV} (h : TabT B w v cs ts) (hb : Below w.heap.size w w2) : TabT B w2 v cs ts :=
  ⟨own_keep h.own hb, h.len, fun j hj => ⟨(h.each j hj).1, (h.each j hj).2.1, own_keep (h.each j hj).2.2 hb⟩, h.pair⟩
theorem TabT.base {B B' : Nat} {w : World} {v : Value} {cs : List TC} {ts : List TelV} (h : TabT B w v cs ts) (hb : B' ≤ B) : TabT B' w v cs ts :=
  ⟨own_base h.own hb, h.len, fun j hj => ⟨(h.each j hj).1, (h.each j hj).2.1, own_base (h.each j hj).2.2 hb⟩, h.pair⟩
/-- A block that is none of the list's is turned. -/
theorem TabT.far {B r : Nat} {w w2 : World} {v : Value} {cs : List TC} {ts : List TelV} (h : TabT B w v cs ts) (hg : w.grownBy w2 (some r)) (hr : r < B) : TabT B w2 v cs ts :=
  ⟨own_far h.own hg (fun k hk e => by have := own_from h.own (Nat.le_refl _) k hk; simp at e; omega), h.len,
    fun j hj => ⟨(h.each j hj).1, (h.each j hj).2.1, own_far (h.each j hj).2.2 hg (fun k hk e => by have := own_from (h.each j hj).2.2 (Nat.le_refl _) k hk; simp at e; omega)⟩, h.pair⟩
/-- A cell of a block of another type is turned. -/
theorem TabT.set {B b i : Nat} {w : World} {v u : Value} {cs : List TC} {ts : List TelV} {cl : Array Value} {e : TypeId} {f : Nat × Nat} (h : TabT B w v cs ts) (hb : w.heap[b]? = some (.cells cl e f)) (h1 : 25 ≠ e) (h2 : 5 ≠ e) : TabT B (w.setCell ⟨b, i, none⟩ u) v cs ts :=
  ⟨own_set h.own (own_apartB h.own hb h1), h.len, fun j hj => ⟨(h.each j hj).1, (h.each j hj).2.1, own_set (h.each j hj).2.2 (own_apartB (h.each j hj).2.2 hb h2)⟩, h.pair⟩
theorem tel_app {ts : List TelV} {t : TelV} {i : Nat} (h : i < ts.length) : (ts ++ [t]).getD i TelV.zero = ts.getD i TelV.zero := by simp [List.getD, List.getElem?_append_left h]
theorem tel_end {ts : List TelV} {t : TelV} : (ts ++ [t]).getD ts.length TelV.zero = t := by simp [List.getD]
/-- One telegram more. -/
theorem TabT.push {B : Nat} {wx w2 : World} {v v2 vb : Value} {cs : List TC} {ts : List TelV} {t : TelV} (h : TabT B wx v cs ts)
    (hown : w2.ownsRow B 25 3 v2 (ts.length + 1) (flatC cs ++ [.int .i64 t.q, .int .i64 t.k, vb])) (hgrow : wx.grownBy w2 v.ownBlock)
    (hT : wx.ownsRow B 5 1 vb t.b.length (enc8 t.b)) (hpr : ∀ j, (hj : j < cs.length) → ∀ k, cs[j].v.ownBlock = some k → vb.ownBlock ≠ some k) :
    TabT B w2 v2 (cs ++ [⟨t.q, t.k, vb⟩]) (ts ++ [t]) := by
  have hl := h.len
  have key : ∀ j, (hj : j < cs.length) → (cs ++ [(⟨t.q, t.k, vb⟩ : TC)])[j]'(by simp; omega) = cs[j] := fun j hj => List.getElem_append_left hj
  have keyE : ∀ j (hj : j < (cs ++ [(⟨t.q, t.k, vb⟩ : TC)]).length), ¬ j < cs.length → (cs ++ [(⟨t.q, t.k, vb⟩ : TC)])[j] = ⟨t.q, t.k, vb⟩ := by
    intro j hj h1
    obtain rfl : j = cs.length := by simp at hj; omega
    simp
  refine ⟨by rw [flatC_snoc]; simpa using hown, by simp [hl], fun j hj => ?_, fun i j hi hj hne k hk hk2 => ?_⟩
  · by_cases hjl : j < cs.length
    · rw [key j hjl, tel_app (by omega)]
      obtain ⟨h1, h2, h3⟩ := h.each j hjl
      exact ⟨h1, h2, own_far h3 hgrow (own_other h3 h.own (by decide))⟩
    · obtain rfl : j = cs.length := by simp at hj; omega
      rw [keyE _ hj hjl, hl, tel_end]
      exact ⟨rfl, rfl, own_far hT hgrow (own_other hT h.own (by decide))⟩
  · by_cases h1 : i < cs.length <;> by_cases h2 : j < cs.length
    · rw [key i h1] at hk; rw [key j h2] at hk2; exact h.pair i j h1 h2 hne k hk hk2
    · rw [key i h1] at hk; rw [keyE j hj h2] at hk2; exact hpr i h1 k hk hk2
    · rw [keyE i hi h1] at hk; rw [key j h2] at hk2; exact hpr j h2 k hk2 hk
    · simp at hi hj; omega
theorem TabT.tels {B c : Nat} {w : World} {a : Option Addr} {cs : List TC} {ts : List TelV} (h : TabT B w (.slice a ts.length c) cs ts) : Tels w a ts := by
  rcases h.own.2 with ⟨_, h0⟩ | ⟨g, cap, cur, he, _⟩
  · exact .inl (List.length_eq_zero_iff.1 h0)
  · simp only [Value.slice.injEq] at he
    obtain ⟨rfl, _, rfl⟩ := he
    refine .inr ⟨g, 0, rfl, fun i hi => ?_⟩
    have hi' : i < cs.length := by rw [h.len]; exact hi
    obtain ⟨q0, q1, q2⟩ := flatC_get cs i hi'
    obtain ⟨e1, e2, e3⟩ := h.each i hi'
    have hl3 := flatC_len cs
    obtain ⟨na, nc, hv⟩ := own_form e3
    rw [hv] at e3 q2
    refine ⟨na, nc, ?_, ?_, ?_, own_cap e3, Bys.own e3 rfl⟩
    · rw [Nat.zero_add, h.own.cellAt _ (by omega), q0, e1]
    · rw [Nat.zero_add, h.own.cellAt _ (by omega), q1, e2]
    · rw [Nat.zero_add, h.own.cellAt _ (by omega), q2]
set_option maxRecDepth 100000 in
set_option maxHeartbeats 1600000 in
theorem cEqTels (a1 a2 : Option Addr) (c1 c2 : Nat) (ts : List TelV) (w : World) (h1 : Tels w a1 ts) (h2 : Tels w a2 ts) (hl : ts.length ≤ 1048576) (hb0 : ∀ t ∈ ts, t.b.length ≤ 1048576) :
    Calls Try.prog 40 #[.slice a1 ts.length c1, .slice a2 ts.length c2] w fun e w' => e = .returned (.bool true) ∧ Below w.heap.size w w' := by
  replace hb0 := hide hb0
  go_enter Try.func40, Try.ntmps40
  go_wp2
  go_loopw [5] (fun i wr => ∃ k : Nat, k ≤ ts.length ∧ i = .int .i64 k ∧ Below w.heap.size w wr) (fun i _ => ts.length - (intOf i).toNat)
  case atStart => exact ⟨0, Nat.zero_le _, rfl, Below.refl _ _⟩
  case round =>
    obtain ⟨k, hk, rfl, hb⟩ := hrel
    by_cases hlt : k < ts.length
    · obtain ⟨b1, o1, na1, nc1, rfl, x0, x1, x2, _, g1⟩ := (h1.below hb).at hlt
      obtain ⟨b2, o2, na2, nc2, rfl, x3, x4, x5, _, g2⟩ := (h2.below hb).at hlt
      have hbl : ts[k].b.length ≤ maxLen := by have := hb0.out _ (List.getElem_mem hlt); unfold maxLen; omega
      generalize ts[k].q = q at *
      generalize ts[k].k = kk at *
      generalize ts[k].b = bd at *
      obtain ⟨n, hn⟩ : ∃ n, bd.length = n := ⟨_, rfl⟩
      rw [hn] at x2 x5
      have hbn := hide hn
      clear hn h1 h2
      have hk0 : (0 : Int) ≤ (k : Int) := by omega
      have hk1 : (k : Int) < (ts.length : Int) := by omega
      go_wp2_with fail
      refine wp_region_held_drew (S := (fun w' => w'.cell? ⟨b1, o1 + k * 3, none⟩ = some (.int .i64 q) ∧ w'.cell? ⟨b1, o1 + k * 3 + 1, none⟩ = some (.int .i64 kk) ∧ w'.cell? ⟨b1, o1 + k * 3 + 2, none⟩ = some (.slice na1 n nc1) ∧ w'.cell? ⟨b2, o2 + k * 3, none⟩ = some (.int .i64 q) ∧ w'.cell? ⟨b2, o2 + k * 3 + 1, none⟩ = some (.int .i64 kk) ∧ w'.cell? ⟨b2, o2 + k * 3 + 2, none⟩ = some (.slice na2 n nc2))) (by kernel_rfl) ?_ (fun hHeld => ?_)
      · exact ⟨x0, x1, x2, x3, x4, x5⟩
      have B0 : Below wr.heap.size wr wr.drew := (Below.refl _ _).drew
      have CE := cEqTel q kk na1 na2 nc1 nc2 bd wr.drew (g1.below B0) (g2.below B0) hbl
      rw [hbn.out] at CE
      generalize wr.drew = wd at *
      refine wpAnyH_take (i := 0) (v := .slice (some ⟨b1, o1, none⟩) ts.length c1) rfl (by kernel_rfl) (by kernel_rfl) (by kernel_rfl) (fun _ _ _ h => h) (Or.inl ⟨by kernel_rfl, fun w hS => by go_simp⟩) hHeld ?_
      change wpAnyH _ _ _ _ _ _ _ { tmps := List.toArray (_ :: _ :: _ :: _ :: _ :: _ :: _ :: _ :: _ :: _ :: _ :: _ :: _ :: _ :: _ :: _ :: _ :: .slice (some ⟨b1, o1, none⟩) ts.length c1 :: _ :: _ :: _ :: _ :: _ :: _ :: _ :: _ :: _ :: []), defers := [] } _
      refine wpAnyH_take (i := 1) (v := .int .i64 (k : Int)) rfl (by kernel_rfl) (by kernel_rfl) (by kernel_rfl) (fun _ _ _ h => h) (Or.inl ⟨by kernel_rfl, fun w hS => by go_simp⟩) hHeld ?_
      change wpAnyH _ _ _ _ _ _ _ { tmps := List.toArray (_ :: _ :: _ :: _ :: _ :: _ :: _ :: _ :: _ :: _ :: _ :: _ :: _ :: _ :: _ :: _ :: _ :: .slice (some ⟨b1, o1, none⟩) ts.length c1 :: .int .i64 (k : Int) :: _ :: _ :: _ :: _ :: _ :: _ :: _ :: _ :: []), defers := [] } _
      refine wpAnyH_take (i := 2) (v := .pointer (some ⟨b1, o1 + k * 3, none⟩)) rfl (by kernel_rfl) (by kernel_rfl) (by kernel_rfl) (fun _ _ _ h => h) (Or.inl ⟨by kernel_rfl, fun w hS => by go_simp⟩) hHeld ?_
      change wpAnyH _ _ _ _ _ _ _ { tmps := List.toArray (_ :: _ :: _ :: _ :: _ :: _ :: _ :: _ :: _ :: _ :: _ :: _ :: _ :: _ :: _ :: _ :: _ :: .slice (some ⟨b1, o1, none⟩) ts.length c1 :: .int .i64 (k : Int) :: .pointer (some ⟨b1, o1 + k * 3, none⟩) :: _ :: _ :: _ :: _ :: _ :: _ :: _ :: []), defers := [] } _
      refine wpAnyH_take (i := 3) (v := .agg #[.int .i64 q, .int .i64 kk, .slice na1 n nc1]) rfl (by kernel_rfl) (by kernel_rfl) (by kernel_rfl) (fun _ _ _ h => h) (Or.inl ⟨by kernel_rfl, fun w hS => by (obtain ⟨hS0, hS1, hS2, hS3, hS4, hS5⟩ := hS; go_simp)⟩) hHeld ?_
      change wpAnyH _ _ _ _ _ _ _ { tmps := List.toArray (_ :: _ :: _ :: _ :: _ :: _ :: _ :: _ :: _ :: _ :: _ :: _ :: _ :: _ :: _ :: _ :: _ :: .slice (some ⟨b1, o1, none⟩) ts.length c1 :: .int .i64 (k : Int) :: .pointer (some ⟨b1, o1 + k * 3, none⟩) :: .agg #[.int .i64 q, .int .i64 kk, .slice na1 n nc1] :: _ :: _ :: _ :: _ :: _ :: _ :: []), defers := [] } _
      refine wpAnyH_take (i := 4) (v := .slice (some ⟨b2, o2, none⟩) ts.length c2) rfl (by kernel_rfl) (by kernel_rfl) (by kernel_rfl) (fun _ _ _ h => h) (Or.inl ⟨by kernel_rfl, fun w hS => by go_simp⟩) hHeld ?_
      change wpAnyH _ _ _ _ _ _ _ { tmps := List.toArray (_ :: _ :: _ :: _ :: _ :: _ :: _ :: _ :: _ :: _ :: _ :: _ :: _ :: _ :: _ :: _ :: _ :: .slice (some ⟨b1, o1, none⟩) ts.length c1 :: .int .i64 (k : Int) :: .pointer (some ⟨b1, o1 + k * 3, none⟩) :: .agg #[.int .i64 q, .int .i64 kk, .slice na1 n nc1] :: .slice (some ⟨b2, o2, none⟩) ts.length c2 :: _ :: _ :: _ :: _ :: _ :: []), defers := [] } _
      refine wpAnyH_take (i := 5) (v := .int .i64 (k : Int)) rfl (by kernel_rfl) (by kernel_rfl) (by kernel_rfl) (fun _ _ _ h => h) (Or.inl ⟨by kernel_rfl, fun w hS => by go_simp⟩) hHeld ?_
      change wpAnyH _ _ _ _ _ _ _ { tmps := List.toArray (_ :: _ :: _ :: _ :: _ :: _ :: _ :: _ :: _ :: _ :: _ :: _ :: _ :: _ :: _ :: _ :: _ :: .slice (some ⟨b1, o1, none⟩) ts.length c1 :: .int .i64 (k : Int) :: .pointer (some ⟨b1, o1 + k * 3, none⟩) :: .agg #[.int .i64 q, .int .i64 kk, .slice na1 n nc1] :: .slice (some ⟨b2, o2, none⟩) ts.length c2 :: .int .i64 (k : Int) :: _ :: _ :: _ :: _ :: []), defers := [] } _
      refine wpAnyH_take (i := 6) (v := .pointer (some ⟨b2, o2 + k * 3, none⟩)) rfl (by kernel_rfl) (by kernel_rfl) (by kernel_rfl) (fun _ _ _ h => h) (Or.inl ⟨by kernel_rfl, fun w hS => by go_simp⟩) hHeld ?_
      change wpAnyH _ _ _ _ _ _ _ { tmps := List.toArray (_ :: _ :: _ :: _ :: _ :: _ :: _ :: _ :: _ :: _ :: _ :: _ :: _ :: _ :: _ :: _ :: _ :: .slice (some ⟨b1, o1, none⟩) ts.length c1 :: .int .i64 (k : Int) :: .pointer (some ⟨b1, o1 + k * 3, none⟩) :: .agg #[.int .i64 q, .int .i64 kk, .slice na1 n nc1] :: .slice (some ⟨b2, o2, none⟩) ts.length c2 :: .int .i64 (k : Int) :: .pointer (some ⟨b2, o2 + k * 3, none⟩) :: _ :: _ :: _ :: []), defers := [] } _
      refine wpAnyH_take (i := 7) (v := .agg #[.int .i64 q, .int .i64 kk, .slice na2 n nc2]) rfl (by kernel_rfl) (by kernel_rfl) (by kernel_rfl) (fun _ _ _ h => h) (Or.inl ⟨by kernel_rfl, fun w hS => by (obtain ⟨hS0, hS1, hS2, hS3, hS4, hS5⟩ := hS; go_simp)⟩) hHeld ?_
      change wpAnyH _ _ _ _ _ _ _ { tmps := List.toArray (_ :: _ :: _ :: _ :: _ :: _ :: _ :: _ :: _ :: _ :: _ :: _ :: _ :: _ :: _ :: _ :: _ :: .slice (some ⟨b1, o1, none⟩) ts.length c1 :: .int .i64 (k : Int) :: .pointer (some ⟨b1, o1 + k * 3, none⟩) :: .agg #[.int .i64 q, .int .i64 kk, .slice na1 n nc1] :: .slice (some ⟨b2, o2, none⟩) ts.length c2 :: .int .i64 (k : Int) :: .pointer (some ⟨b2, o2 + k * 3, none⟩) :: .agg #[.int .i64 q, .int .i64 kk, .slice na2 n nc2] :: _ :: _ :: []), defers := [] } _
      refine wpAnyH_ready (rs := [8]) (by kernel_rfl) (by simp) ?_
      refine (AllReadyH.cons rfl (fun KK hK => ?_) AllReadyH.nil)
      go_simp
      refine (CE).mono ?_
      rintro e wp ⟨rfl, hbp⟩
      have Bp := btrans B0 hbp
      go_wp2_with fail
      clear hHeld
      refine hK.out _ _ (⟨ble Bp x0, ble Bp x1, ble Bp x2, ble Bp x3, ble Bp x4, ble Bp x5⟩) (fun hHeld => ?_)
      clear hK KK
      change wpAnyH _ _ _ _ _ _ _ { tmps := List.toArray (_ :: _ :: _ :: _ :: _ :: _ :: _ :: _ :: _ :: _ :: _ :: _ :: _ :: _ :: _ :: _ :: _ :: .slice (some ⟨b1, o1, none⟩) ts.length c1 :: .int .i64 (k : Int) :: .pointer (some ⟨b1, o1 + k * 3, none⟩) :: .agg #[.int .i64 q, .int .i64 kk, .slice na1 n nc1] :: .slice (some ⟨b2, o2, none⟩) ts.length c2 :: .int .i64 (k : Int) :: .pointer (some ⟨b2, o2 + k * 3, none⟩) :: .agg #[.int .i64 q, .int .i64 kk, .slice na2 n nc2] :: .bool true :: _ :: []), defers := [] } _
      refine wpAnyH_take (i := 9) (v := .bool false) rfl (by kernel_rfl) (by kernel_rfl) (by kernel_rfl) (fun _ _ _ h => h) (Or.inl ⟨by kernel_rfl, fun w hS => by go_simp⟩) hHeld ?_
      change wpAnyH _ _ _ _ _ _ _ { tmps := List.toArray (_ :: _ :: _ :: _ :: _ :: _ :: _ :: _ :: _ :: _ :: _ :: _ :: _ :: _ :: _ :: _ :: _ :: .slice (some ⟨b1, o1, none⟩) ts.length c1 :: .int .i64 (k : Int) :: .pointer (some ⟨b1, o1 + k * 3, none⟩) :: .agg #[.int .i64 q, .int .i64 kk, .slice na1 n nc1] :: .slice (some ⟨b2, o2, none⟩) ts.length c2 :: .int .i64 (k : Int) :: .pointer (some ⟨b2, o2 + k * 3, none⟩) :: .agg #[.int .i64 q, .int .i64 kk, .slice na2 n nc2] :: .bool true :: .bool false :: []), defers := [] } _
      refine wpAnyH_done (by kernel_rfl) ?_ _
      clear hbp CE x0 x1 x2 x3 x4 x5
      have HB2 := btrans hb Bp
      go_wp2
      go_roundw
      case rel => exact ⟨k + 1, by omega, by go_num, HB2⟩
      case measure => simp [intOf]; omega
    · clear h1 h2
      go_wp2
      go_ret
      exact ⟨rfl, hb⟩
def offT (k : Int) (ts : List TelV) : Nat → Int
  | 0 => k
  | j + 1 => offT k ts j + 1 + 1 + ((ts.getD j TelV.zero).b.length : Int)
theorem offT_in {k : Int} {ts : List TelV} (h0 : 0 ≤ k) (hc : ∀ i, i < ts.length → (ts.getD i TelV.zero).b.length ≤ 60) : ∀ j, j ≤ ts.length → 0 ≤ offT k ts j ∧ offT k ts j ≤ k + 62 * j := by
  intro j
  induction j with
  | zero => intro _; exact ⟨h0, by simp [offT]⟩
  | succ j ih =>
    intro hj
    obtain ⟨a, b⟩ := ih (by omega)
    have := hc j (by omega)
    simp only [offT]
    omega
/-- The list when its first j telegrams are marked from k on. -/
structure MkIn (B : Nat) (v : Value) (cs0 : List TC) (ts : List TelV) (k : Int) (j : Nat) (cs : List TC) (w : World) : Prop where
  own : w.ownsRow B 25 3 v ts.length (flatC cs)
  len : cs.length = ts.length
  same : ∀ m, (hm : m < cs.length) → cs[m].v = (cs0.getD m ⟨0, 0, .bool false⟩).v
  told : ∀ m, (hm : m < cs.length) → m < j → cs[m].q = offT k ts m ∧ cs[m].k = offT k ts m + 1
  row : ∀ m, m < ts.length → w.ownsRow B 5 1 (cs0.getD m ⟨0, 0, .bool false⟩).v (ts.getD m TelV.zero).b.length (enc8 (if m < j then marksBys (offT k ts m + 1 + 1) (ts.getD m TelV.zero).b.length else (ts.getD m TelV.zero).b))
theorem TabT.mk0 {B : Nat} {w : World} {v : Value} {cs : List TC} {ts : List TelV} (h : TabT B w v cs ts) (k : Int) : MkIn B v cs ts k 0 cs w :=
  ⟨h.own, h.len, fun m hm => by simp [List.getD, hm], fun m hm h0 => by omega, fun m hm => by
    have hm' : m < cs.length := by rw [h.len]; exact hm
    have e : cs.getD m ⟨0, 0, .bool false⟩ = cs[m] := by simp [List.getD, hm']
    rw [e, if_neg (by omega)]
    exact (h.each m hm').2.2⟩
theorem MkIn.below {B : Nat} {v : Value} {cs0 cs : List TC} {ts : List TelV} {k : Int} {j : Nat} {w w' : World} (h : MkIn B v cs0 ts k j cs w) (hb : Below w.heap.size w w') : MkIn B v cs0 ts k j cs w' :=
  ⟨own_keep h.own hb, h.len, h.same, h.told, fun m hm => own_keep (h.row m hm) hb⟩
set_option maxRecDepth 100000 in
set_option maxHeartbeats 3200000 in
theorem cMarkTels (B : Nat) (v : Value) (cs : List TC) (ts : List TelV) (k : Int) (w : World) (T : TabT B w v cs ts) (hB : B ≤ w.heap.size) (hl : ts.length ≤ 4000) (hc : ∀ i, i < ts.length → (ts.getD i TelV.zero).b.length ≤ 60) (h0 : 0 ≤ k) (hk : k ≤ 1000) :
    Calls Try.prog 41 #[v, .int .i64 k] w fun e w' => e = .returned (.int .i64 (offT k ts ts.length)) ∧ (∃ cs', MkIn B v cs ts k ts.length cs' w') ∧ Below B w w' := by
  have hof := hide (offT_in h0 hc)
  have hpr : Hid (∀ i j, i < ts.length → j < ts.length → i ≠ j → ∀ b, (cs.getD i ⟨0, 0, .bool false⟩).v.ownBlock = some b → (cs.getD j ⟨0, 0, .bool false⟩).v.ownBlock ≠ some b) := hide (fun i j hi hj hne b => by
    have hl := T.len
    have e1 : cs.getD i ⟨0, 0, .bool false⟩ = cs[i]'(by omega) := by simp [List.getD, show i < cs.length by omega]
    have e2 : cs.getD j ⟨0, 0, .bool false⟩ = cs[j]'(by omega) := by simp [List.getD, show j < cs.length by omega]
    rw [e1, e2]; exact T.pair i j (by omega) (by omega) hne b)
  have M0 := T.mk0 k
  obtain ⟨va, vc, rfl⟩ := own_form T.own
  replace hc := hide hc
  clear T
  go_enter Try.func41, Try.ntmps41
  go_wp2
  go_loopw [1, 5] (fun kk i wr => ∃ (j : Nat) (cs' : List TC), j ≤ ts.length ∧ i = .int .i64 j ∧ kk = .int .i64 (offT k ts j) ∧ MkIn B (.slice va ts.length vc) cs ts k j cs' wr ∧ Below B w wr) (fun _ i _ => ts.length - (intOf i).toNat)
  case atStart => exact ⟨0, cs, Nat.zero_le _, rfl, rfl, M0, Below.refl _ _⟩
  case round =>
    clear M0
    obtain ⟨j, cs', hj, rfl, rfl, hM, hb⟩ := hrel
    obtain ⟨o0, o1⟩ := hof.out j hj
    by_cases hlt : j < ts.length
    · have hlt' : (j : Int) < (ts.length : Int) := by omega
      have hj0 : (0 : Int) ≤ (j : Int) := by omega
      have hjc : j < cs'.length := by rw [hM.len]; exact hlt
      obtain ⟨g, rfl⟩ : ∃ g, va = some ⟨g, 0, none⟩ := by
        rcases hM.own.2 with ⟨_, h0⟩ | ⟨g, cap', cur, he, _⟩
        · omega
        · simp only [Value.slice.injEq] at he
          exact ⟨g, he.1⟩
      have hcj := hc.out j hlt
      have hrj := hM.row j hlt
      rw [if_neg (by omega)] at hrj
      obtain ⟨y0, y1, y2⟩ := flatC_get cs' j hjc
      have hl3 := flatC_len cs'
      have hle := hM.len
      have z0 := (hM.own.cellAt (j * 3) (by omega)).trans y0
      have z1 := (hM.own.cellAt (j * 3 + 1) (by omega)).trans y1
      have z2 := (hM.own.cellAt (j * 3 + 2) (by omega)).trans y2
      have f0 := hM.own.frozenAt (j * 3)
      have f1 := hM.own.frozenAt (j * 3 + 1)
      rw [hM.same j hjc] at z2
      have hoff : Hid (offT k ts (j + 1) = offT k ts j + 1 + 1 + ((ts.getD j TelV.zero).b.length : Int)) := hide rfl
      obtain ⟨s1, t1⟩ := hM.own.stored (j * 3) (.int .i64 (offT k ts j))
      obtain ⟨s2, t2⟩ := s1.stored (j * 3 + 1) (.int .i64 (offT k ts j + 1))
      rw [flatC_set2 _ _ hjc] at s2
      have hfr := hide (own_other hrj hM.own (by decide))
      have hgB := own_from hM.own (Nat.le_refl _) g rfl
      have hrow2 : Hid (∀ m, m < ts.length → ((wr.setCell ⟨g, j * 3, none⟩ (.int .i64 (offT k ts j))).setCell ⟨g, j * 3 + 1, none⟩ (.int .i64 (offT k ts j + 1))).ownsRow B 5 1 (cs.getD m ⟨0, 0, .bool false⟩).v (ts.getD m TelV.zero).b.length (enc8 (if m < j then marksBys (offT k ts m + 1 + 1) (ts.getD m TelV.zero).b.length else (ts.getD m TelV.zero).b))) := hide (fun m hm => by
        have h1 := hM.row m hm
        have h2 := own_other h1 hM.own (by decide)
        exact own_set (own_set h1 (fun x hx e => h2 x hx (by rw [e]; rfl))) (fun x hx e => h2 x hx (by rw [e]; rfl)))
      have hr2 := hrow2.out j hlt
      rw [if_neg (by omega)] at hr2
      have hB2 : Below B w ((wr.setCell ⟨g, j * 3, none⟩ (.int .i64 (offT k ts j))).setCell ⟨g, j * 3 + 1, none⟩ (.int .i64 (offT k ts j + 1))) := below_set hgB (below_set hgB hb)
      have hsm := hide hM.same
      have htd := hide hM.told
      have hcl := hide hM.len
      generalize hQ : offT k ts j = q at *
      replace hQ := hide hQ
      have hq1 : IntKind.i64.wrap (q + 1) = q + 1 := wrap_in _ (by omega) (by omega)
      have hq2 : IntKind.i64.wrap (q + 1 + 1) = q + 1 + 1 := wrap_in _ (by omega) (by omega)
      generalize hBD : (ts.getD j TelV.zero).b = bd at *
      replace hBD := hide hBD
      obtain ⟨n, hn⟩ : ∃ n, bd.length = n := ⟨_, rfl⟩
      rw [hn] at hr2 hrj hcj hoff
      have CM := cMarkBys B n _ bd (q + 1 + 1) _ hn hr2 (by omega) (by omega) (by omega)
      replace hn := hide hn
      have hv2 : ∀ x, (cs.getD j ⟨0, 0, .bool false⟩).v = x → x = (cs.getD j ⟨0, 0, .bool false⟩).v := fun x h => h.symm
      clear hv2
      obtain ⟨ba, bc, hbv⟩ := own_form hrj
      rw [hbv] at z2 CM
      replace hbv := hide hbv
      clear y0 y1 y2 hrj hM s1 t1 t2 hr2 hl3 hle hb
      go_wp2_with fail
      refine CM.mono ?_
      rintro e w3 ⟨rfl, H3, G3⟩
      rw [← hbv.out] at H3 G3
      clear CM z0 z1 z2 f0 f1
      have B3 : Below B w w3 := hB2.grown G3 (by have := hB2.size; omega) (fun x hx => own_from H3 (Nat.le_refl _) x hx)
      have O3 := own_far s2 G3 (fun x hx e => hfr.out x e.symm (by rw [← hx]))
      have M3 : MkIn B (.slice (some ⟨g, 0, none⟩) ts.length vc) cs ts k (j + 1) (cs'.set j ⟨q, q + 1, cs'[j].v⟩) w3 := by
        refine ⟨O3, by rw [List.length_set]; exact hcl.out, fun m hm => ?_, fun m hm hmj => ?_, fun m hm => ?_⟩
        · rw [List.length_set] at hm
          rw [List.getElem_set]
          split
          · rename_i e; subst e; exact hsm.out _ hm
          · exact hsm.out m hm
        · rw [List.length_set] at hm
          rw [List.getElem_set]
          split
          · rename_i e; subst e; exact ⟨hQ.out.symm, by rw [hQ.out]⟩
          · exact htd.out m hm (by omega)
        · by_cases e : m = j
          · subst e
            rw [if_pos (by omega), hQ.out, hBD.out, hn.out]
            exact H3
          · have h1 := own_far (hrow2.out m hm) G3 (fun x hx e2 => hpr.out m j hm hlt e x hx e2.symm)
            by_cases hmj : m < j
            · rw [if_pos hmj] at h1; rw [if_pos (by omega)]; exact h1
            · rw [if_neg hmj] at h1; rw [if_neg (by omega)]; exact h1
      clear s2 hrow2 H3 G3 O3 hB2 hsm htd hfr
      go_wp2
      go_roundw
      case rel => exact ⟨j + 1, _, by omega, by go_num, by rw [hoff.out], M3, B3⟩
      case measure => simp [intOf]; omega
    · obtain rfl : j = ts.length := by omega
      have hM2 := hide hM
      clear hM
      go_wp2
      go_ret
      exact ⟨rfl, ⟨cs', hM2.out⟩, hb⟩
set_option maxRecDepth 100000 in
set_option maxHeartbeats 3200000 in
theorem cHeldTels (B : Nat) (v : Value) (cs cs' : List TC) (ts : List TelV) (k : Int) (w : World) (hM : MkIn B v cs ts k ts.length cs' w) (hl : ts.length ≤ 4000) (hc : ∀ i, i < ts.length → (ts.getD i TelV.zero).b.length ≤ 60) (h0 : 0 ≤ k) (hk : k ≤ 1000) :
    Calls Try.prog 42 #[v, .int .i64 k] w fun e w' => e = .returned (.int .i64 (offT k ts ts.length)) ∧ Below w.heap.size w w' := by
  have hof := hide (offT_in h0 hc)
  obtain ⟨va, vc, rfl⟩ := own_form hM.own
  replace hc := hide hc
  replace hM := hide hM
  go_enter Try.func42, Try.ntmps42
  go_wp2
  go_loopw [1, 5] (fun kk i wr => ∃ j : Nat, j ≤ ts.length ∧ i = .int .i64 j ∧ kk = .int .i64 (offT k ts j) ∧ Below w.heap.size w wr) (fun _ i _ => ts.length - (intOf i).toNat)
  case atStart => exact ⟨0, Nat.zero_le _, rfl, rfl, Below.refl _ _⟩
  case round =>
    obtain ⟨j, hj, rfl, rfl, hb⟩ := hrel
    obtain ⟨o0, o1⟩ := hof.out j hj
    by_cases hlt : j < ts.length
    · have hlt' : (j : Int) < (ts.length : Int) := by omega
      have hj0 : (0 : Int) ≤ (j : Int) := by omega
      have hM1 := hM.out.below hb
      have hjc : j < cs'.length := by rw [hM1.len]; exact hlt
      obtain ⟨g, rfl⟩ : ∃ g, va = some ⟨g, 0, none⟩ := by
        rcases hM1.own.2 with ⟨_, h0⟩ | ⟨g, cap', cur, he, _⟩
        · omega
        · simp only [Value.slice.injEq] at he
          exact ⟨g, he.1⟩
      have hcj := hc.out j hlt
      have hrj := hM1.row j hlt
      rw [if_pos hlt] at hrj
      obtain ⟨y0, y1, y2⟩ := flatC_get cs' j hjc
      have hl3 := flatC_len cs'
      have hle := hM1.len
      have z0 := (hM1.own.cellAt (j * 3) (by omega)).trans y0
      have z1 := (hM1.own.cellAt (j * 3 + 1) (by omega)).trans y1
      have z2 := (hM1.own.cellAt (j * 3 + 2) (by omega)).trans y2
      rw [hM1.same j hjc] at z2
      obtain ⟨td1, td2⟩ := hM1.told j hjc hlt
      rw [td1] at z0
      rw [td2] at z1
      have hoff : Hid (offT k ts (j + 1) = offT k ts j + 1 + 1 + ((ts.getD j TelV.zero).b.length : Int)) := hide rfl
      generalize offT k ts j = q at *
      generalize (ts.getD j TelV.zero).b.length = n at *
      have hq1 : IntKind.i64.wrap (q + 1) = q + 1 := wrap_in _ (by omega) (by omega)
      have hq2 : IntKind.i64.wrap (q + 1 + 1) = q + 1 + 1 := wrap_in _ (by omega) (by omega)
      have CH := cHeldBys B n _ (q + 1 + 1) wr hrj (by omega) (by omega) (by omega)
      obtain ⟨ba, bc, hbv⟩ := own_form hrj
      rw [hbv] at z2 CH
      have hng : ¬ (q + 1 + 1 + (n : Int) < 0) := by omega
      clear y0 y1 y2 hrj hM1 hl3 hle hbv td1 td2
      go_wp2_with fail
      refine CH.mono ?_
      rintro e w3 ⟨rfl, hw3⟩
      subst w3
      clear CH z0 z1 z2
      go_wp2
      go_roundw
      case rel => exact ⟨j + 1, by omega, by go_num, by rw [hoff.out], hb⟩
      case measure => simp [intOf]; omega
    · obtain rfl : j = ts.length := by omega
      go_wp2
      go_ret
      exact ⟨rfl, hb⟩
end Go.Proofs.Ytgnohomplehacaa
