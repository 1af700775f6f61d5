/- Units read of a text: the program's. -/
import Derived.Test.YtnddhpdhbmbikaaDoorRH
import Derived.WalkMore
namespace Go.Proofs.YtnddhpdhbmbikaaDoor
open Go.RowKit
theorem wp_scope_two2 {P : Program} {a : Act} {w : World} {Q : Exit → Act → World → Prop} {c r0 r1 : Code} (J0 J1 : Act → World → Prop) (μ : Act → World → Nat) (h0 : findLabel c 0 = some r0) (h1 : findLabel c 1 = some (.seq .skip r1))
    (pass0 : ∀ a w, J0 a w → r0.wp P (exitTwo (fun _ _ => False) (fun _ _ => False) Q) a w)
    (pass1 : ∀ a w, J1 a w → r1.wp P (exitTwo J0 (fun a' w' => J1 a' w' ∧ μ a' w' < μ a w) Q) a w)
    (first : (∀ a w, J1 a w → r1.wp P (exitTwo J0 J1 Q) a w) → c.wp P (exitTwo J0 J1 Q) a w) : (Code.scope c).wp P Q a w := by
  refine wp_scope_two J0 J1 μ h0 h1 (first fun a w h => Code.wp_mono ?_ (pass1 a w h)) (fun a w h => wp_seq (wp_skip (pass1 a w h))) pass0
  intro e a w h
  cases e with
  | goto l' =>
    rcases h with ⟨rfl, h⟩ | ⟨rfl, h, -⟩
    · exact .inl ⟨rfl, h⟩
    · exact .inr ⟨rfl, h⟩
  | _ => exact h
theorem class_lt {l : List UInt8} {k c : Nat} (h : classO (nx l k) = some c) : k < nk l k := by
  by_cases hk : k < l.length
  · unfold nk; rw [if_pos hk]; omega
  · have e : nx l k = 0 := by simp [nx, hk]
    rw [e] at h
    simp [classO] at h
theorem nk_ge (l : List UInt8) (k : Nat) : k ≤ nk l k := by unfold nk; split <;> omega
theorem dgs_le {l : List UInt8} {k : Nat} (hk : k ≤ l.length) : k + (dgs l k).length ≤ l.length := by rcases dgs_end l k hk with h | ⟨h, -⟩ <;> omega
theorem unitO_n1 {l : List UInt8} {k : Nat} (hc : classO (nx l k) = none) : unitO l k = none := by simp [unitO, hc]
theorem unitO_n2 {l : List UInt8} {k k1 c : Nat} (hc : classO (nx l k) = some c) (e1 : nk l k = k1) (hi : numO 9999 (dgs l k1) = none) : unitO l k = none := by subst e1; simp [unitO, hc, hi]
theorem unitO_n3 {l : List UInt8} {k k1 k2 c i : Nat} (hc : classO (nx l k) = some c) (e1 : nk l k = k1) (hi : numO 9999 (dgs l k1) = some i) (e2 : k1 + (dgs l k1).length = k2) (hx : ¬ nx l k2 = 47) : unitO l k = none := by subst e1 e2; simp [unitO, hc, hi, hx]
theorem unitO_n4 {l : List UInt8} {k k1 k2 k3 c i : Nat} (hc : classO (nx l k) = some c) (e1 : nk l k = k1) (hi : numO 9999 (dgs l k1) = some i) (e2 : k1 + (dgs l k1).length = k2) (hx : nx l k2 = 47) (e3 : nk l k2 = k3) (hm : numO 200 (dgs l k3) = none) : unitO l k = none := by subst e1 e2 e3; simp [unitO, hc, hi, hx, hm]
theorem unitO_n5 {l : List UInt8} {k k1 k2 k3 k4 c i m : Nat} (hc : classO (nx l k) = some c) (e1 : nk l k = k1) (hi : numO 9999 (dgs l k1) = some i) (e2 : k1 + (dgs l k1).length = k2) (hx : nx l k2 = 47) (e3 : nk l k2 = k3) (hm : numO 200 (dgs l k3) = some m) (e4 : k3 + (dgs l k3).length = k4) (hb : endO (nx l k4) = none) : unitO l k = none := by subst e1 e2 e3 e4; simp [unitO, hc, hi, hx, hm, hb]
theorem unitO_s {l : List UInt8} {k k1 k2 k3 k4 k5 c i m : Nat} {b : Bool} (hc : classO (nx l k) = some c) (e1 : nk l k = k1) (hi : numO 9999 (dgs l k1) = some i) (e2 : k1 + (dgs l k1).length = k2) (hx : nx l k2 = 47) (e3 : nk l k2 = k3) (hm : numO 200 (dgs l k3) = some m) (e4 : k3 + (dgs l k3).length = k4) (hb : endO (nx l k4) = some b) (e5 : nk l k4 = k5) : unitO l k = some (⟨i, c, m, b⟩, k5) := by subst e1 e2 e3 e4 e5; simp [unitO, hc, hi, hx, hm, hb]
theorem AnsM.some {z r v : Value} {e : Ending} (h : AnsM z (some r) v e) : e = .returned (.tuple #[r, .nilIface]) := by
  rcases h with ⟨r', h, rfl⟩ | ⟨h, -⟩
  · cases h; rfl
  · cases h
theorem AnsM.none {z v : Value} {e : Ending} (h : AnsM z none v e) : ∃ m, e = .returned (.tuple #[z, mis m v]) := by
  rcases h with ⟨r', h, rfl⟩ | ⟨-, h⟩
  · cases h
  · exact h
/-- What readUnits answers. -/
def UAns (w : World) (g k : Nat) (l : List UInt8) (T : TypeId) (u : Value) (e : Ending) (W : World) : Prop :=
  Rd g w W ∧ ∃ us v, us.length ≤ l.length ∧ W.ownsRow (w.heap.size + 1) 34 4 v us.length (flatUs us) ∧
    ((Prs l k (some us) ∧ e = .returned (.tuple #[v, .nilIface])) ∨ (Prs l k none ∧ ∃ m, e = .returned (.tuple #[v, mis m (.iface T u)])))
theorem Hv.fr {w : World} {g : Nat} {us : List UV} {v : Value} {y : UV} {W : World} (h : Hv w g us v y W) (i : Nat) : W.frozen? ⟨w.heap.size, i, none⟩ = false := by simp [World.frozen?, h.ub]
theorem Hv.c0 {w : World} {g : Nat} {us : List UV} {v : Value} {y : UV} {W : World} (h : Hv w g us v y W) : W.cell? ⟨w.heap.size, 0, none⟩ = some (.int .i64 y.i) := blk_cellR h.ub 0
theorem Hv.c1 {w : World} {g : Nat} {us : List UV} {v : Value} {y : UV} {W : World} (h : Hv w g us v y W) : W.cell? ⟨w.heap.size, 1, none⟩ = some (.int .i64 y.c) := blk_cellR h.ub 1
theorem Hv.c2 {w : World} {g : Nat} {us : List UV} {v : Value} {y : UV} {W : World} (h : Hv w g us v y W) : W.cell? ⟨w.heap.size, 2, none⟩ = some (.int .i64 y.m) := blk_cellR h.ub 2
theorem Hv.c3 {w : World} {g : Nat} {us : List UV} {v : Value} {y : UV} {W : World} (h : Hv w g us v y W) : W.cell? ⟨w.heap.size, 3, none⟩ = some (.bool y.b) := blk_cellR h.ub 3
def JW (w : World) (g k : Nat) (l : List UInt8) (T : TypeId) (u : Value) (a' : Act) (W : World) : Prop := ∃ (f : Nat → Value) (us : List UV) (v : Value) (y : UV) (m : ByteArray), a' = { tmps := List.toArray (.pointer (some ⟨g, 0, none⟩) :: f 1 :: f 2 :: f 3 :: v :: .pointer (some ⟨w.heap.size, 0, none⟩) :: mis m (.iface T u) :: f 7 :: f 8 :: f 9 :: f 10 :: f 11 :: f 12 :: f 13 :: f 14 :: f 15 :: f 16 :: f 17 :: f 18 :: f 19 :: f 20 :: f 21 :: f 22 :: f 23 :: f 24 :: f 25 :: f 26 :: f 27 :: f 28 :: f 29 :: f 30 :: f 31 :: f 32 :: f 33 :: f 34 :: f 35 :: f 36 :: f 37 :: f 38 :: f 39 :: f 40 :: f 41 :: f 42 :: f 43 :: f 44 :: f 45 :: f 46 :: f 47 :: f 48 :: f 49 :: f 50 :: f 51 :: f 52 :: f 53 :: f 54 :: f 55 :: f 56 :: f 57 :: f 58 :: f 59 :: f 60 :: []), defers := [] } ∧ Hv w g us v y W ∧ us.length ≤ l.length ∧ Prs l k none
def JU (w : World) (g k : Nat) (l : List UInt8) (a' : Act) (W : World) : Prop := ∃ (f : Nat → Value) (k' : Nat) (us : List UV) (v : Value) (y : UV), a' = { tmps := List.toArray (.pointer (some ⟨g, 0, none⟩) :: f 1 :: f 2 :: f 3 :: v :: .pointer (some ⟨w.heap.size, 0, none⟩) :: f 6 :: f 7 :: f 8 :: f 9 :: f 10 :: f 11 :: f 12 :: f 13 :: f 14 :: f 15 :: f 16 :: f 17 :: f 18 :: f 19 :: f 20 :: f 21 :: f 22 :: f 23 :: f 24 :: f 25 :: f 26 :: f 27 :: f 28 :: f 29 :: f 30 :: f 31 :: f 32 :: f 33 :: f 34 :: f 35 :: f 36 :: f 37 :: f 38 :: f 39 :: f 40 :: f 41 :: f 42 :: f 43 :: f 44 :: f 45 :: f 46 :: f 47 :: f 48 :: f 49 :: f 50 :: f 51 :: f 52 :: f 53 :: f 54 :: f 55 :: f 56 :: f 57 :: f 58 :: f 59 :: f 60 :: []), defers := [] } ∧ Hv w g us v y W ∧ Sg W g k' l ∧ k' ≤ l.length ∧ us.length ≤ k' ∧ ∀ r, Prs l k' r → Prs l k (r.map (us ++ ·))
set_option maxRecDepth 1000000 in
theorem JW.mk {w : World} {g k : Nat} {l : List UInt8} {T : TypeId} {u : Value} {W : World} {us : List UV} {v : Value} {y : UV} {m : ByteArray} {x1 x2 x3 x7 x8 x9 x10 x11 x12 x13 x14 x15 x16 x17 x18 x19 x20 x21 x22 x23 x24 x25 x26 x27 x28 x29 x30 x31 x32 x33 x34 x35 x36 x37 x38 x39 x40 x41 x42 x43 x44 x45 x46 x47 x48 x49 x50 x51 x52 x53 x54 x55 x56 x57 x58 x59 x60 : Value} (h1 : Hv w g us v y W) (h2 : us.length ≤ l.length) (h3 : Prs l k none) : JW w g k l T u { tmps := List.toArray (.pointer (some ⟨g, 0, none⟩) :: x1 :: x2 :: x3 :: v :: .pointer (some ⟨w.heap.size, 0, none⟩) :: mis m (.iface T u) :: x7 :: x8 :: x9 :: x10 :: x11 :: x12 :: x13 :: x14 :: x15 :: x16 :: x17 :: x18 :: x19 :: x20 :: x21 :: x22 :: x23 :: x24 :: x25 :: x26 :: x27 :: x28 :: x29 :: x30 :: x31 :: x32 :: x33 :: x34 :: x35 :: x36 :: x37 :: x38 :: x39 :: x40 :: x41 :: x42 :: x43 :: x44 :: x45 :: x46 :: x47 :: x48 :: x49 :: x50 :: x51 :: x52 :: x53 :: x54 :: x55 :: x56 :: x57 :: x58 :: x59 :: x60 :: []), defers := [] } W :=
  ⟨fun i => [undef, x1, x2, x3, undef, undef, undef, x7, x8, x9, x10, x11, x12, x13, x14, x15, x16, x17, x18, x19, x20, x21, x22, x23, x24, x25, x26, x27, x28, x29, x30, x31, x32, x33, x34, x35, x36, x37, x38, x39, x40, x41, x42, x43, x44, x45, x46, x47, x48, x49, x50, x51, x52, x53, x54, x55, x56, x57, x58, x59, x60].getD i undef, us, v, y, m, rfl, h1, h2, h3⟩
set_option maxRecDepth 1000000 in
theorem JU.mk {w : World} {g k : Nat} {l : List UInt8} {W : World} {us : List UV} {v : Value} {y : UV} {x1 x2 x3 x6 x7 x8 x9 x10 x11 x12 x13 x14 x15 x16 x17 x18 x19 x20 x21 x22 x23 x24 x25 x26 x27 x28 x29 x30 x31 x32 x33 x34 x35 x36 x37 x38 x39 x40 x41 x42 x43 x44 x45 x46 x47 x48 x49 x50 x51 x52 x53 x54 x55 x56 x57 x58 x59 x60 : Value} (k' : Nat) (h1 : Hv w g us v y W) (h2 : Sg W g k' l) (h3 : k' ≤ l.length) (h4 : us.length ≤ k') (h5 : ∀ r, Prs l k' r → Prs l k (r.map (us ++ ·))) : JU w g k l { tmps := List.toArray (.pointer (some ⟨g, 0, none⟩) :: x1 :: x2 :: x3 :: v :: .pointer (some ⟨w.heap.size, 0, none⟩) :: x6 :: x7 :: x8 :: x9 :: x10 :: x11 :: x12 :: x13 :: x14 :: x15 :: x16 :: x17 :: x18 :: x19 :: x20 :: x21 :: x22 :: x23 :: x24 :: x25 :: x26 :: x27 :: x28 :: x29 :: x30 :: x31 :: x32 :: x33 :: x34 :: x35 :: x36 :: x37 :: x38 :: x39 :: x40 :: x41 :: x42 :: x43 :: x44 :: x45 :: x46 :: x47 :: x48 :: x49 :: x50 :: x51 :: x52 :: x53 :: x54 :: x55 :: x56 :: x57 :: x58 :: x59 :: x60 :: []), defers := [] } W :=
  ⟨fun i => [undef, x1, x2, x3, undef, undef, x6, x7, x8, x9, x10, x11, x12, x13, x14, x15, x16, x17, x18, x19, x20, x21, x22, x23, x24, x25, x26, x27, x28, x29, x30, x31, x32, x33, x34, x35, x36, x37, x38, x39, x40, x41, x42, x43, x44, x45, x46, x47, x48, x49, x50, x51, x52, x53, x54, x55, x56, x57, x58, x59, x60].getD i undef, k', us, v, y, rfl, h1, h2, h3, h4, h5⟩

set_option maxRecDepth 1000000 in
set_option maxHeartbeats 6400000 in
theorem cUnits (g k : Nat) (l : List UInt8) (w : World) (T : TypeId) (u : Value) (hv : w.cell? ⟨0, 0, none⟩ = some (.iface T u)) (h0 : 0 < g) (hg : Sg w g k l) (hk : k ≤ l.length) (hm : l.length ≤ 1048576) :
    Calls Tryd.prog 52 #[.pointer (some ⟨g, 0, none⟩)] w (UAns w g k l T u) := by
  have hgl := hg.lt
  go_enter Tryd.func52, Tryd.ntmps52
  go_wp2
  refine wp_scope_two2 (JW w g k l T u) (JU w g k l)
    (fun _ W => l.length + 1 - plOf g W) rfl rfl ?pass0 ?pass1 ?first
  case pass0 =>
    rintro a' W ⟨f, us, v, y, m, rfl, hH, hus, hp⟩
    go_wp2
    go_ret2
    exact ⟨hH.rd, us, v, hus, hH.row, .inr ⟨hp, m, rfl⟩⟩
  case first =>
    intro hp
    have hH : Hv w g [] (.slice none 0 0) UV.zero (w.alloc (.cells #[.int .i64 0, .int .i64 0, .int .i64 0, .bool false] 34)) :=
      ⟨hgl, Rd.of (balloc _ _) hgl, one_block' w _, World.ownsRow_nil _ _ _ _⟩
    have hs := hg.keep (balloc w (.cells #[.int .i64 0, .int .i64 0, .int .i64 0, .bool false] 34))
    go_wp2
    go_step3
    rename_i K hK
    exact hK _ _ (hp _ _ (JU.mk k hH hs hk (Nat.zero_le _) (fun r hr => by simpa using hr)))
  case pass1 =>
    rintro a' W ⟨f, k', us, v, y, rfl, hH, hs, hk', hus, hpre⟩
    have hpl := plOf_sg hs
    have cv := hH.cell0 h0 hv
    have C1 := cClass g k' l W T u cv h0 hs hk' hm
    obtain ⟨k1, e1⟩ : ∃ k1, nk l k' = k1 := ⟨_, rfl⟩
    have n1 : k1 ≤ l.length ∧ k' ≤ k1 := by rw [← e1]; exact ⟨nk_le hk', nk_ge _ _⟩
    rw [e1] at C1
    rcases hc : classO (nx l k') with _ | c
    · rw [hc] at C1
      have hbad := hide (hpre none (Prs.bad (unitO_n1 hc)))
      go_wp2_with fail
      refine C1.mono ?_
      rintro e W1 ⟨hA, hs1, hr1⟩
      obtain ⟨m, rfl⟩ := AnsM.none hA
      have hH1 := hH.step hr1
      have hf1 := hH1.fr 1
      have q1 := hH1.c1
      clear hH hs cv C1 hA
      go_wp2
      go_step3
      exact .inl ⟨rfl, JW.mk (hH1.set (y' := ⟨y.i, 0, y.m, y.b⟩) rfl) (by omega) hbad.out⟩
    rw [hc] at C1
    go_wp2_with fail
    refine C1.mono ?_
    rintro e W1 ⟨hA, hs1, hr1⟩
    obtain rfl := AnsM.some hA
    replace hH := hH.step hr1
    have hf1 := hH.fr 1
    have q1 := hH.c1
    clear hs cv C1 hA hr1
    replace hH := hH.set (j := 1) (u := .int .i64 (c : Int)) (y' := ⟨y.i, c, y.m, y.b⟩) rfl
    have hs := Sg.set (j := 1) (u := .int .i64 (c : Int)) hs1 hgl
    go_wp2_with fail
    generalize W1.setCell ⟨w.heap.size, 1, none⟩ (.int .i64 (c : Int)) = W2 at *
    clear hf1 q1 hs1
    have cv := hH.cell0 h0 hv
    obtain ⟨k2, e2⟩ : ∃ k2, k1 + (dgs l k1).length = k2 := ⟨_, rfl⟩
    have nk2 : k2 ≤ l.length ∧ k1 ≤ k2 := by rw [← e2]; exact ⟨dgs_le n1.1, Nat.le_add_right _ _⟩
    have C := cNumber g k1 9999 l _ T u cv h0 hs n1.1 hm (by decide)
    rw [e2] at C
    rcases hi : numO 9999 (dgs l k1) with _ | i
    · rw [hi] at C
      have hbad := hide (hpre none (Prs.bad (unitO_n2 hc e1 hi)))
      refine C.mono ?_
      rintro e W1 ⟨hA, hs1, hr1⟩
      obtain ⟨m, rfl⟩ := AnsM.none hA
      replace hH := hH.step hr1
      have hf1 := hH.fr 0
      have q1 := hH.c0
      clear hs cv C hA
      go_wp2
      go_step3
      exact .inl ⟨rfl, JW.mk (hH.set (y' := ⟨0, c, y.m, y.b⟩) rfl) (by omega) hbad.out⟩
    rw [hi] at C
    refine C.mono ?_
    rintro e W1 ⟨hA, hs1, hr1⟩
    obtain rfl := AnsM.some hA
    replace hH := hH.step hr1
    have hf1 := hH.fr 0
    have q1 := hH.c0
    clear hs cv C hA hr1
    replace hH := hH.set (j := 0) (u := .int .i64 (i : Int)) (y' := ⟨(i : Int), c, y.m, y.b⟩) rfl
    have hs := Sg.set (j := 0) (u := .int .i64 (i : Int)) hs1 hgl
    go_wp2_with fail
    generalize W1.setCell ⟨w.heap.size, 0, none⟩ (.int .i64 (i : Int)) = W3 at *
    generalize W2 = Wz at *
    generalize W3 = W2 at *
    clear hf1 q1 hs1
    have cv := hH.cell0 h0 hv
    obtain ⟨k3, e3⟩ : ∃ k3, nk l k2 = k3 := ⟨_, rfl⟩
    have n3 : k3 ≤ l.length ∧ k2 ≤ k3 := by rw [← e3]; exact ⟨nk_le nk2.1, nk_ge _ _⟩
    have C := cNext g k2 l _ hs nk2.1 hm
    rw [e3] at C
    refine C.mono ?_
    rintro e W1 ⟨rfl, hs1, hr1⟩
    replace hH := hH.step hr1
    clear hs cv C hr1
    have cv := hH.cell0 h0 hv
    by_cases h47 : nx l k2 = 47
    rotate_left
    · have hbad := hide (hpre none (Prs.bad (unitO_n3 hc e1 hi e2 h47)))
      have hz : ¬ (((nx l k2).toNat : Int) = 47) := by intro e; exact h47 (UInt8.toNat_inj.1 (by simpa using Int.ofNat.inj e))
      generalize ((nx l k2).toNat : Int) = Z at *
      go_wp2
      go_step3
      exact .inl ⟨rfl, JW.mk hH (by omega) hbad.out⟩
    have hz : ((nx l k2).toNat : Int) = 47 := by rw [h47]; rfl
    rw [hz]
    go_wp2_with fail
    have hs := hs1
    clear hs1
    generalize W1 = W2 at *
    obtain ⟨k4, e4⟩ : ∃ k4, k3 + (dgs l k3).length = k4 := ⟨_, rfl⟩
    have nk4 : k4 ≤ l.length ∧ k3 ≤ k4 := by rw [← e4]; exact ⟨dgs_le n3.1, Nat.le_add_right _ _⟩
    have C := cNumber g k3 200 l _ T u cv h0 hs n3.1 hm (by decide)
    rw [e4] at C
    rcases hmt : numO 200 (dgs l k3) with _ | mt
    · rw [hmt] at C
      have hbad := hide (hpre none (Prs.bad (unitO_n4 hc e1 hi e2 h47 e3 hmt)))
      refine C.mono ?_
      rintro e W1 ⟨hA, hs1, hr1⟩
      obtain ⟨m, rfl⟩ := AnsM.none hA
      replace hH := hH.step hr1
      have hf1 := hH.fr 2
      have q1 := hH.c2
      clear hs cv C hA
      go_wp2
      go_step3
      exact .inl ⟨rfl, JW.mk (hH.set (y' := ⟨(i : Int), c, 0, y.b⟩) rfl) (by omega) hbad.out⟩
    rw [hmt] at C
    refine C.mono ?_
    rintro e W1 ⟨hA, hs1, hr1⟩
    obtain rfl := AnsM.some hA
    replace hH := hH.step hr1
    have hf1 := hH.fr 2
    have q1 := hH.c2
    clear hs cv C hA hr1
    replace hH := hH.set (j := 2) (u := .int .i64 (mt : Int)) (y' := ⟨(i : Int), c, (mt : Int), y.b⟩) rfl
    have hs := Sg.set (j := 2) (u := .int .i64 (mt : Int)) hs1 hgl
    go_wp2_with fail
    generalize W1.setCell ⟨w.heap.size, 2, none⟩ (.int .i64 (mt : Int)) = W3 at *
    generalize W3 = W2 at *
    clear hf1 q1 hs1
    have cv := hH.cell0 h0 hv
    obtain ⟨k5, e5⟩ : ∃ k5, nk l k4 = k5 := ⟨_, rfl⟩
    have n5 : k5 ≤ l.length ∧ k4 ≤ k5 := by rw [← e5]; exact ⟨nk_le nk4.1, nk_ge _ _⟩
    have C := cEnd g k4 l _ T u cv h0 hs nk4.1 hm
    rw [e5] at C
    rcases hb : endO (nx l k4) with _ | bk
    · rw [hb] at C
      have hbad := hide (hpre none (Prs.bad (unitO_n5 hc e1 hi e2 h47 e3 hmt e4 hb)))
      refine C.mono ?_
      rintro e W1 ⟨hA, hs1, hr1⟩
      obtain ⟨m, rfl⟩ := AnsM.none hA
      replace hH := hH.step hr1
      have hf1 := hH.fr 3
      have q1 := hH.c3
      clear hs cv C hA
      go_wp2
      go_step3
      exact .inl ⟨rfl, JW.mk (hH.set (y' := ⟨i, c, mt, false⟩) rfl) (by omega) hbad.out⟩
    rw [hb] at C
    refine C.mono ?_
    rintro e W1 ⟨hA, hs1, hr1⟩
    obtain rfl := AnsM.some hA
    replace hH := hH.step hr1
    have hf1 := hH.fr 3
    have q1 := hH.c3
    clear hs cv C hA hr1
    have hk1' : k' < k1 := by rw [← e1]; exact class_lt hc
    have hU := unitO_s hc e1 hi e2 h47 e3 hmt e4 hb e5
    clear hc hi hmt hb h47
    replace hH := hH.set (j := 3) (u := .bool bk) (y' := ⟨i, c, mt, bk⟩) rfl
    have hs := Sg.set (j := 3) (u := .bool bk) hs1 hgl
    have q5 : (W1.setCell ⟨w.heap.size, 3, none⟩ (.bool bk)).cell? ⟨w.heap.size, 0, none⟩ = some (.int .i64 (i : Int)) := hH.c0
    have q6 : (W1.setCell ⟨w.heap.size, 3, none⟩ (.bool bk)).cell? ⟨w.heap.size, 1, none⟩ = some (.int .i64 (c : Int)) := hH.c1
    have q7 : (W1.setCell ⟨w.heap.size, 3, none⟩ (.bool bk)).cell? ⟨w.heap.size, 2, none⟩ = some (.int .i64 (mt : Int)) := hH.c2
    have q8 : (W1.setCell ⟨w.heap.size, 3, none⟩ (.bool bk)).cell? ⟨w.heap.size, 3, none⟩ = some (.bool bk) := hH.c3
    obtain ⟨i0, hi0, hz0, hz1, hz2⟩ := info_parts infoUs
    have hx5 := balloc (W1.setCell ⟨w.heap.size, 3, none⟩ (.bool bk)) (.cells #[.int .i64 (i : Int), .int .i64 (c : Int), .int .i64 (mt : Int), .bool bk] 34)
    have hN := one_block' (W1.setCell ⟨w.heap.size, 3, none⟩ (.bool bk)) (.cells #[.int .i64 (i : Int), .int .i64 (c : Int), .int .i64 (mt : Int), .bool bk] 34)
    have ho6 := own_keep hH.row hx5
    have hsz5 := lt_of_block hH.ub
    have hsx := hx5.size
    go_wp2_with (at_builtin; refine wpList_append_own _ rfl _ _ 24 rfl (w.heap.size + 1) 34 i0 _ 4 32 Tryd.underlying24 hi0 hz0 hz1 hz2 rfl (by decide) _ _ _ rfl ho6 ⟨_, 0, none⟩ 1 1 [.int .i64 (i : Int), .int .i64 (c : Int), .int .i64 (mt : Int), .bool bk] rfl rfl ?c1 ?c2 ?c3 ?c4 ?c5 ?_)
    case c1 => exact World.news_of_block (by simpa using hN)
    case c2 => intro u hu; simp at hu; rcases hu with rfl | rfl | rfl | rfl <;> rfl
    case c3 => unfold maxLen; omega
    case c4 => omega
    case c5 => omega
    intro v2 w5 hown hgrow _
    have hP := hH.push hx5 hown hgrow
    have hs5 := Sg.push hH hs hx5 hgrow
    clear hH hs hx5 hN ho6 hsz5 hsx hown hgrow q5 q6 q7 q8 hf1 q1 hs1 hi0 hz0 hz1 hz2
    have hus5 : (us ++ [(⟨i, c, mt, bk⟩ : UV)]).length = us.length + 1 := by simp
    generalize (⟨i, c, mt, bk⟩ : UV) = yy at *
    have C := cLeft g k5 l w5 hs5 n5.1
    by_cases hend : k5 = l.length
    · have hgood := hide (hpre _ (Prs.last hU hend))
      have hne9 : (⟨(l.drop k5).toArray⟩ : ByteArray).toList.isEmpty = true := by
        rw [List.drop_of_length_le (by omega), ByteArray.toList_eq]
        rfl
      generalize (⟨(l.drop k5).toArray⟩ : ByteArray) = d9 at *
      go_wp2_with fail
      refine C.mono ?_
      rintro e W6 ⟨rfl, hb6⟩
      have hH6 := hP.step (Rd.of hb6 hs5.lt)
      clear C
      go_wp2
      go_ret2
      exact ⟨hH6.rd, us ++ [yy], v2, by omega, hH6.row, .inl ⟨hgood.out, rfl⟩⟩
    have hne9 : (⟨(l.drop k5).toArray⟩ : ByteArray).toList.isEmpty = false := by
      rw [ByteArray.toList_eq]
      cases hd : l.drop k5 with
      | nil => have := congrArg List.length hd; simp at this; omega
      | cons a b => rfl
    generalize (⟨(l.drop k5).toArray⟩ : ByteArray) = d9 at *
    go_wp2_with fail
    refine C.mono ?_
    rintro e W6 ⟨rfl, hb6⟩
    have hH6 := hP.step (Rd.of hb6 hs5.lt)
    have hs6 := hs5.keep hb6
    clear C hb6 hP hs5
    obtain ⟨k6, e6⟩ : ∃ k6, nk l k5 = k6 := ⟨_, rfl⟩
    have n6 : k6 ≤ l.length ∧ k6 = k5 + 1 := by
      have hlt : k5 < l.length := by omega
      rw [← e6]
      exact ⟨nk_le n5.1, by unfold nk; rw [if_pos hlt]⟩
    have C := cNext g k5 l W6 hs6 n5.1 hm
    rw [e6] at C
    go_wp2_with fail
    refine C.mono ?_
    rintro e W7 ⟨rfl, hs7, hr7⟩
    have hH7 := hH6.step hr7
    have cv7 := hH7.cell0 h0 hv
    clear C hr7 hH6 hs6
    by_cases h43 : nx l k5 = 43
    · have hz : ((nx l k5).toNat : Int) = 43 := by rw [h43]; rfl
      rw [hz]
      go_wp2
      go_step3
      refine .inr ⟨rfl, JU.mk k6 hH7 hs7 n6.1 (by omega) (fun r hr => ?_), ?_⟩
      · have := hpre _ (Prs.more hU hend h43 (by rw [e6]; exact hr))
        simpa [Function.comp_def] using this
      · rw [hpl, plOf_sg hs7]
        omega
    · have hbad := hide (hpre none (Prs.sep hU hend h43))
      have hz : ¬ (((nx l k5).toNat : Int) = 43) := by intro e; exact h43 (UInt8.toNat_inj.1 (by simpa using Int.ofNat.inj e))
      generalize ((nx l k5).toNat : Int) = Z at *
      go_wp2
      go_step3
      go_wp2
      go_ret2
      exact ⟨hH7.rd, us ++ [yy], v2, by omega, hH7.row, .inr ⟨hbad.out, _, rfl⟩⟩
end Go.Proofs.YtnddhpdhbmbikaaDoor
