/- A list of trips in rows of its own is marked, and its marks are held. -/
import Derived.Test.YtndjjopplejkgaaDoorTB
import Derived.Test.YtndjjopplejkgaaDoorMKb
import Derived.Deep.RegionHeld3
namespace Go.Proofs.YtndjjopplejkgaaDoor
open Go.RowKit
/-- The digits of a mark's text. -/
def mbT (n : Nat) (s : ByteArray) : ByteArray := if _h : n = 0 then s else mbT (n / 10) (strOfNums [48 + (n : Int) % 10] ++ s)
  termination_by n
  decreasing_by omega
theorem mbT_zero (s : ByteArray) : mbT 0 s = s := by rw [mbT]; simp
theorem mbT_step {n : Nat} (s : ByteArray) (h : n ≠ 0) : mbT n s = mbT (n / 10) (strOfNums [48 + (n : Int) % 10] ++ s) := by rw [mbT]; simp [h]
/-- The text of a mark. -/
def mtx (k : Int) : ByteArray := if k ≤ 0 then ⟨#[109, 48]⟩ else ⟨#[109]⟩ ++ mbT k.toNat ⟨#[]⟩
theorem conv_num (wr : World) (z : Int) : Sem.run Tryd.prog (convert 22 9 (Value.slice (some ⟨wr.heap.size, 0, none⟩) 1 1)) (wr.alloc (Obj.cells #[Value.int .u8 z] 5)) =
    .ok (.string (strOfNums [z])) (wr.alloc (Obj.cells #[Value.int .u8 z] 5)) := by
  exact run_convert_bytes_arg (P := Tryd.prog) (wr.alloc (Obj.cells #[Value.int .u8 z] 5)) 22 5 Tryd.underlying22 Tryd.underlying5 wr.heap.size 0 1 1 [z] rfl
    (fun i hi => by obtain rfl : i = 0 := by omega
                    simp) 9 Tryd.underlying9
theorem num_sz (z : Int) (s : ByteArray) : (strOfNums [z] ++ s).size = s.size + 1 := by
  obtain ⟨b, hb⟩ : ∃ b, strOfNums [z] = (⟨#[b]⟩ : ByteArray) := ⟨_, rfl⟩
  rw [hb]; exact str_sz b s
set_option maxRecDepth 100000 in
set_option maxHeartbeats 800000 in
theorem cMarkTxt (k : Int) (w : World) (h0 : 0 ≤ k) (hk : k ≤ 10000000000000) : Calls Tryd.prog 51 #[.int .i64 k] w fun e w' => e = .returned (.string (mtx k)) ∧ Below w.heap.size w w' := by
  by_cases hz : k ≤ 0
  · have hm : Hid (mtx k = ⟨#[109, 48]⟩) := hide (by unfold mtx; rw [if_pos hz])
    go_enter Tryd.func51, Tryd.ntmps51
    go_wp2
    go_ret
    exact ⟨by rw [hm.out]; rfl, Below.refl _ _⟩
  have hm : Hid (mtx k = ⟨#[109]⟩ ++ mbT k.toNat ⟨#[]⟩) := hide (by unfold mtx; rw [if_neg hz])
  go_enter Tryd.func51, Tryd.ntmps51
  go_wp2
  go_loopw [0, 3] (fun xx out wr => ∃ (n : Nat) (s : ByteArray), xx = .int .i64 n ∧ out = .string s ∧ s.size + n ≤ 10000000000000 ∧ Hid (mbT n s = mbT k.toNat ⟨#[]⟩) ∧ Below w.heap.size w wr) (fun xx _ _ => (intOf xx).toNat)
  case atStart => exact ⟨k.toNat, ⟨#[]⟩, by congr 1; omega, rfl, by show 0 + _ ≤ _; omega, hide rfl, Below.refl _ _⟩
  case round =>
    obtain ⟨n, s, rfl, rfl, hlen, hM, hb⟩ := hrel
    by_cases hn0 : n = 0
    · subst hn0
      have hlt : ¬ ((0 : Int) < ((0 : Nat) : Int)) := by simp
      have hs : ¬ 9223372036854775807 < 1 + s.size := by omega
      have hE : Hid (mtx k = ⟨#[109]⟩ ++ s) := hide (by rw [hm.out, ← hM.out, mbT_zero])
      go_wp2
      go_ret
      exact ⟨by rw [hE.out]; rfl, hb⟩
    · have hlt : (0 : Int) < (n : Int) := by omega
      have HN := hide hn0
      have hM2 : Hid (mbT (n / 10) (strOfNums [48 + (n : Int) % 10] ++ s) = mbT k.toNat ⟨#[]⟩) := hide (by rw [← mbT_step s hn0]; exact hM.out)
      clear hn0
      have hconv := conv_num wr (48 + (n : Int) % 10)
      have hs : ¬ 9223372036854775807 < 1 + s.size := by omega
      have hs2 : (strOfNums [48 + (n : Int) % 10]).size = 1 := rfl
      go_wp2
      go_roundw
      case rel => exact ⟨n / 10, _, by go_num, rfl, by have := HN.out; rw [num_sz]; omega, hM2, hb.alloc hb.size _⟩
      case measure => have := HN.out; simp [intOf]; omega
/-- Nothing turns but the blocks of P. -/
structure Fr (P : Nat → Prop) (w w' : World) : Prop where
  os : w'.os = w.os
  tape : w'.tape = w.tape
  output : w'.output = w.output
  size : w.heap.size ≤ w'.heap.size
  block : ∀ k, k < w.heap.size → ¬ P k → w'.heap[k]? = w.heap[k]?
theorem Fr.refl (P : Nat → Prop) (w : World) : Fr P w w := ⟨rfl, rfl, rfl, Nat.le_refl _, fun _ _ _ => rfl⟩
theorem Fr.trans {P : Nat → Prop} {w w' w2 : World} (h : Fr P w w') (k : Fr P w' w2) : Fr P w w2 :=
  ⟨k.os.trans h.os, k.tape.trans h.tape, k.output.trans h.output, Nat.le_trans h.size k.size, fun b hb hP => (k.block b (Nat.lt_of_lt_of_le hb h.size) hP).trans (h.block b hb hP)⟩
theorem Fr.of {P : Nat → Prop} {w w' : World} (h : Below w.heap.size w w') : Fr P w w' := ⟨h.os, h.tape, h.output, h.size, fun j hj _ => h.block j hj⟩
theorem Fr.ofg {P : Nat → Prop} {w w' : World} {r : Option Nat} (h : w.grownBy w' r) (hr : ∀ b, r = some b → P b) : Fr P w w' :=
  ⟨h.os, h.tape, h.output, h.size, fun j hj hP => h.block j hj (fun e => hP (hr j e.symm))⟩
theorem Fr.below {P : Nat → Prop} {w0 w w' : World} (h : Fr P w w') (hb : Below w0.heap.size w0 w) (hP : ∀ k, P k → w0.heap.size ≤ k) : Below w0.heap.size w0 w' :=
  ⟨h.os.trans hb.os, h.tape.trans hb.tape, h.output.trans hb.output, Nat.le_trans hb.size h.size, fun k hk => (h.block k (Nat.lt_of_lt_of_le hk hb.size) (fun e => by have := hP k e; omega)).trans (hb.block k hk)⟩
theorem own_fr {P : Nat → Prop} {w w' : World} {base e sz n : Nat} {v : Value} {xs : List Value} (h : w.ownsRow base e sz v n xs) (hs : Fr P w w') (hx : ∀ k, v.ownBlock = some k → ¬ P k) : w'.ownsRow base e sz v n xs := by
  obtain ⟨h1, h2⟩ := h
  refine ⟨h1, ?_⟩
  rcases h2 with h2 | ⟨g, cap, cur, hv, hg, hh, r⟩
  · exact .inl h2
  · refine .inr ⟨g, cap, cur, hv, hg, ?_, r⟩
    exact (hs.block g (lt_of_block hh) (hx g (by rw [hv]; rfl))).trans hh
theorem blk_fr {P : Nat → Prop} {w w' : World} (hs : Fr P w w') {b : Nat} {o : Obj} (h : w.heap[b]? = some o) (hne : ¬ P b) : w'.heap[b]? = some o := (hs.block b (lt_of_block h) hne).trans h
/-- Where the marks of the j-th trip begin. -/
def offT (k : Int) (ts : List TripV) : Nat → Int
  | 0 => k
  | j + 1 => offT k ts j + 1 + 3 * ((ts.getD j TripV.zero).calls.length : Int)
def dvv : Value × Value := (.string ⟨#[]⟩, .slice none 0 0)
/-- The pairs of cells when the first j trips are marked. -/
def usM (vs : List (Value × Value)) (ts : List TripV) (k : Int) (j : Nat) : List (Value × Value) :=
  (List.range vs.length).map fun m => (Value.string (if m < j then mtx (offT k ts m) else (ts.getD m TripV.zero).name), (vs.getD m dvv).2)
theorem usM_len (vs : List (Value × Value)) (ts : List TripV) (k : Int) (j : Nat) : (usM vs ts k j).length = vs.length := by simp [usM]
theorem usM_get (vs : List (Value × Value)) (ts : List TripV) (k : Int) (j m : Nat) (hm : m < (usM vs ts k j).length) : (usM vs ts k j)[m] = (Value.string (if m < j then mtx (offT k ts m) else (ts.getD m TripV.zero).name), (vs.getD m dvv).2) := by simp [usM]
theorem usM_step (vs : List (Value × Value)) (ts : List TripV) (k : Int) (j : Nat) (hj : j < (usM vs ts k j).length) : (usM vs ts k j).set j (Value.string (mtx (offT k ts j)), (usM vs ts k j)[j].2) = usM vs ts k (j + 1) := by
  have e2 : (usM vs ts k j)[j].2 = (vs.getD j dvv).2 := by rw [usM_get]
  rw [e2]
  apply List.ext_getElem
  · simp [usM]
  · intro i h1 h2
    rw [List.getElem_set, usM_get vs ts k (j + 1) i h2]
    by_cases e : j = i
    · subst e; rw [if_pos rfl, if_pos (by omega)]
    · rw [if_neg e, usM_get]
      by_cases hlt : i < j
      · rw [if_pos hlt, if_pos (by omega)]
      · rw [if_neg hlt, if_neg (by omega)]
/-- The row of the m-th trip's calls when the first j are marked. -/
def RowM (w : World) (B : Nat) (ts : List TripV) (k : Int) (j m : Nat) (vb : Value) : Prop :=
  ∃ a c, vb = .slice a (ts.getD m TripV.zero).calls.length c ∧ w.ownsRow B 36 3 (.slice a (ts.getD m TripV.zero).calls.length c) (ts.getD m TripV.zero).calls.length (flatHalts (if m < j then marksHalts (offT k ts m + 1) (ts.getD m TripV.zero).calls.length else (ts.getD m TripV.zero).calls))
theorem RowM.keep {w w' : World} {B : Nat} {ts : List TripV} {k : Int} {j m : Nat} {vb : Value} (h : RowM w B ts k j m vb) (hb : Below w.heap.size w w') : RowM w' B ts k j m vb := by
  obtain ⟨a, c, h1, h2⟩ := h
  exact ⟨a, c, h1, own_keep h2 hb⟩
theorem RowM.far {w w' : World} {B : Nat} {ts : List TripV} {k : Int} {j m : Nat} {vb : Value} {r : Nat} (h : RowM w B ts k j m vb) (hg : w.grownBy w' (some r)) (hne : vb.ownBlock ≠ some r) : RowM w' B ts k j m vb := by
  obtain ⟨a, c, h1, h2⟩ := h
  subst h1
  exact ⟨a, c, rfl, own_far h2 hg (fun k hk e => hne (by rw [hk, e]))⟩
/-- A list of trips that is marked from k on. -/
def MkT (w : World) (B : Nat) (v : Value) (ts : List TripV) (k : Int) : Prop :=
  ∃ vs : List (Value × Value), w.ownsRow B 26 2 v ts.length (flatP (usM vs ts k ts.length)) ∧ vs.length = ts.length ∧ ∀ m, m < ts.length → RowM w B ts k ts.length m (vs.getD m dvv).2
theorem MkT.keep {w w' : World} {B : Nat} {v : Value} {ts : List TripV} {k : Int} (h : MkT w B v ts k) (hb : Below w.heap.size w w') : MkT w' B v ts k := by
  obtain ⟨vs, h1, h2, h3⟩ := h
  exact ⟨vs, own_keep h1 hb, h2, fun m hm => (h3 m hm).keep hb⟩
/-- A row of other things is turned: the marks stand. -/
theorem MkT.far {w w' : World} {B B' e sz n : Nat} {v u : Value} {xs : List Value} {ts : List TripV} {k : Int} (h : MkT w B v ts k) (ho : w.ownsRow B' e sz u n xs) (h1 : 26 ≠ e) (h2 : 36 ≠ e) (hg : w.grownBy w' u.ownBlock) : MkT w' B v ts k := by
  obtain ⟨vs, q1, q2, q3⟩ := h
  refine ⟨vs, own_far q1 hg (own_other q1 ho h1), q2, fun m hm => ?_⟩
  obtain ⟨a, c, t1, t2⟩ := q3 m hm
  exact ⟨a, c, t1, own_far t2 hg (own_other t2 ho h2)⟩
/-- The blocks of a list of trips. -/
def OnT (v : Value) (vs : List (Value × Value)) (b : Nat) : Prop := v.ownBlock = some b ∨ ∃ m, m < vs.length ∧ (vs.getD m dvv).2.ownBlock = some b
theorem getD_v {vs : List (Value × Value)} {m : Nat} (h : m < vs.length) : vs.getD m dvv = vs[m] := by simp [List.getD, h]
theorem TabO.onT {B : Nat} {w : World} {v : Value} {vs : List (Value × Value)} {ts : List TripV} (T : TabO B w v vs ts) {b : Nat} (h : OnT v vs b) : B ≤ b := by
  rcases h with h | ⟨m, hm, h⟩
  · exact own_from T.own (Nat.le_refl _) b h
  · rw [getD_v hm] at h
    exact (tripOwn_lt (T.each m hm) b h).1
theorem offT_in {k : Int} {ts : List TripV} (h0 : 0 ≤ k) (hc : ∀ i, i < ts.length → 1 ≤ (ts.getD i TripV.zero).calls.length ∧ (ts.getD i TripV.zero).calls.length ≤ 12) : ∀ j, j ≤ ts.length → 0 ≤ offT k ts j ∧ offT k ts j ≤ k + 37 * j := by
  intro j
  induction j with
  | zero => intro _; exact ⟨h0, by simp [offT]⟩
  | succ j ih =>
    intro hj
    obtain ⟨a, b⟩ := ih (by omega)
    have := hc j (by omega)
    simp only [offT]
    omega
theorem usM_zero {B : Nat} {w : World} {v : Value} {vs : List (Value × Value)} {ts : List TripV} {k : Int} (T : TabO B w v vs ts) : usM vs ts k 0 = vs := by
  apply List.ext_getElem
  · simp [usM]
  · intro i h1 h2
    rw [usM_get, if_neg (by omega), getD_v h2]
    obtain ⟨t1, _⟩ := T.each i h2
    rw [← t1]
/-- What the marking holds. -/
def MkIn (w : World) (B : Nat) (v : Value) (vs : List (Value × Value)) (ts : List TripV) (k : Int) (kk i : Value) (wr : World) : Prop :=
  ∃ j : Nat, j ≤ ts.length ∧ i = .int .i64 j ∧ kk = .int .i64 (offT k ts j) ∧ wr.ownsRow B 26 2 v ts.length (flatP (usM vs ts k j)) ∧ (∀ m, m < ts.length → RowM wr B ts k j m (vs.getD m dvv).2) ∧ Fr (OnT v vs) w wr

set_option maxRecDepth 100000 in
set_option maxHeartbeats 3200000 in
theorem cMarkTs (B : Nat) (v : Value) (vs : List (Value × Value)) (ts : List TripV) (k : Int) (w : World) (T : TabO B w v vs ts) (h24 : ts.length ≤ 24) (hc : ∀ i, i < ts.length → 1 ≤ (ts.getD i TripV.zero).calls.length ∧ (ts.getD i TripV.zero).calls.length ≤ 12) (h0 : 0 ≤ k) (hk : k ≤ 1000000) :
    Calls Tryd.prog 23 #[v, .int .i64 k] w fun e w' => e = .returned (.int .i64 (offT k ts ts.length)) ∧ MkT w' B v ts k ∧ Fr (OnT v vs) w w' := by
  have hof := hide (offT_in h0 hc)
  have hvl := hide T.len
  have hap : Hid (∀ m, m < ts.length → ∀ b, (vs.getD m dvv).2.ownBlock = some b → v.ownBlock ≠ some b) := hide (fun m hm b => by
    have := T.len
    rw [getD_v (by omega)]; exact T.apart m (by omega) b)
  have hpr : Hid (∀ i j, i < ts.length → j < ts.length → i ≠ j → ∀ b, (vs.getD i dvv).2.ownBlock = some b → (vs.getD j dvv).2.ownBlock ≠ some b) := hide (fun i j hi hj hne b => by
    have := T.len
    rw [getD_v (by omega), getD_v (by omega)]; exact T.pair i j (by omega) (by omega) hne b)
  have M0 : MkIn w B v vs ts k (.int .i64 k) (.int .i64 ((0 : Nat) : Int)) w := ⟨0, Nat.zero_le _, rfl, rfl, by rw [usM_zero T]; exact T.own, fun m hm => by
    have hm' : m < vs.length := by have := T.len; omega
    obtain ⟨_, a, c, t2, t3⟩ := T.each m hm'
    rw [getD_v hm']
    exact ⟨a, c, t2, by rw [if_neg (by omega)]; exact t3⟩, Fr.refl _ _⟩
  obtain ⟨va, vc, rfl⟩ := own_form T.own
  replace hc := hide hc
  clear T
  go_enter Tryd.func23, Tryd.ntmps23
  go_wp2
  go_loopw [1, 5] (fun kk i wr => MkIn w B (.slice va ts.length vc) vs ts k kk i wr) (fun _ i _ => ts.length - (intOf i).toNat)
  case atStart => exact M0
  case round =>
    clear M0
    obtain ⟨j, hj, rfl, rfl, hown, hrow, hfr⟩ := hrel
    obtain ⟨o0, o1⟩ := hof.out j hj
    by_cases hlt : j < ts.length
    · have hlt' : (j : Int) < (ts.length : Int) := by omega
      have hj0 : (0 : Int) ≤ (j : Int) := by omega
      have hju : j < (usM vs ts k j).length := by rw [usM_len, hvl.out]; exact hlt
      obtain ⟨g, rfl⟩ : ∃ g, va = some ⟨g, 0, none⟩ := by
        rcases hown.2 with ⟨_, h0⟩ | ⟨g, cap', cur, he, _⟩
        · omega
        · simp only [Value.slice.injEq] at he
          exact ⟨g, he.1⟩
      obtain ⟨a, c, hv, ho⟩ := hrow j hlt
      have hcj := hc.out j hlt
      obtain ⟨b, rfl⟩ : ∃ b, a = some ⟨b, 0, none⟩ := by
        rcases ho.2 with ⟨_, h0⟩ | ⟨b, cap', cur, he, _⟩
        · omega
        · simp only [Value.slice.injEq] at he
          exact ⟨b, he.1⟩
      rw [if_neg (by omega)] at ho
      obtain ⟨y0, y1⟩ := flatP_get (usM vs ts k j) j hju
      rw [usM_get] at y0 y1
      have z0 := (hown.cellAt (j * 2) (by omega)).trans y0
      have z1 := (hown.cellAt (j * 2 + 1) (by omega)).trans y1
      dsimp only at z0 z1
      rw [hv] at z1
      have hgb : b ≠ g := fun e => hap.out j hlt b (by rw [hv]; rfl) (by rw [e]; rfl)
      have hAll : Hid (∀ m, m < ts.length → RowM wr B ts k j m (vs.getD m dvv).2) := hide hrow
      have hvv := hide hv
      have hoff : Hid (offT k ts (j + 1) = offT k ts j + 1 + 3 * ((ts.getD j TripV.zero).calls.length : Int)) := hide rfl
      have hst := usM_step vs ts k j hju
      generalize hQ : offT k ts j = q at *
      generalize hC : (ts.getD j TripV.zero).calls = C at *
      generalize (if j < j then mtx q else (ts.getD j TripV.zero).name) = s0 at *
      replace hQ := hide hQ
      replace hC := hide hC
      clear y0 y1 hv hrow
      go_wp2_with fail
      refine (cMarkTxt q _ o0 (by omega)).mono ?_
      rintro e w1 ⟨rfl, hb1⟩
      have O1 := own_keep hown hb1
      have f0 := O1.frozenAt (j * 2)
      have z0 := ble hb1 z0
      obtain ⟨O2, G2⟩ := O1.stored (j * 2) (.string (mtx q))
      rw [flatP_set _ j hju, hst] at O2
      have z1 : (w1.setCell ⟨g, j * 2, none⟩ (.string (mtx q))).cell? ⟨g, j * 2 + 1, none⟩ = some (.slice (some ⟨b, 0, none⟩) C.length c) := by
        have hju2 : j < (usM vs ts k (j + 1)).length := by rw [usM_len, hvl.out]; exact hlt
        rw [O2.cellAt _ (by omega), (flatP_get _ j hju2).2, usM_get]
        dsimp only
        rw [hvv.out]
      have H2 := own_set (b := g) (i := j * 2) (u := .string (mtx q)) (own_keep ho hb1) (fun k hk => by simp [Value.ownBlock] at hk; omega)
      have F2 : Fr (OnT (.slice (some ⟨g, 0, none⟩) ts.length vc) vs) w (w1.setCell ⟨g, j * 2, none⟩ (.string (mtx q))) := (hfr.trans (Fr.of hb1)).trans (Fr.ofg G2 (fun b h => by cases h; exact .inl rfl))
      have R2 : Hid (∀ m, m < ts.length → m ≠ j → RowM (w1.setCell ⟨g, j * 2, none⟩ (.string (mtx q))) B ts k j m (vs.getD m dvv).2) := hide (fun m hm hne => ((hAll.out m hm).keep hb1).far G2 (fun e => hap.out m hm g e rfl))
      have hqq : IntKind.i64.wrap (q + 1) = q + 1 := wrap_in _ (by omega) (by omega)
      clear O1 hown hAll hfr ho hst hju
      go_wp2_with fail
      refine (cMarkHaltsL B b c C (q + 1) _ H2 (by omega) (by omega) (by omega)).mono ?_
      rintro e w3 ⟨rfl, H3, G3⟩
      have O3 := own_far O2 G3 (fun k hk e => by cases e; simp [Value.ownBlock] at hk; omega)
      have F3 := F2.trans (Fr.ofg G3 (fun b' h => by cases h; exact .inr ⟨j, by rw [hvl.out]; exact hlt, by rw [hvv.out]; rfl⟩))
      have R3 : Hid (∀ m, m < ts.length → RowM w3 B ts k (j + 1) m (vs.getD m dvv).2) := hide (fun m hm => by
        by_cases e : m = j
        · subst e
          rw [hvv.out]
          refine ⟨some ⟨b, 0, none⟩, c, by rw [hC.out], ?_⟩
          rw [if_pos (by omega), hQ.out, hC.out]
          exact H3
        · have h1 := (R2.out m hm e).far G3 (fun e2 => hpr.out m j hm hlt e b e2 (by rw [hvv.out]; rfl))
          obtain ⟨a', c', t1, t2⟩ := h1
          refine ⟨a', c', t1, ?_⟩
          by_cases hmj : m < j
          · rw [if_pos hmj] at t2; rw [if_pos (by omega)]; exact t2
          · rw [if_neg hmj] at t2; rw [if_neg (by omega)]; exact t2)
      clear O2 R2 F2 H2 H3 G2 G3 z0 z1 f0
      go_wp2
      go_roundw
      case rel => exact ⟨j + 1, by omega, by go_num, by rw [hoff.out], O3, R3.out, F3⟩
      case measure => simp [intOf]; omega
    · obtain rfl : j = ts.length := by omega
      have MM : Hid (MkT wr B (.slice va ts.length vc) ts k) := hide ⟨vs, hown, hvl.out, hrow⟩
      clear hown hrow
      go_wp2
      go_ret
      exact ⟨rfl, MM.out, hfr⟩

set_option maxRecDepth 100000 in
set_option maxHeartbeats 3200000 in
theorem cHeldTs (B : Nat) (v : Value) (ts : List TripV) (k : Int) (w : World) (hM : MkT w B v ts k) (h24 : ts.length ≤ 24) (hc : ∀ i, i < ts.length → 1 ≤ (ts.getD i TripV.zero).calls.length ∧ (ts.getD i TripV.zero).calls.length ≤ 12) (h0 : 0 ≤ k) (hk : k ≤ 1000000) :
    Calls Tryd.prog 24 #[v, .int .i64 k] w fun e w' => e = .returned (.int .i64 (offT k ts ts.length)) ∧ Below w.heap.size w w' := by
  have hof := hide (offT_in h0 hc)
  obtain ⟨vs, hown, hvl, hrow⟩ := hM
  obtain ⟨va, vc, rfl⟩ := own_form hown
  replace hc := hide hc
  replace hrow := hide hrow
  replace hvl := hide hvl
  go_enter Tryd.func24, Tryd.ntmps24
  go_wp2
  go_loopw [1, 5] (fun kk i wr => ∃ j : Nat, j ≤ ts.length ∧ i = .int .i64 j ∧ kk = .int .i64 (offT k ts j) ∧ Below w.heap.size w wr) (fun _ i _ => ts.length - (intOf i).toNat)
  case atStart => exact ⟨0, Nat.zero_le _, rfl, rfl, Below.refl _ _⟩
  case round =>
    obtain ⟨j, hj, rfl, rfl, hb⟩ := hrel
    obtain ⟨o0, o1⟩ := hof.out j hj
    by_cases hlt : j < ts.length
    · have hlt' : (j : Int) < (ts.length : Int) := by omega
      have hj0 : (0 : Int) ≤ (j : Int) := by omega
      have hju : j < (usM vs ts k ts.length).length := by rw [usM_len, hvl.out]; exact hlt
      have o2 := (hof.out (j + 1) (by omega)).1
      obtain ⟨g, rfl⟩ : ∃ g, va = some ⟨g, 0, none⟩ := by
        rcases hown.2 with ⟨_, h0⟩ | ⟨g, cap', cur, he, _⟩
        · omega
        · simp only [Value.slice.injEq] at he
          exact ⟨g, he.1⟩
      obtain ⟨a, c, hv, ho⟩ := hrow.out j hlt
      have hcj := hc.out j hlt
      rw [if_pos hlt] at ho
      obtain ⟨y0, y1⟩ := flatP_get (usM vs ts k ts.length) j hju
      rw [usM_get, if_pos hlt] at y0 y1
      have z0 := ble hb ((hown.cellAt (j * 2) (by omega)).trans y0)
      have z1 := ble hb ((hown.cellAt (j * 2 + 1) (by omega)).trans y1)
      dsimp only at z0 z1
      rw [hv] at z1
      have H1 := own_keep ho hb
      have hoff : Hid (offT k ts (j + 1) = offT k ts j + 1 + 3 * ((ts.getD j TripV.zero).calls.length : Int)) := hide rfl
      have o3 : ¬ offT k ts j + 1 + 3 * ((ts.getD j TripV.zero).calls.length : Int) < 0 := by rw [← hoff.out]; omega
      generalize offT k ts j = q at *
      generalize (ts.getD j TripV.zero).calls.length = L at *
      have CT := cMarkTxt q wr.drew o0 (by omega)
      have hqq : IntKind.i64.wrap (q + 1) = q + 1 := wrap_in _ (by omega) (by omega)
      clear y0 y1 hv ho hown hju
      go_wp2_with fail
      go_region_held3 (fun w' => w'.cell? ⟨g, j * 2, none⟩ = some (.string (mtx q)) ∧ w'.cell? ⟨g, j * 2 + 1, none⟩ = some (.slice a L c)) (go_keep) (first
        | (go_at_call 51; with_reducible refine CT.mono ?_; rintro e w2 ⟨rfl, hb2⟩; have Cm := undrew hb2; have v0 := ble Cm z0; have v1 := ble Cm z1))
      have H2 := own_keep H1 Cm
      have HB2 := btrans hb Cm
      clear CT hb2 H1 Cm
      go_wp2_with fail
      refine (cHeldHaltsa a L c (q + 1) _ (Halts.own H2) (by omega) (by omega) (by omega)).mono ?_
      rintro e w3 ⟨rfl, hw3⟩
      subst w3
      clear H2 v0 v1 z0 z1
      go_wp2
      go_roundw
      case rel => exact ⟨j + 1, by omega, by go_num, by rw [hoff.out], HB2⟩
      case measure => simp [intOf]; omega
    · obtain rfl : j = ts.length := by omega
      clear hown
      go_wp2
      go_ret
      exact ⟨rfl, hb⟩
end Go.Proofs.YtndjjopplejkgaaDoor
