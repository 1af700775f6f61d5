/- Questions as keys of a map, and what the search holds. -/
import Derived.Test.YtajeiiebddnchaaGreatDoorRC
import Derived.DeepKeys4
import Derived.Maps.OwnSet
import Derived.Maps.OwnOps
import Derived.Maps.Views
import Derived.Maps.AppendAt
namespace Go.Proofs.YtajeiiebddnchaaGreatDoor
open Go.RowKit Go.Maps

theorem laidQ : laidOutB Tryz.prog = true := by kernel_rfl
theorem rowQ : (50 : TypeId) < Tryz.prog.types.size := of_decide_eq_true (by kernel_rfl)
theorem wideQ : (match Tryz.prog.underlying 50 with | some (.array _ _) | some (.struct _) => true | _ => false) = true := by kernel_rfl
theorem keyAtQ : Tryz.prog.keyTypeAt 4 50 = true := by kernel_rfl
set_option maxRecDepth 100000 in
theorem lawQ : Keyed Tryz.prog 50 := Keyed.of_law (deep_law_laid (k := 50) laidQ (m := 4) (by omega) rowQ keyAtQ wideQ)
theorem keyTypeQ : Tryz.prog.keyType 50 = true := by kernel_rfl
theorem cellsQ : Tryz.prog.cellsOf 50 = 2 := by kernel_rfl
theorem cellsIn1 : Tryz.prog.cellsOf 3 = 1 := by kernel_rfl
theorem zeroE (w : World) : (zeroValue 3).run Tryz.prog w = .ok (.int .i64 0) w := by kernel_rfl
theorem keyInt (K : Nat) (n : Int) (h : (Lit.int .i64 n).wf = true) : Tryz.prog.keyLits (K + 1) 3 [.int .i64 n] = some [.int .i64 n] := by
  simp [Program.keyLits, Tryz.underlying3, h]
def qVal (q : Qn) : Value := .agg #[.int .i64 q.n, .int .i64 q.m]
theorem keyQ (a b : Int) (h0 : (Lit.int .i64 a).wf = true) (h1 : (Lit.int .i64 b).wf = true) :
    keyOf Tryz.prog 50 (.agg #[.int .i64 a, .int .i64 b]) = some (.string (keyBytes [.int .i64 a, .int .i64 b])) := by
  obtain ⟨K, hK⟩ : ∃ K, Tryz.prog.types.size + 1 = K + 1 + 1 := ⟨Tryz.prog.types.size - 1, by have : (50 : Nat) < Tryz.prog.types.size := rowQ; omega⟩
  have hk : Tryz.prog.keyLits (K + 1 + 1) 50 [.int .i64 a, .int .i64 b] = some [.int .i64 a, .int .i64 b] := by
    unfold Program.keyLits
    simp [Tryz.underlying50, cellsQ, cellsIn1, keyInt, h0, h1]
  unfold keyOf
  rw [Tryz.underlying50, hK]
  simp only [keyTypeQ, Value.formed, Tryz.underlying50, cellsQ, Value.cells, hk]
  rfl
/-- A question whose numbers are small. -/
def QR (q : Qn) : Prop := (0 ≤ q.n ∧ q.n ≤ 1000000) ∧ 0 ≤ q.m ∧ q.m ≤ 1000000
theorem wf_q {x : Int} (h0 : 0 ≤ x) (h1 : x ≤ 1000000) : (Lit.int .i64 x).wf = true := WalkArith.wf_i64 (by omega)
def kq (q : Qn) : Lit := .string (keyBytes [.int .i64 q.n, .int .i64 q.m])
theorem QR.kq {q : Qn} (h : QR q) : keyOf Tryz.prog 50 (qVal q) = some (kq q) := keyQ _ _ (wf_q h.1.1 h.1.2) (wf_q h.2.1 h.2.2)
theorem kq_inj {p q : Qn} (hp : QR p) (hq : QR q) (h : kq p = kq q) : p = q := by
  have h1 := hp.kq
  rw [h] at h1
  have h2 := lawQ.inj h1 hq.kq
  unfold qVal at h2
  simp only [Value.agg.injEq, Array.mk.injEq, List.cons.injEq, Value.int.injEq, true_and, and_true] at h2
  cases p; cases q; simp_all
abbrev OM (w : World) (bm n : Nat) (D : DataW Unit) : Prop := w.ownsMap Tryz.prog 50 (plainElem Tryz.prog 3) bm n D
/-- What the map tells of a question. -/
def look (D : DataW Unit) (q : Qn) : Option Int :=
  if Maps.has D (kq q) then (match D.atKey (kq q) (.lit (.int .i64 0)) with | .lit (.int _ c) => some c | _ => none) else none
theorem look_put_same {D : DataW Unit} (hD : IsMap D) {q : Qn} (hq : QR q) (c : Int) : look (D.put (kq q) (.lit (.int .i64 c))) q = some c := by
  unfold look
  rw [has_put_same hD (lawQ.key hq.kq), atKey_put_same hD (lawQ.key hq.kq)]
  rfl
theorem look_put_other {D : DataW Unit} {l q : Qn} (hl : QR l) (hq : QR q) (hne : q ≠ l) (d : DataW Unit) : look (D.put (kq l) d) q = look D q := by
  have hk : kq q ≠ kq l := fun e => hne (kq_inj hq hl e)
  unfold look
  rw [has_put_other hk, atKey_put_other hk]
theorem look_empty (q : Qn) : look (.map []) q = none := rfl
theorem look_some {D : DataW Unit} {q : Qn} {x c : Int} (h : look D q = some x) (hc : D.atKey (kq q) (.lit (.int .i64 0)) = .lit (.int .i64 c)) : Maps.has D (kq q) = true ∧ c = x := by
  unfold look at h
  split at h
  · next hh => rw [hc] at h; simp at h; exact ⟨hh, h⟩
  · cases h
theorem look_none {D : DataW Unit} {q : Qn} {c : Int} (h : look D q = none) (hc : D.atKey (kq q) (.lit (.int .i64 0)) = .lit (.int .i64 c)) : Maps.has D (kq q) = false := by
  unfold look at h
  split at h
  · rw [hc] at h; simp at h
  · next hh => simpa using hh
theorem OM.below {w w' : World} {bm n : Nat} {D : DataW Unit} (h : OM w bm n D) (hb : Below w.heap.size w w') : OM w' bm n D := World.ownsMap.kept h (gbelow (b := bm + 1) (World.grownBy.refl _ _) hb) (by simp)
theorem map_ne {w : World} {bm n b : Nat} {D : DataW Unit} {cs : Array Value} {t : TypeId} {f : Nat × Nat} (h : OM w bm n D) (hc : w.heap[b]? = some (.cells cs t f)) : b ≠ bm := by
  rintro rfl
  obtain ⟨es, clock, hb, _⟩ := h
  rw [hb] at hc; cases hc
/-- Asked with 'ok', where the question is known, and where it is not; asked for the number alone. -/
theorem run_look_some {w : World} {bm n : Nat} {D : DataW Unit} {q : Qn} {c : Int} (h : OM w bm n D) (hq : QR q) (hl : look D q = some c) : (Instr.lookup 97 (.map (some bm)) (qVal q) true).run Tryz.prog w = .ok (.tuple #[.int .i64 c, .bool true]) w := by
  obtain ⟨v, ps, hrun, hv⟩ := World.ownsMap.look_ok h lawQ Tryz.underlying97 (zeroE w) (plainElem_int Tryz.underlying3 (by decide)) hq.kq
  obtain ⟨c', rfl, hc, _⟩ := plainElem_int_inv Tryz.underlying3 hv
  obtain ⟨h1, h2⟩ := look_some hl (congrArg Prod.fst hc)
  rw [hrun, h1, h2]
theorem run_look_none {w : World} {bm n : Nat} {D : DataW Unit} {q : Qn} (h : OM w bm n D) (hq : QR q) (hl : look D q = none) : ∃ c, (Instr.lookup 97 (.map (some bm)) (qVal q) true).run Tryz.prog w = .ok (.tuple #[.int .i64 c, .bool false]) w := by
  obtain ⟨v, ps, hrun, hv⟩ := World.ownsMap.look_ok h lawQ Tryz.underlying97 (zeroE w) (plainElem_int Tryz.underlying3 (by decide)) hq.kq
  obtain ⟨c', rfl, hc, _⟩ := plainElem_int_inv Tryz.underlying3 hv
  exact ⟨c', by rw [hrun, look_none hl (congrArg Prod.fst hc)]⟩
theorem run_look_int {w : World} {bm n : Nat} {D : DataW Unit} {q : Qn} {c : Int} (h : OM w bm n D) (hq : QR q) (hl : look D q = some c) : (Instr.lookup 97 (.map (some bm)) (qVal q) false).run Tryz.prog w = .ok (.int .i64 c) w := by
  obtain ⟨c', hrun, hat, _⟩ := World.ownsMap.lookup_int h lawQ Tryz.underlying97 Tryz.underlying3 (zeroE w) hq.kq
  rw [hrun, (look_some hl hat).2]
/-- The six cells of a stretch. -/
def recCells (bks : List Nat) (r : Rec) (j : Nat) : Array Value :=
  #[.int .i64 r.t, .int .i64 r.k, .int .i64 r.l, .int .i64 r.n, .int .i64 r.m, .pointer (if j = 0 then none else some ⟨bks.getD r.par 0, 0, none⟩)]
def ptrsOf (bks : List Nat) : List Value := bks.map fun b => .pointer (some ⟨b, 0, none⟩)
/-- What the search holds. -/
structure Stt (w : World) (bs bm B : Nat) (lv : Value) (ch : Int) (v : Value) (bks : List Nat) (R : List Rec) (D : DataW Unit) : Prop where
  blk : w.heap[bs]? = some (.cells #[lv, .int .i64 ch, .map (some bm), v] 99 (0, 0))
  om : OM w bm R.length D
  row : w.ownsRow B 47 1 v R.length (ptrsOf bks)
  len : bks.length = R.length
  st : ∀ j, j < R.length → w.heap[bks.getD j 0]? = some (.cells (recCells bks (R.getD j Rec.zero) j) 52 (0, 0))
  par : ∀ j, 0 < j → j < R.length → (R.getD j Rec.zero).par < j
  look : ∀ q, QR q → (look D q = none ∧ hasQ R q = false) ∨ ∃ r ∈ R, r.q = q ∧ look D q = some (r.lv : Int)
  bB : B ≤ bs ∧ B ≤ bm
  nb : ∀ j, j < R.length → B ≤ bks.getD j 0
  nd : ∀ i j, i < j → j < R.length → bks.getD i 0 ≠ bks.getD j 0
theorem keep_blk {w w' : World} {b : Nat} {o : Obj} (hb : Below w.heap.size w w') (h : w.heap[b]? = some o) : w'.heap[b]? = some o := (hb.block b (lt_of_block h)).trans h
theorem Stt.below {w w' : World} {bs bm B : Nat} {lv v : Value} {ch : Int} {bks : List Nat} {R : List Rec} {D : DataW Unit} (h : Stt w bs bm B lv ch v bks R D) (hb : Below w.heap.size w w') : Stt w' bs bm B lv ch v bks R D :=
  ⟨keep_blk hb h.blk, OM.below h.om hb, own_keep h.row hb, h.len, fun j hj => keep_blk hb (h.st j hj), h.par, h.look, h.bB, h.nb, h.nd⟩
/-- All blocks that are neither the search's own nor a row of stretches stay. -/
def Kp (w w' : World) : Prop := ∀ (b : Nat) (cs : Array Value) (t : TypeId) (f : Nat × Nat), w.heap[b]? = some (.cells cs t f) → t ≠ 99 → t ≠ 47 → w'.heap[b]? = some (.cells cs t f)
theorem Kp.refl (w : World) : Kp w w := fun _ _ _ _ h _ _ => h
theorem Kp.trans {w w1 w2 : World} (h : Kp w w1) (g : Kp w1 w2) : Kp w w2 := fun b cs t f hb h1 h2 => g b cs t f (h b cs t f hb h1 h2) h1 h2
theorem Kp.of_below {w w' : World} (hb : Below w.heap.size w w') : Kp w w' := fun _ _ _ _ h _ _ => keep_blk hb h
theorem getD_snoc {l : List Nat} {g j : Nat} (h : j < l.length) : (l ++ [g]).getD j 0 = l.getD j 0 := getD_app_l h
theorem hasQ_snoc {R : List Rec} {r : Rec} {q : Qn} : hasQ (R ++ [r]) q = (hasQ R q || decide (r.q = q)) := by simp [hasQ]
end Go.Proofs.YtajeiiebddnchaaGreatDoor
