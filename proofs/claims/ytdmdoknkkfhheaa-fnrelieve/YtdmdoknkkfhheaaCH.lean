/- The best cut from one place of a chain: the program's search, kept by a deferred function. -/
import Derived.Test.YtdmdoknkkfhheaaSK
import Derived.Test.YtdmdoknkkfhheaaCG
import Derived.Deep.RegionHeld3
import Derived.Defers
import Derived.Recover
namespace Go.Proofs.Ytdmdoknkkfhheaa
open Go.RowKit

theorem three_blocks (w : World) (o1 o2 o3 : Obj) : (((w.alloc o1).alloc o2).alloc o3).heap[w.heap.size]? = some o1 ∧ (((w.alloc o1).alloc o2).alloc o3).heap[w.heap.size + 1]? = some o2 ∧ (((w.alloc o1).alloc o2).alloc o3).heap[w.heap.size + 1 + 1]? = some o3 := by
  refine ⟨?_, ?_, ?_⟩
  · show (((w.heap.push o1).push o2).push o3)[w.heap.size]? = _
    simp [Array.getElem?_push]; omega
  · show (((w.heap.push o1).push o2).push o3)[w.heap.size + 1]? = _
    rw [Array.getElem?_push, if_neg (by simp), Array.getElem?_push, if_pos (by simp)]
  · show (((w.heap.push o1).push o2).push o3)[w.heap.size + 1 + 1]? = _
    rw [Array.getElem?_push, if_pos (by simp)]
theorem flat_set (cs : List CutV) (i : Nat) (hi : i < cs.length) (x y : Int) : ((flatCuts cs).set (i * 2) (.int .i64 x)).set (i * 2 + 1) (.int .i64 y) = flatCuts (cs.set i ⟨x, y⟩) := by
  have e : cs = cs.take i ++ cs[i] :: cs.drop (i + 1) := by rw [← List.drop_eq_getElem_cons hi, List.take_append_drop]
  have h := set_flatCuts (cs.take i) (cs.drop (i + 1)) cs[i] x y i (by simp; omega)
  rw [← e] at h
  rw [h]
  congr 1
  rw [List.set_eq_take_append_cons_drop, if_pos hi]
theorem Tasks.cut {w : World} {b off : Nat} {s : List TaskV} (h : Tasks w (some ⟨b, off, none⟩) s) {i j : Nat} (hj : j ≤ s.length) : Tasks w (some ⟨b, off + i * 5, none⟩) (cutL s i j) := by
  rcases h with h | ⟨b', off', ha, hc⟩
  · left; simp [cutL, h]
  · cases ha
    refine .inr ⟨b, off + i * 5, rfl, fun k hk => ?_⟩
    rw [cutL_len hj] at hk
    have e : (cutL s i j).getD k TaskV.zero = s.getD (i + k) TaskV.zero := by
      unfold cutL
      rw [List.drop_take]
      simp [List.getD, hk]
    rw [e]
    have h1 := hc (i + k) (by omega)
    have e2 : off + (i + k) * 5 = off + i * 5 + k * 5 := by omega
    rw [e2] at h1
    exact h1
theorem blk_keep' {w w1 : World} (h : Below w.heap.size w w1) {g : Nat} {o : Obj} (hg : w.heap[g]? = some o) : w1.heap[g]? = some o := (h.block g (lt_of_block hg)).trans hg
theorem blk_set {w : World} {g i : Nat} {cs : Array Value} {t : TypeId} {f : Nat × Nat} {v : Value} (h : w.heap[g]? = some (.cells cs t f)) : (w.setCell ⟨g, i, none⟩ v).heap[g]? = some (.cells (cs.setIfInBounds i v) t f) := by
  have hl := lt_of_block h
  have h' : w.heap[g] = .cells cs t f := by rw [Array.getElem?_eq_getElem hl] at h; exact Option.some.inj h
  simp [World.setCell, hl, Array.getElem_modify, h']
theorem blk_other {w : World} {g b i : Nat} {o : Obj} {v : Value} (h : w.heap[g]? = some o) (hne : g ≠ b) : (w.setCell ⟨b, i, none⟩ v).heap[g]? = some o := (Below.heap_setCell _ _ _ _ hne).trans h
/-- A relief in memory: its rule, its chain, its cuts. -/
structure Rlf (w : World) (base rb cb : Nat) (a : Option Addr) (c : Nat) (s : List TaskV) (r : RuleV) (cs : List CutV) : Prop where
  blk : w.heap[rb]? = some (.cells #[.int .i64 r.p, .int .i64 r.d, .int .i64 r.r, .int .i64 r.s, .slice a s.length c, .slice (some ⟨cb, 0, none⟩) (s.length + 1) (s.length + 1)] 65 (0, 0))
  row : w.ownsRow base 69 2 (.slice (some ⟨cb, 0, none⟩) (s.length + 1) (s.length + 1)) (s.length + 1) (flatCuts cs)
  len : cs.length = s.length + 1
  ne : rb ≠ cb
theorem Rlf.below {w w1 : World} {base rb cb c : Nat} {a : Option Addr} {s : List TaskV} {r : RuleV} {cs : List CutV} (h : Rlf w base rb cb a c s r cs) (hb : Below w.heap.size w w1) : Rlf w1 base rb cb a c s r cs :=
  ⟨blk_keep' hb h.blk, own_keep h.row hb, h.len, h.ne⟩
/-- What stands at a place of the cuts. -/
def CutOk (fine : Nat → Nat → Bool) (n : Nat) (D : Nat → Nat) (j : Nat) (e : CutV) : Prop := e.u = (D j : Int) ∧ (j < n → D j < 41 → ∃ m : Nat, e.x = (m : Int) ∧ IsNext fine n D j m)

set_option maxRecDepth 20000 in
set_option maxHeartbeats 3200000 in
theorem cKeep (b0 b1 b2 rb cb i : Nat) (base : Nat) (a : Option Addr) (c : Nat) (s : List TaskV) (r : RuleV) (cs : List CutV) (bu bx : Int) (u : FrameMode) (w : World) (R : Rlf w base rb cb a c s r cs) (hi : i < s.length)
    (h0 : w.heap[b0]? = some (.cells #[.pointer (some ⟨rb, 0, none⟩)] 66 (0, 0))) (h1 : w.heap[b1]? = some (.cells #[.int .i64 (i : Int)] 3 (0, 0))) (h2 : w.heap[b2]? = some (.cells #[.int .i64 bu, .int .i64 bx] 69 (0, 0))) :
    CallsD Try.prog 68 #[.pointer (some ⟨b2, 0, none⟩), .pointer (some ⟨b0, 0, none⟩), .pointer (some ⟨b1, 0, none⟩)] u w fun e u' w' => u' = u ∧ (e = .returned (.tuple #[]) ∧ w' = ((w.setCell ⟨cb, i * 2, none⟩ (.int .i64 bu)).setCell ⟨cb, i * 2 + 1, none⟩ (.int .i64 bx)).drew) := by
  have x0 := blk_cell h0 0
  have x1 := blk_cell h1 0
  have x2 := blk_cell h2 0
  have x3 := blk_cell h2 1
  have x5 := blk_cell R.blk 5
  simp only [List.getElem?_toArray, List.getElem?_cons_zero, List.getElem?_cons_succ] at x0 x1 x2 x3 x5
  obtain ⟨y0, y1⟩ := flatCuts_get cs i (by rw [R.len]; omega)
  have c0 := (R.row.cellAt (i * 2) (by omega)).trans y0
  have c1 := (R.row.cellAt (i * 2 + 1) (by omega)).trans y1
  have f0 := R.row.frozenAt (i * 2)
  have f1 := R.row.frozenAt (i * 2 + 1)
  have hii : (i : Int) < ((s.length + 1 : Nat) : Int) := by omega
  obtain ⟨N, hN⟩ : ∃ N, N = s.length + 1 := ⟨_, rfl⟩
  rw [← hN] at x5 hii
  generalize (cs.getD i CutV.zero).u = o0 at *
  generalize (cs.getD i CutV.zero).x = o1 at *
  have hl0 := lt_of_block h0
  have hl1 := lt_of_block h1
  have hl2 := lt_of_block h2
  clear y0 y1 R h0 h1 h2 hN hi
  go_enter_d Try.func68, Try.ntmps68
  go_wp2
  go_region
  go_end0
  exact ⟨rfl, rfl⟩

theorem fineB_eq {r : RuleV} {s : List TaskV} {i j : Nat} (h : j ≤ i + 12) : fineB r s i j = decide (codeV r (cutL s i j) = 0) := by simp [fineB, h]
theorem fine_far {r : RuleV} {s : List TaskV} {i j : Nat} (h : ¬ j ≤ i + 12) : fineB r s i j = false := by simp [fineB, h]
/-- What cutFrom leaves. -/
def AnsCut (W0 : World) (rb cb : Nat) (a : Option Addr) (c : Nat) (s : List TaskV) (r : RuleV) (D : Nat → Nat) (i : Nat) (e : Ending) (w' : World) : Prop :=
  e = .returned (.tuple #[]) ∧ ∃ cs, Rlf w' W0.heap.size rb cb a c s r cs ∧ (∀ j, i ≤ j → j ≤ s.length → CutOk (fineB r s) s.length D j (cs.getD j CutV.zero)) ∧ Below W0.heap.size W0 w'
/-- What the search for the best cut holds. -/
structure Sch (W0 w wr : World) (rb cb : Nat) (i : Nat) (bu bx : Nat) : Prop where
  b0 : wr.heap[w.heap.size]? = some (.cells #[.pointer (some ⟨rb, 0, none⟩)] 66 (0, 0))
  b1 : wr.heap[w.heap.size + 1]? = some (.cells #[.int .i64 (i : Int)] 3 (0, 0))
  b2 : wr.heap[w.heap.size + 1 + 1]? = some (.cells #[.int .i64 (bu : Int), .int .i64 (bx : Int)] 69 (0, 0))
  bel : Below w.heap.size w wr
theorem Sch.below {W0 w wr w1 : World} {rb cb i bu bx : Nat} (h : Sch W0 w wr rb cb i bu bx) (hb : Below wr.heap.size wr w1) : Sch W0 w w1 rb cb i bu bx :=
  ⟨blk_keep' hb h.b0, blk_keep' hb h.b1, blk_keep' hb h.b2, btrans h.bel hb⟩
theorem Sch.set {W0 w wr : World} {rb cb i bu bx : Nat} (h : Sch W0 w wr rb cb i bu bx) (x y : Nat) : Sch W0 w ((wr.setCell ⟨w.heap.size + 1 + 1, 0, none⟩ (.int .i64 (x : Int))).setCell ⟨w.heap.size + 1 + 1, 1, none⟩ (.int .i64 (y : Int))) rb cb i x y := by
  refine ⟨blk_other (blk_other h.b0 (by omega)) (by omega), blk_other (blk_other h.b1 (by omega)) (by omega), ?_, below_set (by omega) (below_set (by omega) h.bel)⟩
  have := blk_set (i := 1) (v := .int .i64 (y : Int)) (blk_set (i := 0) (v := .int .i64 (x : Int)) h.b2)
  simpa using this
theorem Rlf.put {w : World} {base rb cb c : Nat} {a : Option Addr} {s : List TaskV} {r : RuleV} {cs : List CutV} (h : Rlf w base rb cb a c s r cs) {i : Nat} (hi : i < s.length) (x y : Int) : Rlf ((w.setCell ⟨cb, i * 2, none⟩ (.int .i64 x)).setCell ⟨cb, i * 2 + 1, none⟩ (.int .i64 y)) base rb cb a c s r (cs.set i ⟨x, y⟩) := by
  refine ⟨blk_other (blk_other h.blk h.ne) h.ne, ?_, by rw [List.length_set]; exact h.len, h.ne⟩
  have := ((h.row.stored (i * 2) (.int .i64 x)).1.stored (i * 2 + 1) (.int .i64 y)).1
  rwa [flat_set cs i (by rw [h.len]; omega)] at this
/-- What the loop holds: the best cut of those that were asked. -/
def Lp (W0 w wr : World) (rb cb i : Nat) (fine : Nat → Nat → Bool) (D : Nat → Nat) (nx : Nat) : Prop := ∃ bu bx, Sch W0 w wr rb cb i bu bx ∧ BestTo fine D i nx bu bx
/-- What stands behind the door. -/
theorem ans_cut {W0 w wr : World} {rb cb i bu bx c : Nat} {a : Option Addr} {s : List TaskV} {r : RuleV} {cs : List CutV} {D : Nat → Nat} (S : Sch W0 w wr rb cb i bu bx) (R : Rlf wr W0.heap.size rb cb a c s r cs) (hB : Below W0.heap.size W0 w) (hcb : W0.heap.size ≤ cb) (hi : i < s.length)
    (hok : ∀ j, i < j → j ≤ s.length → CutOk (fineB r s) s.length D j (cs.getD j CutV.zero)) (hu : bu = D i) (hx : (D i = 41 ∧ bx = 0) ∨ (D i < 41 ∧ IsNext (fineB r s) s.length D i bx)) :
    AnsCut W0 rb cb a c s r D i (.returned (.tuple #[])) (((wr.setCell ⟨cb, i * 2, none⟩ (.int .i64 (bu : Int))).setCell ⟨cb, i * 2 + 1, none⟩ (.int .i64 (bx : Int))).drew) := by
  have P := R.put hi (bu : Int) (bx : Int)
  have hb := bdraw (Below.refl ((wr.setCell ⟨cb, i * 2, none⟩ (.int .i64 (bu : Int))).setCell ⟨cb, i * 2 + 1, none⟩ (.int .i64 (bx : Int))).heap.size ((wr.setCell ⟨cb, i * 2, none⟩ (.int .i64 (bu : Int))).setCell ⟨cb, i * 2 + 1, none⟩ (.int .i64 (bx : Int)))) 1
  refine ⟨rfl, _, P.below hb, fun j h1 h2 => ?_, bdraw (below_set hcb (below_set hcb (btrans hB S.bel))) 1⟩
  by_cases e : j = i
  · subst e
    rw [getD_lt (by rw [List.length_set, R.len]; omega), List.getElem_set_self]
    refine ⟨by rw [hu], fun _ hd => ?_⟩
    rcases hx with ⟨h41, _⟩ | ⟨_, hx⟩
    · omega
    · exact ⟨bx, rfl, hx⟩
  · have := hok j (by omega) h2
    rw [getD_lt (by rw [R.len]; omega)] at this
    rw [getD_lt (by rw [List.length_set, R.len]; omega), List.getElem_set_ne (by omega)]
    exact this

set_option maxRecDepth 20000 in
set_option maxHeartbeats 6400000 in
theorem cCutFrom (W0 w : World) (rb cb i : Nat) (a : Option Addr) (c : Nat) (s : List TaskV) (r : RuleV) (cs : List CutV) (D : Nat → Nat) (hD : IsD (fineB r s) s.length D) (hs : s.all taskB = true) (hn : s.length ≤ 40) (hi : i < s.length) (hB : Below W0.heap.size W0 w) (hT : Tasks W0 a s) (hc : s.length ≤ c) (hcb : W0.heap.size ≤ cb) (R : Rlf w W0.heap.size rb cb a c s r cs) (hok : ∀ j, i < j → j ≤ s.length → CutOk (fineB r s) s.length D j (cs.getD j CutV.zero)) :
    Calls Try.prog 57 #[.pointer (some ⟨rb, 0, none⟩), .int .i64 (i : Int)] w (AnsCut W0 rb cb a c s r D i) := by
  have hmf : ∀ (fn : Fn) (first cap : Array Value) (w : World), (Instr.makeFunc fn first cap).run Try.prog w = .ok (.func fn first cap) w := fun _ _ _ _ => rfl
  obtain ⟨K0, K1, K2⟩ := three_blocks w (.cells #[.pointer (some ⟨rb, 0, none⟩)] 66) (.cells #[.int .i64 (i : Int)] 3) (.cells #[.int .i64 41, .int .i64 0] 69)
  have KB := btrans (btrans (balloc w (.cells #[.pointer (some ⟨rb, 0, none⟩)] 66)) (balloc _ (.cells #[.int .i64 (i : Int)] 3))) (balloc _ (.cells #[.int .i64 41, .int .i64 0] 69))
  have S0 : Sch W0 w (((w.alloc (.cells #[.pointer (some ⟨rb, 0, none⟩)] 66)).alloc (.cells #[.int .i64 (i : Int)] 3)).alloc (.cells #[.int .i64 41, .int .i64 0] 69)) rb cb i 41 0 := ⟨K0, K1, K2, KB⟩
  clear K0 K1 K2 KB
  have e1 : IntKind.i64.wrap ((i : Int) + 1) = (i : Int) + 1 := wrap_in _ (by omega) (by omega)
  have e12 : IntKind.i64.wrap ((i : Int) + 12) = (i : Int) + 12 := wrap_in _ (by omega) (by omega)
  have y1 := blk_cell S0.b1 0
  simp only [List.getElem?_toArray, List.getElem?_cons_zero] at y1
  go_enter_defers Try.func57, Try.ntmps57
  go_wp2
  go_loopw [5] (fun v wr => ∃ nx : Nat, v = .int .i64 (nx : Int) ∧ i < nx ∧ nx ≤ s.length + 1 ∧ Lp W0 w wr rb cb i (fineB r s) D nx) (fun v _ => s.length + 1 - (intOf v).toNat)
  case atStart => exact ⟨i + 1, by simp, by omega, by omega, 41, 0, S0, BestTo.start _ _ _⟩
  case round =>
    obtain ⟨nx, rfl, hlo, hhi, bu, bx, S, B⟩ := hrel
    clear S0 y1 e1
    have RR := R.below S.bel
    have x0 := blk_cell S.b0 0
    have x1 := blk_cell S.b1 0
    have x2 := blk_cell S.b2 0
    have x3 := blk_cell S.b2 1
    have z0 := blk_cell RR.blk 0
    have z1 := blk_cell RR.blk 1
    have z2 := blk_cell RR.blk 2
    have z3 := blk_cell RR.blk 3
    have z4 := blk_cell RR.blk 4
    have z5 := blk_cell RR.blk 5
    simp only [List.getElem?_toArray, List.getElem?_cons_zero, List.getElem?_cons_succ] at x0 x1 x2 x3 z0 z1 z2 z3 z4 z5
    have hrl := lt_of_block RR.blk
    have hl0 := lt_of_block S.b0
    have hl1 := lt_of_block S.b1
    have hl2 := lt_of_block S.b2
    by_cases hcond : nx ≤ i + 12 ∧ nx ≤ s.length
    · have d1 : ((nx : Int) ≤ (i : Int) + 12) := by omega
      have d2 : ((nx : Int) ≤ (s.length : Int)) := by omega
      go_wp2_with fail
      go_region_held3 (fun w' => w'.cell? ⟨w.heap.size, 0, none⟩ = some (.pointer (some ⟨rb, 0, none⟩)) ∧ w'.cell? ⟨w.heap.size + 1, 0, none⟩ = some (.int .i64 (i : Int)) ∧ w'.cell? ⟨rb, 4, none⟩ = some (.slice a s.length c)) (go_keep) (fail)
      have hmi : ((nx : Int) ≤ if (s.length : Int) < (i : Int) + 12 then (s.length : Int) else (i : Int) + 12) := by
        by_cases hx : (s.length : Int) < (i : Int) + 12
        · rw [if_pos hx]; omega
        · rw [if_neg hx]; omega
      generalize (if (s.length : Int) < (i : Int) + 12 then (s.length : Int) else (i : Int) + 12) = mi at *
      have hbd := bdraw (Below.refl wr.heap.size wr) 1
      replace S := S.below hbd
      replace RR := RR.below hbd
      clear hbd x0 x1 x2 x3 z0 z1 z2 z3 z4 z5 hrl hl0 hl1 hl2
      change Sch W0 w wr.drew rb cb i bu bx at S
      change Rlf wr.drew W0.heap.size rb cb a c s r cs at RR
      generalize wr.drew = W at *
      have x0 := blk_cell S.b0 0
      have x1 := blk_cell S.b1 0
      have z0 := blk_cell RR.blk 0
      have z1 := blk_cell RR.blk 1
      have z2 := blk_cell RR.blk 2
      have z3 := blk_cell RR.blk 3
      have z4 := blk_cell RR.blk 4
      simp only [List.getElem?_toArray, List.getElem?_cons_zero, List.getElem?_cons_succ] at x0 x1 z0 z1 z2 z3 z4
      have hrl := lt_of_block RR.blk
      have hl0 := lt_of_block S.b0
      have hl1 := lt_of_block S.b1
      rcases hT with h | ⟨tb, toff, rfl, htc⟩
      · simp [h] at hi
      have i0 : (0 : Int) ≤ (i : Int) := by omega
      have i1 : (i : Int) ≤ (nx : Int) := by omega
      have i2 : (nx : Int) ≤ (c : Int) := by omega
      have i3 : ¬ ((c : Int) = (i : Int)) := by omega
      have n0 : W.heap.size ≠ w.heap.size := by omega
      have n1 : W.heap.size ≠ w.heap.size + 1 := by omega
      have n2 : W.heap.size ≠ rb := by omega
      go_wp2_with fail
      go_region_held3 (fun w' => w'.cell? ⟨w.heap.size, 0, none⟩ = some (.pointer (some ⟨rb, 0, none⟩)) ∧ w'.cell? ⟨w.heap.size + 1, 0, none⟩ = some (.int .i64 (i : Int)) ∧ w'.cell? ⟨rb, 0, none⟩ = some (.int .i64 r.p) ∧ w'.cell? ⟨rb, 1, none⟩ = some (.int .i64 r.d) ∧ w'.cell? ⟨rb, 2, none⟩ = some (.int .i64 r.r) ∧ w'.cell? ⟨rb, 3, none⟩ = some (.int .i64 r.s) ∧ w'.cell? ⟨rb, 4, none⟩ = some (.slice (some ⟨tb, toff, none⟩) s.length c)) (go_keep) (fail)
      rw [if_neg (show ¬ c = i by omega)]
      obtain ⟨m, hm⟩ : ∃ m, m = nx - i := ⟨_, rfl⟩
      obtain ⟨cm, hcm⟩ : ∃ cm, cm = c - i := ⟨_, rfl⟩
      rw [← hm, ← hcm]
      have hbV : Below W.heap.size W ((W.alloc (.cells #[.slice (some ⟨tb, toff + i * 5, none⟩) m cm, .int .i64 r.p, .int .i64 r.d, .int .i64 r.r, .int .i64 r.s] 74)).drew) := bdraw (balloc W (.cells #[.slice (some ⟨tb, toff + i * 5, none⟩) m cm, .int .i64 r.p, .int .i64 r.d, .int .i64 r.r, .int .i64 r.s] 74)) 1
      have hbX : ((W.alloc (.cells #[.slice (some ⟨tb, toff + i * 5, none⟩) m cm, .int .i64 r.p, .int .i64 r.d, .int .i64 r.r, .int .i64 r.s] 74)).drew).heap[W.heap.size]? = some (.cells #[.slice (some ⟨tb, toff + i * 5, none⟩) m cm, .int .i64 r.p, .int .i64 r.d, .int .i64 r.r, .int .i64 r.s] 74) := one_block W (.cells #[.slice (some ⟨tb, toff + i * 5, none⟩) m cm, .int .i64 r.p, .int .i64 r.d, .int .i64 r.r, .int .i64 r.s] 74)
      replace S := S.below hbV
      replace RR := RR.below hbV
      have hBV := btrans hB S.bel
      generalize (W.alloc (.cells #[.slice (some ⟨tb, toff + i * 5, none⟩) m cm, .int .i64 r.p, .int .i64 r.d, .int .i64 r.r, .int .i64 r.s] 74)).drew = V at *
      clear x0 x1 z0 z1 z2 z3 z4 hrl hl0 hl1 n0 n1 n2 i0 i1 i2 i3 hbV
      have hTV : Tasks V (some ⟨tb, toff, none⟩) s := (show Tasks W0 (some ⟨tb, toff, none⟩) s from .inr ⟨tb, toff, rfl, htc⟩).below hBV
      have hlen : (cutL s i nx).length = m := by rw [cutL_len (by omega)]; omega
      have hcs : (cutL s i nx).all taskB = true := all_dropT (all_take hs _) _
      have CC := cCode (some ⟨tb, toff + i * 5, none⟩) cm (cutL s i nx) r V (hTV.cut (i := i) (j := nx) (by omega)) hcs (by omega) (by omega)
      rw [hlen] at CC
      have hF := hide (fineB_eq (r := r) (s := s) hcond.1)
      have hmono := hide (fun (q : Nat) (h1 : nx ≤ q) (h2 : q ≤ s.length) (h3 : fineB r s i q = true) => fine_mono hs hlo h1 h2 h3)
      generalize codeV r (cutL s i nx) = cv at *
      have v0 := blk_cell hbX 0
      have v1 := blk_cell hbX 1
      have v2 := blk_cell hbX 2
      have v3 := blk_cell hbX 3
      have v4 := blk_cell hbX 4
      simp only [List.getElem?_toArray, List.getElem?_cons_zero, List.getElem?_cons_succ] at v0 v1 v2 v3 v4
      unfold rsv at CC
      clear hlen hcs hTV hm hcm htc hbX
      go_wp2_with fail
      refine CC.mono ?_
      rintro e w5 ⟨rfl, hb5⟩
      replace S := S.below hb5
      replace RR := RR.below hb5
      clear v0 v1 v2 v3 v4 hb5 CC hBV
      by_cases h0 : cv = 0
      rotate_left
      · have hz : (cv != 0) = true := by simpa using h0
        have hfin := B.done hD hi hhi (fun q h1 h2 => by
          cases hq : fineB r s i q
          · rfl
          · have := hmono.out q h1 h2 hq
            rw [hF.out] at this; exact absurd (of_decide_eq_true this) h0)
        have AA := hide (ans_cut S RR hB hcb hi hok hfin.1 hfin.2)
        clear hF hmono hfin h0
        go_wp2
        refine leaves_cons (f := 68) (args := #[.pointer (some ⟨w.heap.size + 1 + 1, 0, none⟩), .pointer (some ⟨w.heap.size, 0, none⟩), .pointer (some ⟨w.heap.size + 1, 0, none⟩)]) (by simp) (by simp [go_sem]) ?_
        refine (cKeep _ _ _ rb cb i _ _ c s r cs (bu : Int) (bx : Int) .returning _ RR hi S.b0 S.b1 S.b2).mono ?_
        rintro e u' w'' ⟨rfl, rfl, rfl⟩
        exact ⟨_, results_none rfl _ _ _, AA.out⟩
      · subst cv
        have hf : fineB r s i nx = true := by rw [hF.out]; rfl
        have hcn := hok nx hlo (by omega)
        have hub : D nx ≤ 41 := by
          by_cases e : nx = s.length
          · subst e; rw [hD.last]; omega
          · exact hD.le nx (by omega)
        obtain ⟨y0, y1⟩ := flatCuts_get cs nx (by rw [RR.len]; omega)
        have c0 := (RR.row.cellAt (nx * 2) (by omega)).trans y0
        rw [hcn.1] at c0
        have x0 := blk_cell S.b0 0
        have x2 := blk_cell S.b2 0
        have x3 := blk_cell S.b2 1
        have z5 := blk_cell RR.blk 5
        simp only [List.getElem?_toArray, List.getElem?_cons_zero, List.getElem?_cons_succ] at x0 x2 x3 z5
        have f2 := Go.Joins.unfrozen_of_block S.b2 0
        have f3 := Go.Joins.unfrozen_of_block S.b2 1
        have hin : (nx : Int) < ((s.length + 1 : Nat) : Int) := by omega
        obtain ⟨N, hN⟩ : ∃ N, N = s.length + 1 := ⟨_, rfl⟩
        rw [← hN] at z5 hin
        have hbr := B.range hlo
        have e5 : IntKind.i64.wrap (1 + (D nx : Int)) = 1 + (D nx : Int) := wrap_in _ (by omega) (by omega)
        have e6 : IntKind.i64.wrap ((nx : Int) + 1) = (nx : Int) + 1 := wrap_in _ (by omega) (by omega)
        replace hN := hide hN
        clear y0 y1 hcn
        by_cases hlt : 1 + D nx < bu
        · have hlt' : (1 : Int) + (D nx : Int) < (bu : Int) := by omega
          have B2 := B.take hlo hf hlt
          have S2 := S.set (1 + D nx) nx
          have ecast : ((1 + D nx : Nat) : Int) = 1 + (D nx : Int) := by omega
          rw [ecast] at S2
          clear hF hmono hf B S hok RR
          go_wp2
          go_roundw
          case rel => exact ⟨nx + 1, by go_num, by omega, by have := hN.out; omega, 1 + D nx, nx, S2, B2⟩
          case measure => simp [intOf]; omega
        · have hlt' : ¬ ((1 : Int) + (D nx : Int) < (bu : Int)) := by omega
          have B2 := B.skip hlt
          clear hF hmono hf B hok RR
          go_wp2
          go_roundw
          case rel => exact ⟨nx + 1, by go_num, by omega, by have := hN.out; omega, bu, bx, S, B2⟩
          case measure => simp [intOf]; omega
    · have hfin := B.done hD hi hhi (fun q h1 h2 => fine_far (by omega))
      have hmi : ¬ ((nx : Int) ≤ if (s.length : Int) < (i : Int) + 12 then (s.length : Int) else (i : Int) + 12) := by
        by_cases hx : (s.length : Int) < (i : Int) + 12
        · rw [if_pos hx]; omega
        · rw [if_neg hx]; omega
      have hbd : Below wr.heap.size wr wr.drew := bdraw (Below.refl wr.heap.size wr) 1
      have S2 := S.below hbd
      have R2 := RR.below hbd
      have AA := hide (ans_cut S2 R2 hB hcb hi hok hfin.1 hfin.2)
      go_wp2_with fail
      go_region_held3 (fun w' => w'.cell? ⟨w.heap.size, 0, none⟩ = some (.pointer (some ⟨rb, 0, none⟩)) ∧ w'.cell? ⟨w.heap.size + 1, 0, none⟩ = some (.int .i64 (i : Int)) ∧ w'.cell? ⟨rb, 4, none⟩ = some (.slice a s.length c)) (go_keep) (fail)
      generalize (if (s.length : Int) < (i : Int) + 12 then (s.length : Int) else (i : Int) + 12) = mi at *
      clear S RR hbd x0 x1 x2 x3 z0 z1 z2 z3 z4 z5
      generalize wr.drew = W at *
      have S := S2
      have RR := R2
      go_wp2
      refine leaves_cons (f := 68) (args := #[.pointer (some ⟨w.heap.size + 1 + 1, 0, none⟩), .pointer (some ⟨w.heap.size, 0, none⟩), .pointer (some ⟨w.heap.size + 1, 0, none⟩)]) (by simp) (by simp [go_sem]) ?_
      refine (cKeep _ _ _ rb cb i _ _ c s r cs (bu : Int) (bx : Int) .returning _ RR hi S.b0 S.b1 S.b2).mono ?_
      rintro e u' w'' ⟨rfl, rfl, rfl⟩
      exact ⟨_, results_none rfl _ _ _, AA.out⟩
end Go.Proofs.Ytdmdoknkkfhheaa
