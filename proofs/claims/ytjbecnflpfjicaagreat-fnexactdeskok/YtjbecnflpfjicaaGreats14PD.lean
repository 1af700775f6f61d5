/- Pieces: what is among some of them, whether they are free. -/
import Derived.Test.YtjbecnflpfjicaaGreats14P
import Derived.Test.YtjbecnflpfjicaaGreats14M
namespace Go.Proofs.YtjbecnflpfjicaaGreat.s14
open Go.RowKit Go.Lib
/-- A seat's pieces as a value. -/
def pcA (f : Nat → Bool) : Array Value := #[.bool (f 0), .bool (f 1), .bool (f 2), .bool (f 3), .bool (f 4), .bool (f 5), .bool (f 6), .bool (f 7), .bool (f 8), .bool (f 9), .bool (f 10)]
def pcV (f : Nat → Bool) : Value := .agg (pcA f)
def pcL (f : Nat → Bool) : List Value := (List.range 11).map fun q => .bool (f q)
theorem pcA_L (f : Nat → Bool) : (pcL f).toArray = pcA f := rfl
theorem pcL_len (f : Nat → Bool) : (pcL f).length = 11 := rfl
theorem pcL_get (f : Nat → Bool) (q : Nat) (h : q < 11) : (pcL f)[q]? = some (.bool (f q)) := by simp [pcL, h]
def amF (f : Nat → Bool) (on off : Nat) (q : Nat) : Bool := decide (on ≤ q ∧ q < off) && f q
def frB (f : Nat → Bool) (on off : Nat) : Bool := (List.range 11).all fun q => !amF f on off q
theorem frB_iff {f : Nat → Bool} {on off : Nat} (h : off ≤ 11) : frB f on off = true ↔ ∀ q, on ≤ q → q < off → f q = false := by
  simp only [frB, List.all_eq_true, List.mem_range, Bool.not_eq_true', amF, Bool.and_eq_false_iff, decide_eq_false_iff_not]
  constructor
  · intro g q h1 h2
    rcases g q (by omega) with g | g
    · exact absurd ⟨h1, h2⟩ g
    · exact g
  · intro g q hq
    by_cases hc : on ≤ q ∧ q < off
    · exact .inr (g q hc.1 hc.2)
    · exact .inl hc
theorem am_row (f : Nat → Bool) (on off : Nat) (h : on < off) (h2 : off ≤ 11) : (pcL fun _ => false).take on ++ ((pcL f).drop on).take (off - on) ++ (pcL fun _ => false).drop (on + (off - on)) = pcL (amF f on off) := by
  apply List.ext_getElem?
  intro q
  have l1 : ((pcL fun _ => false).take on).length = on := by simp [pcL_len]; omega
  have l2 : (((pcL f).drop on).take (off - on)).length = off - on := by simp [pcL_len]; omega
  by_cases hq : q < 11
  · rw [pcL_get _ _ hq]
    by_cases c1 : q < on
    · rw [List.getElem?_append_left (by simp [l1, l2]; omega), List.getElem?_append_left (by omega), List.getElem?_take, if_pos c1, pcL_get _ _ hq]
      simp [amF]; omega
    · by_cases c2 : q < off
      · rw [List.getElem?_append_left (by simp only [List.length_append, l1, l2]; omega), List.getElem?_append_right (by omega), l1, List.getElem?_take, if_pos (by omega), List.getElem?_drop, show on + (q - on) = q by omega, pcL_get _ _ hq]
        simp [amF, c2]; intro; omega
      · rw [List.getElem?_append_right (by simp only [List.length_append, l1, l2]; omega), List.length_append, l1, l2, List.getElem?_drop, show on + (off - on) + (q - (on + (off - on))) = q by omega, pcL_get _ _ hq]
        simp [amF]; omega
  · rw [List.getElem?_eq_none (by simp only [List.length_append, l1, l2, List.length_drop, pcL_len]; omega), List.getElem?_eq_none (by rw [pcL_len]; omega)]
theorem size_bool : (Tryz.prog.info? 4).map (·.size) = some 1 := by kernel_rfl
theorem pcL_one (f : Nat → Bool) : ∀ u ∈ pcL f, u.oneCell' = true := by
  intro u hu
  simp only [pcL, List.mem_map] at hu
  obtain ⟨q, _, rfl⟩ := hu
  rfl

theorem wpList_eql_run {P : Program} {ops : Array Oper} {rest : List Oper} {op : Oper} {a : Act} {w : World} {Q : Exit → Act → World → Prop} (hgd : op.guard = none) (b : BinOp) (ty : TypeId) (x y : Operand) (rt : TypeId) (ho : op.op = .binOp b ty x y rt) (u v : Value) (hx : a.eval x = u) (hy : a.eval y = v) {r : Value}
    (hg : (eqGuard b ty x y u v).run P w = .ok () w) (hr : (binOp b ty u v).run P w = .ok r w) (h : wpList P ops Q rest (a.put op.dst r) w) : wpList P ops Q (op :: rest) a w := by
  refine wpList_plain hgd fun _ hK => ?_
  unfold Oper.wp execOp
  simp only [ho, hx, hy, Sem.run_bind, Sem.run_pure, Result.andThen_ok, hg, hr]
  exact hK _ _ h
theorem pcA_false : (pcA fun _ => false) = #[.bool false, .bool false, .bool false, .bool false, .bool false, .bool false, .bool false, .bool false, .bool false, .bool false, .bool false] := rfl
theorem pcA_one (f : Nat → Bool) : (pcA f).all (·.oneCell') = true := by
  rw [Array.all_eq_true_iff_forall_mem]
  intro x hx
  rw [← pcA_L] at hx
  exact pcL_one f x (by simpa using hx)
theorem under11 : Tryz.prog.underlying 155 = some (.array 11 4) := by kernel_rfl
theorem size11 : (Tryz.prog.info? 155).map (·.size) = some 11 := by kernel_rfl
theorem slice11 (w : World) (b on off : Nat) (h : on < off) (h2 : off ≤ 11) : (Instr.sliceAt 155 (.pointer (some ⟨b, 0, none⟩)) (some (.int .i64 on)) (some (.int .i64 off)) none).run Tryz.prog w = .ok (.slice (some ⟨b, on, none⟩) (off - on) (11 - on)) w := by
  have hu : Tryz.prog.underlying 155 = some (.array (Tryz.prog.arrayLen 155) (Tryz.prog.elem 155)) := by kernel_rfl
  have hz : (sizeOf (Tryz.prog.elem 155)).run Tryz.prog w = .ok 1 w := by kernel_rfl
  have ha : Tryz.prog.arrayLen 155 = 11 := by kernel_rfl
  rw [run_sliceAt_array_lh (P := Tryz.prog) w 155 ⟨b, 0, none⟩ hu .i64 .i64 on off (by omega) (by omega) (by rw [ha]; omega), hz, ha]
  have hne : ¬ (11 = on) := by omega
  simp only [Result.andThen, slicedAt, Int.toNat_natCast, if_neg hne, Nat.mul_one, addN, Nat.zero_add]

theorem blocks3 (w : World) (o1 o2 o3 : Obj) : (((w.alloc o1).alloc o2).alloc o3).heap[w.heap.size]? = some o1 ∧ (((w.alloc o1).alloc o2).alloc o3).heap[w.heap.size + 1]? = some o2 ∧ (((w.alloc o1).alloc o2).alloc o3).heap[w.heap.size + 1 + 1]? = some o3 := by
  refine ⟨?_, ?_, ?_⟩
  · show (((w.heap.push o1).push o2).push o3)[w.heap.size]? = _
    simp [Array.getElem?_push]; omega
  · show (((w.heap.push o1).push o2).push o3)[w.heap.size + 1]? = _
    rw [Array.getElem?_push, if_neg (by simp), Array.getElem?_push, if_pos (by simp)]
  · show (((w.heap.push o1).push o2).push o3)[w.heap.size + 1 + 1]? = _
    rw [Array.getElem?_push, if_pos (by simp)]

set_option maxRecDepth 20000 in
set_option maxHeartbeats 1600000 in
theorem cAmong (f : Nat → Bool) (on off : Nat) (h : on < off) (h2 : off ≤ 11) (w : World) : Calls Tryz.prog 114 #[pcV f, .int .i64 on, .int .i64 off] w fun e w' => e = .returned (pcV (amF f on off)) ∧ Below w.heap.size w w' := by
  obtain ⟨k1, k2, k3⟩ := blocks3 w (Obj.cells (pcA f) 155) (Obj.cells (pcA fun _ => false) 155) (Obj.cells (pcA fun _ => false) 155)
  have hB : Below w.heap.size w (((w.alloc (Obj.cells (pcA f) 155)).alloc (Obj.cells (pcA fun _ => false) 155)).alloc (Obj.cells (pcA fun _ => false) 155)) := btrans (btrans (balloc _ _) (balloc _ _)) (balloc _ _)
  generalize hW : ((w.alloc (Obj.cells (pcA f) 155)).alloc (Obj.cells (pcA fun _ => false) 155)).alloc (Obj.cells (pcA fun _ => false) 155) = W at *
  have hcp : ∀ ty dc sc, (Builtin.copy_ #[173, 173] ty #[.slice (some ⟨w.heap.size + 1 + 1, on, none⟩) (off - on) dc, .slice (some ⟨w.heap.size, on, none⟩) (off - on) sc]).run Tryz.prog W.drew = .ok (goInt (off - on : Nat)) (W.drew.setRow (w.heap.size + 1 + 1) (pcA (amF f on off))) := fun ty dc sc => by
    have := run_copy_s (P := Tryz.prog) W.drew 173 4 ty 1 Tryz.underlying173 size_bool (w.heap.size + 1 + 1) on (off - on) dc ⟨w.heap.size, on, none⟩ (off - on) sc (off - on) (pcA fun _ => false) 155 (((pcL f).drop on).take (off - on)) k3 (Nat.min_self _) (by simp [pcL_len]; omega) (by simp [pcL_len, pcA]; omega)
      (fun j v hj => by
        rw [List.getElem?_take] at hj
        split at hj
        · rw [List.getElem?_drop, pcL_get _ _ (by omega)] at hj
          rw [addN]
          have k1' : W.drew.heap[w.heap.size]? = some (Obj.cells (pcL f).toArray 155) := k1
          simp only [World.cell?, k1']
          show (pcL f).toArray[on + j]? = _
          rw [List.getElem?_toArray, pcL_get _ _ (by omega)]; exact hj
        · cases hj) (fun u hu => pcL_one f u (List.mem_of_mem_drop (List.mem_of_mem_take hu)))
    rw [this, show (pcA fun _ => false).toList = pcL fun _ => false from rfl, show (((pcL f).drop on).take (off - on)).length = off - on by simp [pcL_len]; omega, am_row f on off h h2, pcA_L]
  obtain ⟨V, hV⟩ : ∃ V, V = W.drew.setRow (w.heap.size + 1 + 1) (pcA (amF f on off)) := ⟨_, rfl⟩
  have hV3 : V.heap[w.heap.size + 1 + 1]? = some (.cells (pcA (amF f on off)) 155 (0, 0)) := by rw [hV]; exact setRow_heap _ _ (pcA fun _ => false) _ _ _ k3
  have hV2 : V.heap[w.heap.size + 1]? = some (.cells (pcA fun _ => false) 155 (0, 0)) := by rw [hV, setRow_other _ _ _ _ (by omega)]; exact k2
  have hBV : Below w.heap.size w V := by
    rw [hV]
    exact ⟨hB.os, hB.tape, hB.output, by rw [size_setRow]; exact hB.size, fun k hk => by rw [setRow_other _ _ _ _ (by omega)]; exact hB.block k hk⟩
  rw [← hV] at hcp
  have hld := run_loadVar_row (P := Tryz.prog) V (w.heap.size + 1 + 1) _ 155 _ (0, 0) _ hV3 under11 rfl size11
  have hst := run_storeVar_row (P := Tryz.prog) V (w.heap.size + 1) _ 155 _ (pcA (amF f on off)) hV2 size11 rfl (pcA_one _)
  have hV4 : (V.setRow (w.heap.size + 1) (pcA (amF f on off))).heap[w.heap.size + 1]? = some (.cells (pcA (amF f on off)) 155 (0, 0)) := setRow_heap _ _ _ _ _ _ hV2
  have hld4 := run_loadVar_row (P := Tryz.prog) (V.setRow (w.heap.size + 1) (pcA (amF f on off))) (w.heap.size + 1) _ 155 _ (0, 0) _ hV4 under11 rfl size11
  have hBF : Below w.heap.size w (V.setRow (w.heap.size + 1) (pcA (amF f on off))) := grow_below' hBV (grow_row1 _ _ _) (fun k e => by cases e; omega)
  clear hV k1 k2 k3 hB hV2 hV3 hV4 hBV
  unfold pcV
  have hsl := fun w b => slice11 w b on off h h2
  subst hW
  simp only [pcA_false] at hcp
  generalize hF : amF f on off = F at *
  go_enter Tryz.func114, Tryz.ntmps114
  go_wp2
  go_region_law (refine step_copy_run rfl _ _ 173 173 rfl _ _ (by simp [Act.eval, Act.put]) (by simp [Act.eval, Act.put]) (hcp _ _ _) ?_)
  go_wp2_with (first
    | (refine wpList_load_run rfl 155 _ rfl _ rfl hld ?_)
    | (refine wpList_store_run rfl 155 _ _ rfl _ _ rfl rfl hst ?_))
  refine bodyPost_ret (v := .agg (pcA F)) ?_ rfl ⟨rfl, hBF⟩
  simp only [results, Tryz.results114]
  simp [asAddr, Act.put, hld4]

theorem eqPc (f : Nat → Bool) (w : World) : (Op.equal 155 (pcV f) (pcV fun _ => false)).run Tryz.prog w = .ok ((List.range 11).all fun q => !f q) w := by
  refine (eq11 (f 0) (f 1) (f 2) (f 3) (f 4) (f 5) (f 6) (f 7) (f 8) (f 9) (f 10) w).trans ?_
  congr 1
  simp only [List.range, List.range.loop, List.all_cons, List.all_nil, Bool.and_true, Bool.not_or, Bool.and_assoc]

set_option maxRecDepth 20000 in
set_option maxHeartbeats 1600000 in
theorem cFree (f : Nat → Bool) (on off : Nat) (h : on < off) (h2 : off ≤ 11) (w : World) : Calls Tryz.prog 99 #[pcV f, .int .i64 on, .int .i64 off] w fun e w' => e = .returned (.bool (frB f on off)) ∧ Below w.heap.size w w' := by
  have hld := run_loadVar_row (P := Tryz.prog) (w.alloc (.cells (pcA f) 155)) w.heap.size _ 155 (pcA f) (0, 0) _ (heap_alloc_new w _) under11 rfl size11
  have hB := balloc w (.cells (pcA f) 155)
  have hbl : ∀ w, (Op.equal 155 (.agg (pcA (amF f on off))) (.agg (pcA fun _ => false))).run Tryz.prog w = .ok (frB f on off) w := fun w => eqPc _ w
  unfold pcV
  go_enter Tryz.func99, Tryz.ntmps99
  go_wp2_with (first
    | (refine wpList_load_run rfl 155 _ rfl _ rfl hld ?_)
    | fail)
  refine (cAmong f on off h h2 _).mono ?_
  rintro e w1 ⟨rfl, hb1⟩
  replace hB := btrans hB hb1
  clear hld hb1
  unfold pcV
  have hbo : (binOp .eql 155 (.agg (pcA (amF f on off))) (.agg (pcA fun _ => false))).run Tryz.prog w1 = .ok (.bool (frB f on off)) w1 := by
    simp only [binOp, Sem.run_bind, hbl, Result.andThen_ok, Sem.run_pure]
  have hge : ∀ x y, (eqGuard .eql 155 x y (.agg (pcA (amF f on off))) (.agg (pcA fun _ => false))).run Tryz.prog w1 = .ok () w1 := fun x y => by
    simp [eqGuard, run_program]
  clear hbl
  generalize hr : frB f on off = r at hbo
  replace hr := hide hr
  generalize amF f on off = F at *
  simp only [pcA_false] at hbo hge
  go_wp2_with (first
    | (refine wpList_eql_run rfl .eql 155 _ _ _ rfl _ _ rfl rfl (hge _ _) hbo ?_))
  go_ret
  exact ⟨by simp [hr.out], hB⟩

/-- Who holds a seat, piece by piece. -/
def hF (hs : List BkV) (s : Int) (q : Nat) : Bool := heldB hs s (q : Int)
theorem frB_held {hs : List BkV} {s : Int} {on off : Nat} (h : off ≤ 11) : frB (hF hs s) on off = freeB hs s on off := by
  rw [Bool.eq_iff_iff, frB_iff h, freeB_iff]
  constructor
  · intro g p h1 h2
    have := g p.toNat (by omega) (by omega)
    unfold hF at this
    rwa [show ((p.toNat : Nat) : Int) = p by omega] at this
  · intro g q h1 h2; exact g q (by omega) (by omega)
theorem cell11 (w : World) (f : Nat → Bool) (q : Nat) (h : q < 11) : (w.alloc (.cells (pcA f) 155)).cell? ⟨w.heap.size, q, none⟩ = some (.bool (f q)) := by
  have hh : (w.alloc (.cells (pcA f) 155)).heap[w.heap.size]? = some (.cells (pcL f).toArray 155 (0, 0)) := heap_alloc_new w _
  simp only [World.cell?, hh]
  show (pcL f).toArray[q]? = _
  rw [List.getElem?_toArray, pcL_get _ _ h]

end Go.Proofs.YtjbecnflpfjicaaGreat.s14
