/- The program's finishing. -/
import Derived.Test.YtggdejceobagcaaU
import Derived.Test.YtggdejceobagcaaN
import Derived.Laws.CopyRow
namespace Go.Proofs.Ytggdejceobagcaa
open Go.RowKit Go.Maps

theorem run_copy_two (w : World) (ty : TypeId) (g n cap : Nat) (a : Addr) (cur : Array Value) (t : TypeId) (cs : List Value)
    (hg : w.heap[g]? = some (.cells cur t (0, 0))) (hc : cur.size = 8) (hn : cs.length = n * 2) (h4 : n ≤ 4)
    (hsrc : ∀ j v, cs[j]? = some v → w.cell? (a.add j) = some v) (h1 : ∀ v ∈ cs, v.oneCell' = true) :
    (Builtin.copy_ #[25, 25] ty #[.slice (some ⟨g, 0, none⟩) 4 4, .slice (some a) n cap]).run Try.prog w =
      .ok (goInt n) (w.setRow g (cs ++ cur.toList.drop cs.length).toArray) := by
  obtain ⟨i0, hi, hz0, hz1, hz2⟩ := info_parts2 infoSingles
  have hl := run_loadCells_list (P := Try.prog) w a cs hsrc
  have hst := run_storeCells_at Try.prog g 0 t cs 0 cur w hg (by omega) h1
  have hm : Nat.min n 4 = n := Nat.min_eq_left h4
  simp [Builtin.copy_, run_underlying Try.underlying25, Builtin.lenOf, Builtin.firstCells, sizeOf, typeInfo, hi, hz1, hm, ← hn, hl, hst]

theorem slice_all (w : World) (b : Nat) : (Instr.sliceAt 74 (.pointer (some ⟨b, 0, none⟩)) none none none).run Try.prog w = .ok (.slice (some ⟨b, 0, none⟩) 4 4) w := by
  have hu : Try.prog.underlying 74 = some (.array (Try.prog.arrayLen 74) (Try.prog.elem 74)) := by kernel_rfl
  have hz : (sizeOf (Try.prog.elem 74)).run Try.prog w = .ok 2 w := by kernel_rfl
  rw [run_sliceAt_array_all (P := Try.prog) w 74 ⟨b, 0, none⟩ hu, hz, arrLU]
  simp [Result.andThen, slicedAt, Addr.add]
theorem flat_zero (n : Nat) : flatSingles (List.replicate n SingleV.zero) = List.replicate (n * 2) (Value.int .i64 0) := by
  induction n with
  | zero => rfl
  | succ n ih => rw [List.replicate_succ, flatSingles_cons, ih, show (n + 1) * 2 = n * 2 + 1 + 1 by omega, List.replicate_succ, List.replicate_succ]; rfl
theorem setRow_grown (w : World) (g : Nat) (cs : Array Value) : w.grownBy (w.setRow g cs) (some g) :=
  ⟨rfl, rfl, rfl, by simp, fun k _ hne => setRow_other w g k cs (fun e => hne (by rw [e]))⟩
theorem Up.of_row {w : World} {b : Nat} {t : TypeId} {l : List SingleV} (hl : l.length = 4) (h : w.heap[b]? = some (.cells (flatSingles l).toArray t (0, 0))) : Up w b l := by
  intro i hi
  obtain ⟨f0, f1⟩ := flatSingles_get l i (by omega)
  have c : ∀ o, w.cell? ⟨b, o, none⟩ = (flatSingles l)[o]? := fun o => by simp [World.cell?, h]
  refine ⟨⟨(c _).trans f0, (c _).trans f1⟩, by simp [World.frozen?, h], by simp [World.frozen?, h]⟩
theorem copy_pad (W : World) (ty : TypeId) (b6 tc : Nat) (tb : Option Addr) (ts : List SingleV) (hg : W.heap[b6]? = some (.cells #[.int .i64 0, .int .i64 0, .int .i64 0, .int .i64 0, .int .i64 0, .int .i64 0, .int .i64 0, .int .i64 0] 74 (0, 0))) (ht : Singles W tb ts) (htn : tb = none → tc = 0) (hspot : ∀ x, tb = some x → x.spot = none) (h4 : ts.length ≤ 4) :
    ∃ W3, (Builtin.copy_ #[25, 25] ty #[.slice (some ⟨b6, 0, none⟩) 4 4, .slice tb ts.length tc]).run Try.prog W = .ok (goInt ts.length) W3 ∧ Up W3 b6 (pad ts) ∧ W.grownBy W3 (some b6) := by
  cases tb with
  | none =>
    have h0 : ts = [] := by
      rcases ht with h | ⟨b, off, h, _⟩
      · exact h
      · cases h
    subst h0
    obtain rfl := htn rfl
    refine ⟨W, run_copy_nil Try.prog W _ _ ty 31 ⟨b6, 0, none⟩ 4 4 Try.underlying25 (by kernel_rfl), ?_, World.grownBy.refl _ _⟩
    exact Up.of_row rfl hg
  | some x =>
    obtain ⟨b, off, spot⟩ := x
    obtain rfl : spot = none := hspot _ rfl
    refine ⟨_, run_copy_two W ty b6 ts.length tc ⟨b, off, none⟩ _ _ (flatSingles ts) hg rfl (flatSingles_len ts) h4 (singles_cells ht) (flat_one ts), ?_, setRow_grown _ _ _⟩
    refine Up.of_row (t := 74) (pad_len h4) ?_
    rw [setRow_heap W b6 _ _ _ _ hg]
    have e : (flatSingles ts ++ (#[.int .i64 0, .int .i64 0, .int .i64 0, .int .i64 0, .int .i64 0, .int .i64 0, .int .i64 0, .int .i64 0] : Array Value).toList.drop (flatSingles ts).length) = flatSingles (pad ts) := by
      rw [pad, flatSingles_app, flat_zero, flatSingles_len]
      congr 1
      show (List.replicate 8 (Value.int .i64 0)).drop (ts.length * 2) = _
      rw [List.drop_replicate]
      congr 1
      omega
    rw [e]

set_option maxRecDepth 20000 in
set_option maxHeartbeats 6400000 in
theorem cFinishing (la tb : Option Addr) (lc tc : Nat) (ls : List Int) (ts : List SingleV) (w : World) (hz : Ints w la ls) (hl : ls.length ≤ 1048576) (hza : ∀ x, la = some x → x.block < w.heap.size) (ht : Singles w tb ts) (htn : tb = none → tc = 0) (hspot : ∀ x, tb = some x → x.spot = none) (hm : ts.length ≤ 1048576) :
    Calls Try.prog 40 #[.slice la ls.length lc, .slice tb ts.length tc] w fun e w' => ∃ v, e = .returned (.tuple #[v, .bool (canOk ls ts)]) ∧
      w'.ownsRow w.heap.size 3 1 v (finR ls ts).length ((finR ls ts).map (Value.int .i64)) ∧ Below w.heap.size w w' := by
  have hmf : ∀ (fn : Fn) (first cap : Array Value) (w : World), (Instr.makeFunc fn first cap).run Try.prog w = .ok (.func fn first cap) w := fun _ _ _ _ => rfl
  have HB3 : Below w.heap.size w (((w.alloc (.cells #[.slice la ls.length lc] 24)).alloc (.cells #[.slice tb ts.length tc] 25)).alloc (.cells #[.slice none 0 0] 24)) := btrans (btrans (balloc w _) (balloc _ _)) (balloc _ _)
  have k0 : (((w.alloc (.cells #[.slice la ls.length lc] 24)).alloc (.cells #[.slice tb ts.length tc] 25)).alloc (.cells #[.slice none 0 0] 24)).heap[w.heap.size]? = some (.cells #[.slice la ls.length lc] 24 (0, 0)) := old_at _ (old_at _ (new_at _ _ _ rfl))
  have k1 : (((w.alloc (.cells #[.slice la ls.length lc] 24)).alloc (.cells #[.slice tb ts.length tc] 25)).alloc (.cells #[.slice none 0 0] 24)).heap[w.heap.size + 1]? = some (.cells #[.slice tb ts.length tc] 25 (0, 0)) := old_at _ (new_at _ _ _ (by simp))
  have k2 : (((w.alloc (.cells #[.slice la ls.length lc] 24)).alloc (.cells #[.slice tb ts.length tc] 25)).alloc (.cells #[.slice none 0 0] 24)).heap[w.heap.size + 1 + 1]? = some (.cells #[.slice none 0 0] 24 (0, 0)) := new_at _ _ _ (by simp)
  have CS := cSinglesI la tb lc tc ls ts _ (hz.below HB3) hl (ht.below HB3) hm
  have hs3 : (((w.alloc (.cells #[.slice la ls.length lc] 24)).alloc (.cells #[.slice tb ts.length tc] 25)).alloc (.cells #[.slice none 0 0] 24)).heap.size = w.heap.size + 1 + 1 + 1 := by simp
  cases h1 : singlesOk ls ts
  · have hf := hide (show canOk ls ts = false by simp [canOk, h1])
    have hg := hide (show finR ls ts = [] by simp [finR, h1])
    rw [h1] at CS
    go_enter Try.func40, Try.ntmps40
    go_wp2_with fail
    refine CS.mono ?_
    rintro e w1 ⟨rfl, hb⟩
    have HB := btrans HB3 hb
    have k2' := (hb.block _ (lt_of_block k2)).trans k2
    have c2 := cell_of_one k2'
    have f2 := free_of_one k2'
    have HBs := below_set (o := 0) (v := .slice none 0 0) (show w.heap.size ≤ w.heap.size + 1 + 1 by omega) HB
    have c2' : (w1.setCell ⟨w.heap.size + 1 + 1, 0, none⟩ (.slice none 0 0)).cell? ⟨w.heap.size + 1 + 1, 0, none⟩ = some (.slice none 0 0) := World.cell?_setCell_same _ _ _ c2
    clear CS HB3 k0 k1 k2 k2' hb h1 hs3
    go_wp2
    refine bodyPost_ret (v := .tuple #[.slice none 0 0, .bool false]) (by simp [results, Try.results40, go_sem, c2']) rfl ?_
    exact ⟨_, by rw [hf.out], by rw [hg.out]; exact World.ownsRow_nil _ _ _ _, HBs⟩
  obtain ⟨p1, p2, p3⟩ := singlesOk_parts h1
  have hP := ok_nice h1
  have hf := hide (show canOk ls ts = canFin ls ts by simp [canOk, h1])
  have hg := hide (show finR ls ts = movesOf ls ts [] by
    simp only [finR, h1, movesOf]
    cases hc : canFin ls ts with
    | true => simp
    | false => simp [fin_cant hc])
  rw [h1] at CS
  go_enter Try.func40, Try.ntmps40
  go_wp2_with fail
  refine CS.mono ?_
  rintro e w1 ⟨rfl, hb⟩
  have HB := btrans HB3 hb
  have q0 := (hb.block _ (lt_of_block k0)).trans k0
  have q1 := (hb.block _ (lt_of_block k1)).trans k1
  have q2 := (hb.block _ (lt_of_block k2)).trans k2
  clear CS HB3 k0 k1 k2 hs3
  go_wp2
  have hA := balloc w1 (.cells #[.int .i64 0, .int .i64 0, .int .i64 0, .int .i64 0, .int .i64 0, .int .i64 0, .int .i64 0, .int .i64 0] 74)
  have HB2 := btrans HB hA
  have r0 := old_at (.cells #[.int .i64 0, .int .i64 0, .int .i64 0, .int .i64 0, .int .i64 0, .int .i64 0, .int .i64 0, .int .i64 0] 74) q0
  have r1 := old_at (.cells #[.int .i64 0, .int .i64 0, .int .i64 0, .int .i64 0, .int .i64 0, .int .i64 0, .int .i64 0, .int .i64 0] 74) q1
  have r2 := old_at (.cells #[.int .i64 0, .int .i64 0, .int .i64 0, .int .i64 0, .int .i64 0, .int .i64 0, .int .i64 0, .int .i64 0] 74) q2
  have r6 : (w1.alloc (.cells #[.int .i64 0, .int .i64 0, .int .i64 0, .int .i64 0, .int .i64 0, .int .i64 0, .int .i64 0, .int .i64 0] 74)).heap[w1.heap.size]? = some (.cells #[.int .i64 0, .int .i64 0, .int .i64 0, .int .i64 0, .int .i64 0, .int .i64 0, .int .i64 0, .int .i64 0] 74 (0, 0)) := new_at _ _ _ rfl
  have hb6 := lt_of_block q2
  generalize (w1.alloc (.cells #[.int .i64 0, .int .i64 0, .int .i64 0, .int .i64 0, .int .i64 0, .int .i64 0, .int .i64 0, .int .i64 0] 74)) = w2 at *
  generalize w1.heap.size = b6 at *
  clear hA q0 q1 q2 hb HB
  obtain ⟨w3, hcp, U3, G3⟩ := copy_pad w2.drew 3 b6 tc tb ts r6 (ht.below (Below.drew HB2)) htn hspot p2
  have hsa := fun w => slice_all w b6
  have c1 := cell_of_one r1
  go_region
  have HB3 : Below w.heap.size w w3 := (Below.drew HB2).grown G3 (Below.drew HB2).size (fun k hk => by cases hk; omega)
  have s0 := (G3.block _ (lt_of_block r0) (by simp; omega)).trans r0
  have s1 := (G3.block _ (lt_of_block r1) (by simp; omega)).trans r1
  have s2 := (G3.block _ (lt_of_block r2) (by simp; omega)).trans r2
  have CH := cAhead (pad ts) w3 hP
  rw [luVal_at hP.len] at CH
  obtain ⟨⟨u0, u1⟩, ⟨u2, u3⟩, ⟨u4, u5⟩, u6, u7⟩ := U3.eight
  clear hcp G3 HB2 r0 r1 r2 r6 hsa c1
  go_wp2_with fail
  refine CH.mono ?_
  rintro e w4 ⟨bm, n, D, rfl, M4, hn, hbm, hL, hb4⟩
  have HB4 := btrans HB3 hb4
  have t0 := (hb4.block _ (lt_of_block s0)).trans s0
  have t1 := (hb4.block _ (lt_of_block s1)).trans s1
  have t2 := (hb4.block _ (lt_of_block s2)).trans s2
  have U4 := U3.below hb4
  have HB46 : Below w4.heap.size w4 ((w4.alloc (.cells #[.map (some bm)] 75)).alloc (.cells #[.func (.func 63) #[] #[.pointer (some ⟨w4.heap.size, 0, none⟩), .pointer (some ⟨w.heap.size + 1, 0, none⟩), .pointer (some ⟨w.heap.size, 0, none⟩), .pointer (some ⟨w.heap.size + 1 + 1, 0, none⟩), .pointer (some ⟨w4.heap.size + 1, 0, none⟩)]] 77)) := btrans (balloc w4 _) (balloc _ _)
  have E6 : Env ((w4.alloc (.cells #[.map (some bm)] 75)).alloc (.cells #[.func (.func 63) #[] #[.pointer (some ⟨w4.heap.size, 0, none⟩), .pointer (some ⟨w.heap.size + 1, 0, none⟩), .pointer (some ⟨w.heap.size, 0, none⟩), .pointer (some ⟨w.heap.size + 1 + 1, 0, none⟩), .pointer (some ⟨w4.heap.size + 1, 0, none⟩)]] 77)) w4.heap.size (w.heap.size + 1) w.heap.size (w.heap.size + 1 + 1) (w4.heap.size + 1) bm (.slice tb ts.length tc) (.slice la ls.length lc) (.slice none 0 0) :=
    ⟨old_at _ (new_at _ _ _ rfl), old_at _ (old_at _ t1), old_at _ (old_at _ t0), old_at _ (old_at _ t2), new_at _ _ _ (by simp), by omega⟩
  have M6 := OM.below M4 HB46
  have HB6 := btrans HB4 HB46
  have hsz3 := HB3.size
  have hopn : Opn ls ts ts (look D) := by
    intro q hq _
    left
    rw [hL (pad q) (hq.nice hP p2) hq.inFrom, far_pad]
  have SE := cSearchI ls ts la tb lc tc w4.heap.size (w.heap.size + 1) w.heap.size (w.heap.size + 1 + 1) (w4.heap.size + 1) bm w.heap.size n hP p2 p1 hza (by omega) (by omega) (far ts) ts [] (.slice none 0 0) D _ rfl h1 (Box.refl ts) (by have := ok_far h1; simp; omega) E6 M6 (World.ownsRow_nil _ _ _ _) (hz.below HB6) HB6.size hopn
  rw [luVal_at hP.len] at SE
  obtain ⟨⟨y0, y1⟩, ⟨y2, y3⟩, ⟨y4, y5⟩, y6, y7⟩ := (U4.below HB46).eight
  clear CH u0 u1 u2 u3 u4 u5 u6 u7 U3 s0 s1 s2 t0 t1 t2 hL hopn hb4 M4 U4 HB3 HB4 HB46 M6 E6
  go_wp2_with fail
  refine SE.mono ?_
  rintro e w7 ⟨v7, rfl, hv7, O7, S7, hno⟩
  clear hno SE y0 y1 y2 y3 y4 y5 y6 y7
  have HB7 : Below w.heap.size w w7 := ⟨S7.os.trans HB6.os, S7.tape.trans HB6.tape, S7.output.trans HB6.output, Nat.le_trans HB6.size S7.size, fun k hk => (S7.block k (Nat.lt_of_lt_of_le hk HB6.size) (by omega) (by omega) (by simp [Value.ownBlock])).trans (HB6.block k hk)⟩
  have hvn := own_ty O7 hv7 (by decide)
  have c7 := cell_of_one hv7
  have f7 := free_of_one hv7
  obtain ⟨a7, n7, rfl⟩ := own_form O7
  have c8 : (w7.setCell ⟨w.heap.size + 1 + 1, 0, none⟩ (.slice a7 (movesOf ls ts []).length n7)).cell? ⟨w.heap.size + 1 + 1, 0, none⟩ = some (.slice a7 (movesOf ls ts []).length n7) := World.cell?_setCell_same _ _ _ c7
  have O8 := own_set (b := w.heap.size + 1 + 1) (i := 0) (u := .slice a7 (movesOf ls ts []).length n7) O7 (fun j hj e => hvn (by rw [hj, e]))
  have HB8 := below_set (o := 0) (v := .slice a7 (movesOf ls ts []).length n7) (show w.heap.size ≤ w.heap.size + 1 + 1 by omega) HB7
  clear HB7 HB6 S7 O7 hv7 hvn
  rw [← hg.out] at *
  rw [← hf.out]
  go_wp2
  refine bodyPost_ret (v := .tuple #[.slice a7 (finR ls ts).length n7, .bool (canOk ls ts)]) (by simp [results, Try.results40, go_sem, c8]) rfl ?_
  exact ⟨_, rfl, O8, HB8⟩
end Go.Proofs.Ytggdejceobagcaa
