/- byBegin, and the library's sort of runs by it. -/
import Derived.Test.YthfknkmabjgklaaAR
import Derived.Test.YthfknkmabjgklaaShelfK
import Derived.Deep.RegionHeld3
import Derived.Shelf.SlSortCmp.WholeK
namespace Go.Proofs.Ythfknkmabjgklaa
open Go.RowKit Go.Sort Go.Lib
def cmpI (x y : Int) : Int := if x < y then -1 else if y < x then 1 else 0
def Ints (w : World) (a : Option Addr) (zs : List Int) : Prop := zs = [] ∨ ∃ b off, a = some ⟨b, off, none⟩ ∧ ∀ i, i < zs.length → w.cell? ⟨b, off + i, none⟩ = some (.int .i64 (zs.getD i 0))
def orI : List Int → Int
  | [] => 0
  | z :: zs => if z = 0 then orI zs else z
theorem or2 (x y : Int) : orI [x, y] = if x = 0 then y else x := by
  unfold orI orI orI
  split
  · split
    · next h => exact h.symm
    · rfl
  · rfl
theorem cmpI_cases (x y : Int) : (x < y ∧ cmpI x y = -1) ∨ (x = y ∧ cmpI x y = 0) ∨ (y < x ∧ cmpI x y = 1) := by
  unfold cmpI; split
  · left; omega
  · split
    · right; right; omega
    · right; left; omega
set_option maxHeartbeats 400000 in
theorem cNaN (x : Int) (w : World) : Calls Try.prog 85 #[.int .i64 x] w fun e w' => e = .returned (.bool false) ∧ w' = w := by
  go_enter Try.func85, Try.ntmps85
  go_wp2
  go_ret
  exact ⟨by simp, rfl⟩

set_option maxHeartbeats 800000 in
theorem cCompare (x y : Int) (w : World) : Calls Try.prog 67 #[.int .i64 x, .int .i64 y] w fun e w' => e = .returned (.int .i64 (cmpI x y)) ∧ w' = w := by
  rcases cmpI_cases x y with ⟨h1, e1⟩ | ⟨h1, e1⟩ | ⟨h1, e1⟩ <;> rw [e1] <;> clear e1
  · go_enter Try.func67, Try.ntmps67
    go_wp2_with (go_at_call 85; refine (cNaN _ _).mono ?_; rintro e w' ⟨rfl, rfl⟩)
    go_ret
    exact ⟨rfl, rfl⟩
  · subst h1
    go_enter Try.func67, Try.ntmps67
    go_wp2_with (go_at_call 85; refine (cNaN _ _).mono ?_; rintro e w' ⟨rfl, rfl⟩)
    go_ret
    exact ⟨rfl, rfl⟩
  · have h2 : ¬ x < y := by omega
    go_enter Try.func67, Try.ntmps67
    go_wp2_with (go_at_call 85; refine (cNaN _ _).mono ?_; rintro e w' ⟨rfl, rfl⟩)
    go_ret
    exact ⟨rfl, rfl⟩

theorem orI_drop {zs : List Int} {k : Nat} (hk : k < zs.length) : orI (zs.drop k) = if zs[k] = 0 then orI (zs.drop (k + 1)) else zs[k] := by
  rw [List.drop_eq_getElem_cons hk]; rfl

set_option maxHeartbeats 800000 in
theorem cOr (a : Option Addr) (cap : Nat) (zs : List Int) (w : World) (hz : Ints w a zs) (hl : zs.length ≤ 1048576) :
    Calls Try.prog 66 #[.slice a zs.length cap] w fun e w' => e = .returned (.int .i64 (orI zs)) ∧ w' = w := by
  generalize hr : orI zs = res
  have hr0 : Hid (orI (zs.drop 0) = res) := hr
  clear hr
  go_enter Try.func66, Try.ntmps66
  go_wp2
  go_loop [8] (fun i => ∃ k : Nat, k ≤ zs.length ∧ i = .int .i64 k ∧ Hid (orI (zs.drop k) = res)) (fun i => zs.length - (intOf i).toNat)
  case atStart => exact ⟨0, Nat.zero_le _, rfl, hr0⟩
  case round =>
    obtain ⟨k, hk, rfl, hres⟩ := hrel
    clear hr0
    by_cases hlt : k < zs.length
    · rcases hz with h | ⟨b, off, rfl, hc⟩
      · simp [h] at hlt
      have q0 := hc k hlt
      have e0 : zs.getD k 0 = zs[k] := by simp [List.getD, hlt]
      rw [e0] at q0
      have hd := hide ((orI_drop hlt).symm.trans hres.out)
      generalize zs[k] = y at *
      clear hc e0 hres
      by_cases hy : y = 0
      · have hf := hide (show orI (zs.drop (k + 1)) = res by rw [← hd.out, if_pos hy])
        clear hd
        subst hy
        go_wp2
        go_round
        case rel => exact ⟨k + 1, by omega, by go_num, hf⟩
        case measure => simp [intOf]; omega
      · have hf := hide (show res = y by rw [← hd.out, if_neg hy])
        clear hd
        go_wp2
        go_ret
        exact ⟨ret_int hf.out.symm, rfl⟩
    · obtain rfl : k = zs.length := by omega
      have hf := hide (show res = 0 by rw [← hres.out, List.drop_length]; rfl)
      clear hz
      go_wp2
      go_ret
      exact ⟨ret_int hf.out.symm, rfl⟩


theorem ints2 (w : World) (x y : Int) (t : TypeId) : Ints (w.alloc (.cells #[.int .i64 x, .int .i64 y] t)) (some ⟨w.heap.size, 0, none⟩) [x, y] := by
  refine .inr ⟨w.heap.size, 0, rfl, fun i hi => ?_⟩
  match i, hi with
  | 0, _ => simp
  | 1, _ => simp
theorem cOr2 (v : World) (x y : Int) (t : TypeId) :
    Calls Try.prog 66 #[.slice (some ⟨v.heap.size, 0, none⟩) 2 2] (v.alloc (.cells #[.int .i64 x, .int .i64 y] t)).drew fun e w' => e = .returned (.int .i64 (orI [x, y])) ∧ w' = (v.alloc (.cells #[.int .i64 x, .int .i64 y] t)).drew :=
  cOr _ 2 [x, y] _ (show Ints _ _ _ from ints2 v x y t) (by simp)

/-- How two runs compare: by when they begin, then by place. -/
def cmpR (p q : RunV) : Int := orI [cmpI p.f q.f, cmpI p.t q.t]
theorem cmpR_lt (p q : RunV) : cmpR p q < 0 ↔ p.f < q.f ∨ (p.f = q.f ∧ p.t < q.t) := by
  unfold cmpR
  rw [or2]
  rcases cmpI_cases p.f q.f with ⟨h1, e1⟩ | ⟨h1, e1⟩ | ⟨h1, e1⟩ <;> rcases cmpI_cases p.t q.t with ⟨h2, e2⟩ | ⟨h2, e2⟩ | ⟨h2, e2⟩ <;> rw [e1, e2] <;> (try split) <;> omega
theorem three_grow (w : World) (a b c : Obj) : ((w.alloc a).alloc b).alloc c = grow w (#[a] ++ #[b] ++ #[c]) := by
  rw [alloc_eq_grow w a, alloc_eq_grow _ b, alloc_eq_grow _ c, grow_grow, grow_grow, Array.append_assoc]
set_option maxHeartbeats 1600000 in
theorem cByBegin (p q : RunV) (w : World) : Calls Try.prog 41 #[p.val, q.val] w fun e w' => e = .returned (.int .i64 (cmpR p q)) ∧ ∃ k os, w' = grow (w.drewN k) os := by
  have hP : Hid (cmpR p q = orI [cmpI p.f q.f, cmpI p.t q.t]) := hide rfl
  generalize cmpR p q = R at *
  obtain ⟨pt, pl, pf, po⟩ := p
  obtain ⟨qt, ql, qf, qo⟩ := q
  unfold RunV.val
  dsimp only at *
  obtain ⟨hX, hY⟩ := two_blocksL w (.cells #[.int .i64 pt, .int .i64 pl, .int .i64 pf, .int .i64 po] 72) (.cells #[.int .i64 qt, .int .i64 ql, .int .i64 qf, .int .i64 qo] 72)
  obtain ⟨⟨x0, x1, x2, x3⟩, -⟩ := blk4 hX
  obtain ⟨⟨y0, y1, y2, y3⟩, -⟩ := blk4 hY
  go_enter Try.func41, Try.ntmps41
  go_wp2
  obtain ⟨v, hv⟩ : ∃ v, (w.alloc (.cells #[.int .i64 pt, .int .i64 pl, .int .i64 pf, .int .i64 po] 72)).alloc (.cells #[.int .i64 qt, .int .i64 ql, .int .i64 qf, .int .i64 qo] 72) = v := ⟨_, rfl⟩
  rw [hv] at x0 x1 x2 x3 y0 y1 y2 y3 ⊢
  replace hv := hide hv
  clear hX hY
  go_region_held3 (fun w' => w'.cell? ⟨w.heap.size, 2, none⟩ = some (.int .i64 pf) ∧ w'.cell? ⟨w.heap.size, 0, none⟩ = some (.int .i64 pt) ∧ w'.cell? ⟨w.heap.size + 1, 2, none⟩ = some (.int .i64 qf) ∧ w'.cell? ⟨w.heap.size + 1, 0, none⟩ = some (.int .i64 qt)) (go_keep) (first
    | (go_at_call 67; with_reducible refine (cCompare _ _ _).mono ?_; rintro e w' ⟨rfl, hw⟩; subst hw)
    | (go_at_call 66; with_reducible refine (cOr2 _ _ _ _).mono ?_; rintro e w' ⟨rfl, hw⟩; subst hw))
  go_wp2
  go_ret
  refine ⟨ret_int hP.out.symm, 1, #[.cells #[.int .i64 pt, .int .i64 pl, .int .i64 pf, .int .i64 po] 72] ++ #[.cells #[.int .i64 qt, .int .i64 ql, .int .i64 qf, .int .i64 qo] 72] ++ #[.cells #[.int .i64 (cmpI pf qf), .int .i64 (cmpI pt qt)] 3], ?_⟩
  rw [← hv.out, three_grow]
  rfl
theorem swoR : SWO (ltOf cmpR) := by
  have e : ∀ x y, ltOf cmpR x y = decide (x.f < y.f ∨ (x.f = y.f ∧ x.t < y.t)) := fun x y => by
    unfold ltOf
    rw [Bool.eq_iff_iff]; simp only [decide_eq_true_eq]; exact cmpR_lt x y
  constructor
  · intro x; rw [e]; simp
  · intro x y z h1 h2; rw [e] at *; simp only [decide_eq_true_eq] at *; omega
  · intro x y z h1 h2; rw [e] at *; simp only [decide_eq_false_iff_not] at *; omega
instance : Inhabited RunV := ⟨RunV.zero⟩
theorem vs_len (x : RunV) : x.vs.length = 4 := rfl
theorem vs_get (x : RunV) : x.vs = [.int .i64 x.t, .int .i64 x.l, .int .i64 x.f, .int .i64 x.o] := rfl
theorem flatRuns_elem (es : List RunV) (t : Nat) (h : t < es.length * 4) : (flatRuns es)[t]? = some ((es.getD (t / 4) RunV.zero).vs[t % 4]!) := by
  obtain ⟨h0, h1, h2, h3⟩ := flatRuns_get es (t / 4) (by omega)
  have hq : t = t / 4 * 4 + t % 4 := by omega
  have hr : t % 4 < 4 := Nat.mod_lt _ (by omega)
  generalize t / 4 = q at *
  generalize t % 4 = r at *
  subst hq
  match r, hr with
  | 0, _ => simpa [RunV.vs] using h0
  | 1, _ => simpa [RunV.vs] using h1
  | 2, _ => simpa [RunV.vs] using h2
  | 3, _ => simpa [RunV.vs] using h3
theorem flatK_runs (d : Array RunV) (t : Nat) (h : t < d.size * 4) : (flatK RunV.vs 4 d)[t]! = (d[t / 4]!).vs[t % 4]! := get_flatK _ _ _ _ h
/-- What a sort of runs leaves: the row holds the list in a new order. -/
theorem own_sorted {B g cap q : Nat} {rs : List RunV} {d : Array RunV} {os : Array Obj} {w : World} (h : w.ownsRow B 72 4 (.slice (some ⟨g, 0, none⟩) rs.length cap) rs.length (flatRuns rs)) (hd : d.size = rs.length) (hgl : g < w.heap.size) :
    (sortWorldK RunV.vs 4 w g 0 q d os).ownsRow B 72 4 (.slice (some ⟨g, 0, none⟩) rs.length cap) rs.length (flatRuns d.toList) ∧ w.grownBy (sortWorldK RunV.vs 4 w g 0 q d os) (some g) := by
  rcases h.2 with ⟨e0, _⟩ | ⟨g', cap', cur, e0, hb, hg, hn, hm, hs, ht⟩
  · cases e0
  · injection e0 with e1 _ e3
    injection e1 with e1
    injection e1 with e1
    subst e1; subst e3
    have hsz : ((Go.Sort.ahead w q).heap).size = w.heap.size := rfl
    refine ⟨⟨by rw [flatRuns_len]; simp [hd], .inr ⟨g, cap, putCells id 0 (flatK RunV.vs 4 d) cur, rfl, hb, ?_, hn, hm, by simpa [putCells] using hs, ?_⟩⟩, ⟨rfl, rfl, rfl, ?_, ?_⟩⟩
    · show ((putRowK RunV.vs 4 (Go.Sort.ahead w q) g 0 d).heap ++ os)[g]? = _
      rw [Array.getElem?_append_left (by simp [putRowK, putRow, mapBlock, Go.Sort.ahead]; exact hgl)]
      simp [putRowK, putRow, mapBlock, Go.Sort.ahead, Array.getElem?_modify, hg, onCells]
    · apply List.ext_getElem?
      intro j
      rw [List.getElem?_take]
      by_cases hj : j < rs.length * 4
      · have hjc : j < cur.size := by rw [hs]; exact Nat.lt_of_lt_of_le hj (Nat.mul_le_mul_right 4 hn)
        rw [if_pos hj, Array.getElem?_toList, flatRuns_elem _ _ (by simpa [hd] using hj)]
        simp only [putCells, Array.getElem?_mapIdx, Array.getElem?_eq_getElem hjc, Option.map_some]
        rw [if_pos (by simp [hd]; exact hj)]
        simp only [id, Nat.sub_zero]
        rw [flatK_runs _ _ (by rw [hd]; exact hj)]
        have hq : j / 4 < d.size := by omega
        rw [getElem!_pos d (j / 4) hq]
        simp [List.getD, hq]
      · rw [if_neg hj, List.getElem?_eq_none (by rw [flatRuns_len]; simp [hd]; omega)]
    · show w.heap.size ≤ ((putRowK RunV.vs 4 (Go.Sort.ahead w q) g 0 d).heap ++ os).size
      simp [putRowK, putRow, mapBlock, Go.Sort.ahead]
    · intro k hk hne
      show ((putRowK RunV.vs 4 (Go.Sort.ahead w q) g 0 d).heap ++ os)[k]? = _
      rw [Array.getElem?_append_left (by simp [putRowK, putRow, mapBlock, Go.Sort.ahead]; exact hk)]
      have : g ≠ k := fun e => hne (by rw [e])
      simp [putRowK, putRow, mapBlock, Go.Sort.ahead, Array.getElem?_modify, this]
set_option maxRecDepth 20000 in
set_option maxHeartbeats 1600000 in
theorem cSortRuns (B g cap : Nat) (rs : List RunV) (w : World) (ho : w.ownsRow B 72 4 (.slice (some ⟨g, 0, none⟩) rs.length cap) rs.length (flatRuns rs)) (hn : rs.length ≤ 1048576) :
    Calls Try.prog 40 #[.slice (some ⟨g, 0, none⟩) rs.length cap, .func (.func 41) #[] #[]] w fun e w' => e = .returned (.tuple #[]) ∧
      ∃ rs' : List RunV, rs'.Perm rs ∧ (∀ i j, i < j → j < rs.length → ¬ cmpR (rs'.getD j RunV.zero) (rs'.getD i RunV.zero) < 0) ∧ w'.ownsRow B 72 4 (.slice (some ⟨g, 0, none⟩) rs.length cap) rs.length (flatRuns rs') ∧ w.grownBy w' (some g) := by
  have hgl : g < w.heap.size := owns_lt ho
  have hsz : rs.toArray.size = rs.length := by simp
  have hH : HoldsK RunV.vs 4 w g 0 rs.toArray := by
    intro j hj
    rw [size_flatK, hsz] at hj
    refine ⟨?_, ho.frozenAt _⟩
    rw [Nat.zero_add, ho.cellAt j (by omega), flatRuns_elem _ _ hj, flatK_runs _ _ (by rw [hsz]; exact hj)]
    have hq : j / 4 < rs.length := by omega
    rw [getElem!_pos rs.toArray (j / 4) (by simpa using hq)]
    simp [List.getD, hq]
  have eg : ∀ args w, (callFunc 41 args).run Try.prog w = .ok (.enter 41 args) w := enters_of Try.func41 (by kernel_rfl) rfl
  have hcmp : CmpLays Try.prog 41 #[] RunV.vs 4 cmpR g 0 rs.toArray.size w := fun m os dk _ x y => cByBegin x y _
  have hcon := AnyQ.slices_SortFunc Try.sortR 4 Try.isAgg72 Try.sizeOf72 RunV.vs (fun _ => rfl) (fun x v hv => by simp [RunV.vs] at hv; rcases hv with rfl | rfl | rfl | rfl <;> rfl) cmpR swoR 41 #[] g 0 cap rs.toArray w eg hcmp hH hgl (by rw [hsz]; omega)
  change Calls Try.prog 40 _ _ _ at hcon
  rw [hsz] at hcon
  refine hcon.mono ?_
  rintro e w' ⟨rfl, d', m, os, hp, hs, rfl⟩
  obtain ⟨hp1, -, hp2⟩ := hp
  rw [hsz] at hp1
  have hp3 : d'.toList.Perm rs := by
    have e1 : d'.extract 0 rs.length = d' := by rw [← hp1]; simp
    have e2 : rs.toArray.extract 0 rs.length = rs.toArray := by simp
    rw [e1, e2] at hp2
    simpa using hp2
  obtain ⟨o1, o2⟩ := own_sorted (q := m) (os := os) ho hp1 hgl
  refine ⟨rfl, d'.toList, hp3, fun i j hij hj => ?_, o1, o2⟩
  have := hs i j (Nat.zero_le _) hij (by omega)
  have e : ∀ i, i < rs.length → d'.toList.getD i RunV.zero = d'[i]! := fun i hi => by
    have hq : i < d'.size := by omega
    rw [getElem!_pos d' i hq]; simp [List.getD, hq]
  rw [e i (by omega), e j hj]
  exact of_decide_eq_false this
end Go.Proofs.Ythfknkmabjgklaa
