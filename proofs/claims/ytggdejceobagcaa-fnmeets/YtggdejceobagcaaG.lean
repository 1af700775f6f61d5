/- The program's mayGo, MayMove, MoveOn and Stuck. -/
import Derived.Test.YtggdejceobagcaaD
import Derived.Lib.SliceRun
import Derived.Maps.AppendAt
namespace Go.Proofs.Ytggdejceobagcaa
open Go.RowKit

theorem info_parts2 {i? : Option TypeInfo} {z : Option Value} {s by' : Nat} (h : i?.map (fun i => (i.zero, i.size, i.bytes)) = some (z, s, by')) : ∃ i, i? = some i ∧ i.zero = z ∧ i.size = s ∧ i.bytes = by' := by
  cases i? with
  | none => cases h
  | some i => simp at h; exact ⟨i, rfl, h⟩
theorem own_lower {w : World} {base B e sz n : Nat} {v : Value} {xs : List Value} (h : w.ownsRow base e sz v n xs) (hB : B ≤ base) : w.ownsRow B e sz v n xs := by
  obtain ⟨h1, h2⟩ := h
  refine ⟨h1, ?_⟩
  rcases h2 with h2 | ⟨g, cap, cur, hv, hg, r⟩
  · exact .inl h2
  · exact .inr ⟨g, cap, cur, hv, Nat.le_trans hB hg, r⟩
theorem singles_cells {w : World} {b off : Nat} {ts : List SingleV} (h : Singles w (some ⟨b, off, none⟩) ts) : ∀ j u, (flatSingles ts)[j]? = some u → w.cell? ((⟨b, off, none⟩ : Addr).add j) = some u := by
  intro j u hu
  rcases h with h | ⟨b', off', ha, hc⟩
  · rw [h] at hu; simp [flatSingles] at hu
  · simp only [Option.some.injEq, Addr.mk.injEq, and_true] at ha
    obtain ⟨rfl, rfl⟩ := ha
    have hj : j < (flatSingles ts).length := (List.getElem?_eq_some_iff.1 hu).1
    rw [flatSingles_len] at hj
    have hi : j / 2 < ts.length := by omega
    obtain ⟨g0, g1⟩ := flatSingles_get ts (j / 2) hi
    obtain ⟨c0, c1⟩ := hc (j / 2) hi
    have e : (⟨b, off, none⟩ : Addr).add j = ⟨b, off + j, none⟩ := by
      by_cases h : j = 0
      · subst h; simp [Addr.add]
      · simp [Addr.add, h]
    rw [e]
    by_cases hp : j % 2 = 0
    · have e2 : j / 2 * 2 = j := by omega
      rw [e2] at g0 c0
      rw [c0, ← hu, g0]
    · have e2 : j / 2 * 2 + 1 = j := by omega
      rw [Nat.add_assoc, e2] at c1
      rw [e2] at g1
      rw [c1, ← hu, g1]
theorem flat_one (ts : List SingleV) : ∀ u ∈ flatSingles ts, u.oneCell' = true := by
  intro u hu
  unfold flatSingles at hu
  rw [List.mem_flatMap] at hu
  obtain ⟨e, _, he⟩ := hu
  simp only [SingleV.vs, List.mem_cons, List.not_mem_nil, or_false] at he
  rcases he with rfl | rfl <;> rfl


/-- A train that stands within a line. -/
def InLine (ls : List Int) (t : SingleV) : Prop := 0 ≤ t.s ∧ t.s ≤ 2 * (ls.length : Int) - 2 ∧ 0 ≤ t.d ∧ t.d ≤ 2 * (ls.length : Int) - 2
theorem ok_inLine {ls : List Int} {ts : List SingleV} (h : singlesOk ls ts = true) {i : Nat} (hi : i < ts.length) : InLine ls ts[i] := by
  have := trainOk_parts ((singlesOk_parts h).2.2 _ (List.getElem_mem hi))
  exact ⟨this.1, this.2.1, this.2.2.1, this.2.2.2.1⟩

set_option maxHeartbeats 800000 in
theorem cMayGo (a b : Option Addr) (ca cb : Nat) (ls : List Int) (ts : List SingleV) (i : Nat) (w : World) (hz : Ints w a ls) (hl : ls.length ≤ 5) (ht : Singles w b ts) (hm : ts.length ≤ 4) (hi : i < ts.length) (hin : InLine ls ts[i]) :
    Calls Try.prog 48 #[.slice a ls.length ca, .slice b ts.length cb, .int .i64 i] w fun e w' => e = .returned (.bool (mayGo ls ts i)) ∧ Below w.heap.size w w' := by
  have E : Hid (mayGo ls ts i = (!decide (ts[i].s = ts[i].d) && decide ((atN ts (nextS ts[i]) : Int) < fits ls (nextS ts[i])))) := by show mayGo ls ts i = _; simp only [mayGo, getD_lt hi]
  generalize mayGo ls ts i = res at *
  have htv := ht
  rcases ht with h | ⟨nb, off, rfl, hcl⟩
  · simp [h] at hi
  obtain ⟨q0, q1⟩ := hcl i hi
  replace hcl := hide hcl
  rw [getD_lt hi] at q0 q1
  have hne : ts[i].s ≠ ts[i].d → onw ts[i] = nextS ts[i] := onw_next
  have hrg := fun (h : ts[i].s ≠ ts[i].d) => next_rng (t := ts[i]) hin.1 hin.2.1 hin.2.2.1 hin.2.2.2 h
  have CR := fun x w' (h : Below w.heap.size w w') h0 h1 => cRoom a ca ls x w' (hz.below h) (by omega) h0 h1
  have CA := fun w' => cArr ts[i] w'
  have CO := fun w' => cOnw ts[i] w' (by have := hin.1; omega) (by have := hin.2.1; omega)
  obtain ⟨n0, n1, n2, n3⟩ := hin
  generalize ts[i] = E0 at *
  obtain ⟨s, d⟩ := E0
  dsimp only at *
  unfold SingleV.val at CA CO
  dsimp only at CA CO
  by_cases hsd : s = d
  · have hf := hide (show res = false by rw [E.out, decide_eq_true hsd]; rfl)
    have CA' : ∀ w', Calls Try.prog 47 #[.agg #[.int .i64 s, .int .i64 d]] w' fun e w'' => e = .returned (.bool true) ∧ Below w'.heap.size w' w'' := by rw [← decide_eq_true hsd]; exact CA
    clear CA hsd E hne hrg CR CO
    go_enter Try.func48, Try.ntmps48
    go_wp2_with fail
    refine (CA' _).mono ?_
    rintro e w1 ⟨rfl, hb⟩
    go_wp2
    go_ret
    exact ⟨ret_bool hf.out.symm, hb⟩
  have hE := hide (show res = decide ((atN ts (nextS ⟨s, d⟩) : Int) < fits ls (nextS ⟨s, d⟩)) by rw [E.out, decide_eq_false hsd]; rfl)
  have CA' : ∀ w', Calls Try.prog 47 #[.agg #[.int .i64 s, .int .i64 d]] w' fun e w'' => e = .returned (.bool false) ∧ Below w'.heap.size w' w'' := by rw [← decide_eq_false hsd]; exact CA
  replace hrg := hrg hsd
  rw [hne hsd] at CO
  generalize nextS ⟨s, d⟩ = x at *
  clear CA hne E hsd
  go_enter Try.func48, Try.ntmps48
  go_wp2_with fail
  refine (CA' _).mono ?_
  rintro e w1 ⟨rfl, hb⟩
  have p0 := ble hb q0
  have p1 := ble hb q1
  go_wp2_with fail
  refine (CO _).mono ?_
  rintro e w2 ⟨rfl, hb2⟩
  have HB := btrans hb hb2
  clear hb hb2 p0 p1 q0 q1 CA' CO
  go_wp2
  go_loopw [8, 23] (fun n j wr => ∃ k : Nat, k ≤ ts.length ∧ j = .int .i64 k ∧ n = .int .i64 (atN (ts.take k) x) ∧ Below w.heap.size w wr) (fun _ j _ => ts.length - (intOf j).toNat)
  case atStart => exact ⟨0, Nat.zero_le _, rfl, rfl, HB⟩
  case round =>
    obtain ⟨k, hk, rfl, rfl, hb⟩ := hrel
    clear HB
    have hle := Nat.le_trans (atN_le (ts.take k) x) (List.length_take_le _ _)
    by_cases hlt : k < ts.length
    · obtain ⟨q0, q1⟩ := hcl.out k hlt
      replace q0 := ble hb q0
      replace q1 := ble hb q1
      rw [getD_lt hlt] at q0 q1
      have hat := hide (atN_take ts k hlt x)
      generalize ts[k] = E at *
      obtain ⟨y, z⟩ := E
      dsimp only at *
      have hb1 := btrans hb (balloc wr (.cells #[.int .i64 y, .int .i64 z] 31))
      generalize atN (ts.take k) x = n at *
      clear hcl htv CR hE
      by_cases he : y = x
      · have hf := hide (show ((n : Int) + 1) = (atN (ts.take (k + 1)) x : Int) by rw [hat.out, if_pos he]; omega)
        subst he
        go_wp2
        go_roundw
        case rel => exact ⟨k + 1, by omega, by go_num, by rw [← hf.out], hb1⟩
        case measure => simp [intOf]; omega
      · have hf := hide (show (n : Int) = (atN (ts.take (k + 1)) x : Int) by rw [hat.out, if_neg he]; omega)
        go_wp2
        go_roundw
        case rel => exact ⟨k + 1, by omega, by go_num, by rw [← hf.out], hb1⟩
        case measure => simp [intOf]; omega
    · obtain rfl : k = ts.length := by omega
      rw [List.take_length]
      clear hcl htv hle
      go_wp2_with fail
      refine (CR x _ hb hrg.1 hrg.2).mono ?_
      rintro e w3 ⟨rfl, hw⟩
      subst w3
      go_wp2
      go_ret
      exact ⟨ret_bool hE.out.symm, hb⟩

set_option maxHeartbeats 800000 in
theorem cMayMoveI (a b : Option Addr) (ca cb : Nat) (ls : List Int) (ts : List SingleV) (i : Int) (w : World) (hz : Ints w a ls) (hl : ls.length ≤ 1048576) (ht : Singles w b ts) (hm : ts.length ≤ 1048576) :
    Calls Try.prog 21 #[.slice a ls.length ca, .slice b ts.length cb, .int .i64 i] w fun e w' => e = .returned (.bool (mayMove ls ts i)) ∧ Below w.heap.size w w' := by
  have E : Hid (mayMove ls ts i = (singlesOk ls ts && inB i 0 (ts.length - 1) && mayGo ls ts i.toNat)) := rfl
  generalize mayMove ls ts i = res at *
  go_enter Try.func21, Try.ntmps21
  go_wp2_with fail
  refine (cSinglesI a b ca cb ls ts _ hz hl ht hm).mono ?_
  rintro e w1 ⟨rfl, hb⟩
  cases h1 : singlesOk ls ts
  · have hf := hide (show res = false by rw [E.out, h1]; rfl)
    clear h1
    go_wp2
    go_ret
    exact ⟨ret_bool hf.out.symm, hb⟩
  go_wp2_with fail
  refine (cWithin i 0 (ts.length - 1) _).mono ?_
  rintro e w2 ⟨rfl, hw⟩
  subst w2
  cases h2 : inB i 0 (ts.length - 1)
  · have hf := hide (show res = false by rw [E.out, h1, h2]; rfl)
    clear h1 h2
    go_wp2
    go_ret
    exact ⟨ret_bool hf.out.symm, hb⟩
  have hf := hide (show res = mayGo ls ts i.toNat by rw [E.out, h1, h2]; rfl)
  obtain ⟨i0, i1⟩ := inB_true h2
  obtain ⟨p1, p2, p3⟩ := singlesOk_parts h1
  have hi : i.toNat < ts.length := by omega
  have hii : ((i.toNat : Nat) : Int) = i := by omega
  have C := fun w' (h : Below w.heap.size w w') => cMayGo a b ca cb ls ts i.toNat w' (hz.below h) (lineOk_parts p1).2.2 (ht.below h) p2 hi (ok_inLine h1 hi)
  rw [hii] at C
  clear h1 h2 hii p1 p2 p3
  go_wp2_with fail
  refine (C _ hb).mono ?_
  rintro e w3 ⟨rfl, hb3⟩
  have HB := btrans hb hb3
  rw [← hf.out]
  clear C hb3 hb
  go_wp2
  go_ret
  exact ⟨rfl, HB⟩

set_option maxRecDepth 20000 in
set_option maxHeartbeats 800000 in
theorem cClone (a : Option Addr) (cap : Nat) (ts : List SingleV) (w : World) (he : Singles w a ts) (ha : a = none → cap = 0) (hspot : ∀ x, a = some x → x.spot = none) (hl : ts.length ≤ 1048576) :
    Calls Try.prog 49 #[.slice a ts.length cap] w fun e w' => ∃ v, e = .returned v ∧
      w'.ownsRow w.heap.size 31 2 v ts.length (flatSingles ts) ∧ Below w.heap.size w w' := by
  cases a with
  | none =>
    have h0 : ts = [] := by
      rcases he with h | ⟨b, off, h, _⟩
      · exact h
      · cases h
    subst h0
    obtain rfl := ha rfl
    have hq : ∀ w, (binOp .eql 25 (.slice none 0 0) (.slice none 0 0)).run Try.prog w = .ok (.bool true) w := fun w => Go.Lib.run_eql_slice_nil w _ _ none 0 0 0 0 Try.underlying25
    go_enter Try.func49, Try.ntmps49
    go_wp2
    go_ret
    exact ⟨_, rfl, World.ownsRow_nil _ _ _ _, Below.refl _ _⟩
  | some x =>
    obtain ⟨b, off, spot⟩ := x
    obtain rfl : spot = none := hspot _ rfl
    obtain ⟨i0, hi, hz0, hz1, hz2⟩ := info_parts2 infoSingles
    have hq : ∀ w, (binOp .eql 25 (.slice (some ⟨b, off, none⟩) ts.length cap) (.slice none 0 0)).run Try.prog w = .ok (.bool false) w := fun w => Go.Lib.run_eql_slice_nil w _ _ (some ⟨b, off, none⟩) ts.length cap 0 0 Try.underlying25
    have hc := singles_cells (he.below (balloc w (.cells #[] 31)))
    go_enter Try.func49, Try.ntmps49
    go_wp2_with (at_builtin; refine wpList_append_own _ rfl _ _ 25 rfl w.heap.size 31 i0 (.agg #[.int .i64 0, .int .i64 0]) 2 16 Try.underlying25 hi hz0 hz1 hz2 rfl (by decide) _ 0 [] rfl (World.ownsRow_made _ #[] 0 (Nat.le_refl _) (by omega) rfl) ⟨b, off, none⟩ ts.length cap (flatSingles ts) rfl (flatSingles_len ts) hc (flat_one ts) ?c3 ?c4 ?c5 ?_)
    case c3 => unfold maxLen; omega
    case c4 => omega
    case c5 => simp
    intro v' w5 hown' hgrow _
    have hbel : Below w.heap.size w w5 := (balloc w _).grown hgrow (by simp) (fun j e => by simp [Value.ownBlock] at e; omega)
    clear hgrow
    go_wp2
    go_ret
    exact ⟨_, rfl, hown', hbel⟩


def moveR (ls : List Int) (ts : List SingleV) (i : Int) : List SingleV := if mayMove ls ts i then moveT ts i.toNat else []
theorem moveR_no {ls : List Int} {ts : List SingleV} {i : Int} (h : mayMove ls ts i = false) : moveR ls ts i = [] := by simp [moveR, h]
theorem moveR_yes {ls : List Int} {ts : List SingleV} {i : Int} (h : mayMove ls ts i = true) : moveR ls ts i = moveT ts i.toNat := by simp [moveR, h]
theorem moveR_le (ls : List Int) (ts : List SingleV) (i : Int) : (moveR ls ts i).length ≤ ts.length := by
  unfold moveR; split
  · rw [moveT_len]; exact Nat.le_refl _
  · simp
theorem mayMove_parts {ls : List Int} {ts : List SingleV} {i : Int} (h : mayMove ls ts i = true) : singlesOk ls ts = true ∧ 0 ≤ i ∧ i.toNat < ts.length ∧ ((i.toNat : Nat) : Int) = i ∧ mayGo ls ts i.toNat = true := by
  simp only [mayMove, Bool.and_eq_true] at h
  obtain ⟨⟨h1, h2⟩, h3⟩ := h
  have := inB_true h2
  exact ⟨h1, by omega, by omega, by omega, h3⟩
theorem flat_set_first {ts : List SingleV} {q : Nat} (hq : q < ts.length) (x : Int) : (flatSingles ts).set (q * 2) (.int .i64 x) = flatSingles (ts.set q ⟨x, ts[q].d⟩) := by
  induction ts generalizing q with
  | nil => simp at hq
  | cons t ts ih =>
    cases q with
    | zero => simp [flatSingles, SingleV.vs]
    | succ q =>
      have hq' : q < ts.length := by simpa using hq
      have e : (q + 1) * 2 = q * 2 + 1 + 1 := by omega
      rw [flatSingles_cons, e, List.set_cons_succ, List.set_cons_succ, ih hq', List.set_cons_succ, flatSingles_cons]
      rfl

set_option maxHeartbeats 800000 in
theorem cMoveOnI (a b : Option Addr) (ca cb : Nat) (ls : List Int) (ts : List SingleV) (i : Int) (w : World) (hz : Ints w a ls) (hl : ls.length ≤ 1048576) (ht : Singles w b ts) (hb0 : b = none → cb = 0) (hspot : ∀ x, b = some x → x.spot = none) (hm : ts.length ≤ 1048576) :
    Calls Try.prog 20 #[.slice a ls.length ca, .slice b ts.length cb, .int .i64 i] w fun e w' => ∃ v, e = .returned (.tuple #[v, .bool (mayMove ls ts i)]) ∧
      w'.ownsRow w.heap.size 31 2 v (moveR ls ts i).length (flatSingles (moveR ls ts i)) ∧ Below w.heap.size w w' := by
  cases h1 : mayMove ls ts i
  · rw [moveR_no h1]
    go_enter Try.func20, Try.ntmps20
    go_wp2_with fail
    refine (cMayMoveI a b ca cb ls ts i _ hz hl ht hm).mono ?_
    rintro e w1 ⟨rfl, hb⟩
    rw [h1]
    clear h1
    go_wp2
    go_ret2
    exact ⟨_, rfl, World.ownsRow_nil _ _ _ _, hb⟩
  · rw [moveR_yes h1, moveT_len]
    obtain ⟨m1, m2, m3, m4, m5⟩ := mayMove_parts h1
    obtain ⟨p1, p2, p3⟩ := singlesOk_parts m1
    obtain ⟨n0, n1, n2, n3⟩ := ok_inLine m1 m3
    have hl5 := (lineOk_parts p1).2.2
    have hnx := onw_next (mayGo_parts m3 m5).1
    have hmt := moveT_eq m3
    go_enter Try.func20, Try.ntmps20
    go_wp2_with fail
    refine (cMayMoveI a b ca cb ls ts i _ hz hl ht hm).mono ?_
    rintro e w1 ⟨rfl, hb⟩
    rw [h1]
    go_wp2_with fail
    refine (cClone b cb ts _ (ht.below hb) hb0 hspot hm).mono ?_
    rintro e w2 ⟨v, rfl, O, hb2⟩
    rcases O.2 with ⟨_, h0⟩ | ⟨g, cap, cur, rfl, hg, _⟩
    · omega
    have HB := btrans hb hb2
    have hsz := hb.size
    have K := Singles.own O
    rcases K with h | ⟨nb, off, he, hcl⟩
    · simp [h] at m3
    simp only [Option.some.injEq, Addr.mk.injEq, and_true] at he
    obtain ⟨rfl, rfl⟩ := he
    obtain ⟨q0, q1⟩ := hcl _ m3
    rw [getD_lt m3, Nat.zero_add] at q0 q1
    have CO := fun w' => cOnw ts[i.toNat] w' (by omega) (by omega)
    rw [hnx] at CO
    have hfl := flat_set_first m3 (nextS ts[i.toNat])
    rw [← hmt] at hfl
    generalize ts[i.toNat] = E0 at *
    obtain ⟨s, d⟩ := E0
    unfold SingleV.val at CO
    dsimp only at *
    generalize nextS ⟨s, d⟩ = x at *
    clear hcl hnx hmt h1 m1 m5 p3 p1
    go_wp2_with fail
    refine (CO _).mono ?_
    rintro e w3 ⟨rfl, hb3⟩
    have O3 := own_keep O hb3
    obtain ⟨O4, -⟩ := O3.stored (i.toNat * 2) (.int .i64 x)
    rw [hfl] at O4
    have f0 := O3.frozenAt (i.toNat * 2)
    have z0 := ble hb3 q0
    have HB4 := below_set (o := i.toNat * 2) (v := .int .i64 x) (show w.heap.size ≤ g by omega) (btrans HB hb3)
    clear O O3 hb3 HB q0 q1 CO hfl hb hb2
    have O5 := own_lower O4 hsz
    clear O4
    go_wp2
    go_ret2
    exact ⟨_, rfl, O5, HB4⟩

set_option maxHeartbeats 800000 in
theorem cAllArr (a : Option Addr) (cap : Nat) (ts : List SingleV) (w : World) (hz : Singles w a ts) (hl : ts.length ≤ 1048576) :
    Calls Try.prog 46 #[.slice a ts.length cap, .func (.func 47) #[] #[]] w fun e w' => e = .returned (.bool (doneT ts)) ∧ Below w.heap.size w w' := by
  generalize hr : doneT ts = res
  have hr0 : Hid ((ts.drop 0).all (fun t => decide (t.s = t.d)) = res) := hr
  clear hr
  go_enter Try.func46, Try.ntmps46
  go_wp2
  go_loopw [9] (fun i wr => ∃ k : Nat, k ≤ ts.length ∧ i = .int .i64 k ∧ Hid ((ts.drop k).all (fun t => decide (t.s = t.d)) = res) ∧ Below w.heap.size w wr) (fun i _ => ts.length - (intOf i).toNat)
  case atStart => exact ⟨0, Nat.zero_le _, rfl, hr0, Below.refl _ _⟩
  case round =>
    obtain ⟨k, hk, rfl, hres, hb⟩ := hrel
    clear hr0
    by_cases hlt : k < ts.length
    · rcases hz with h | ⟨b, off, rfl, hcl⟩
      · simp [h] at hlt
      obtain ⟨q0, q1⟩ := hcl k hlt
      replace q0 := ble hb q0
      replace q1 := ble hb q1
      rw [getD_lt hlt] at q0 q1
      have hd := hide ((all_drop (P := fun t : SingleV => decide (t.s = t.d)) hlt).symm.trans hres.out)
      have CA := fun w' => cArr ts[k] w'
      generalize ts[k] = E at *
      obtain ⟨s, d⟩ := E
      unfold SingleV.val at CA
      dsimp only at *
      have hb1 := btrans hb (balloc wr (.cells #[.int .i64 s, .int .i64 d] 31))
      clear hcl hres
      go_wp2_with fail
      refine (CA _).mono ?_
      rintro e w1 ⟨rfl, hb2⟩
      have HB := btrans hb1 hb2
      clear hb1 hb2 hb CA q0 q1
      by_cases hy : s = d
      · have hf := hide (show (ts.drop (k + 1)).all (fun t => decide (t.s = t.d)) = res by rw [← hd.out, decide_eq_true hy]; rfl)
        rw [decide_eq_true hy]
        clear hd hy
        go_wp2
        go_roundw
        case rel => exact ⟨k + 1, by omega, by go_num, hf, HB⟩
        case measure => simp [intOf]; omega
      · have hf := hide (show res = false by rw [← hd.out, decide_eq_false hy]; rfl)
        rw [decide_eq_false hy]
        clear hd hy
        go_wp2
        go_ret
        exact ⟨ret_bool hf.out.symm, HB⟩
    · obtain rfl : k = ts.length := by omega
      have hf := hide (show res = true by rw [← hres.out, List.drop_length]; rfl)
      clear hz
      go_wp2
      go_ret
      exact ⟨ret_bool hf.out.symm, hb⟩

theorem range_drop {n k : Nat} (hk : k < n) (P : Nat → Bool) : ((List.range n).drop k).all P = (P k && ((List.range n).drop (k + 1)).all P) := by
  rw [all_drop (by simpa using hk)]; simp

set_option maxHeartbeats 800000 in
theorem cStuckI (a b : Option Addr) (ca cb : Nat) (ls : List Int) (ts : List SingleV) (w : World) (hz : Ints w a ls) (hl : ls.length ≤ 1048576) (ht : Singles w b ts) (hm : ts.length ≤ 1048576) :
    Calls Try.prog 19 #[.slice a ls.length ca, .slice b ts.length cb] w fun e w' => e = .returned (.bool (stuckT ls ts)) ∧ Below w.heap.size w w' := by
  have E : Hid (stuckT ls ts = (singlesOk ls ts && !doneT ts && (List.range ts.length).all (fun i => !mayGo ls ts i))) := rfl
  generalize stuckT ls ts = res at *
  go_enter Try.func19, Try.ntmps19
  go_wp2_with fail
  refine (cSinglesI a b ca cb ls ts _ hz hl ht hm).mono ?_
  rintro e w1 ⟨rfl, hb⟩
  cases h1 : singlesOk ls ts
  · have hf := hide (show res = false by rw [E.out, h1]; rfl)
    clear h1
    go_wp2
    go_ret
    exact ⟨ret_bool hf.out.symm, hb⟩
  go_wp2_with fail
  refine (cAllArr b cb ts _ (ht.below hb) hm).mono ?_
  rintro e w2 ⟨rfl, hb2⟩
  replace hb := btrans hb hb2
  cases h2 : doneT ts
  rotate_left
  · have hf := hide (show res = false by rw [E.out, h1, h2]; rfl)
    clear h1 h2
    go_wp2
    go_ret
    exact ⟨ret_bool hf.out.symm, hb⟩
  have hf := hide (show ((List.range ts.length).drop 0).all (fun i => !mayGo ls ts i) = res by rw [E.out, h1, h2]; rfl)
  obtain ⟨p1, p2, p3⟩ := singlesOk_parts h1
  have C := fun i (hi : i < ts.length) w' (h : Below w.heap.size w w') => cMayGo a b ca cb ls ts i w' (hz.below h) (lineOk_parts p1).2.2 (ht.below h) p2 hi (ok_inLine h1 hi)
  clear h1 h2 p1 p3 E hb2
  go_wp2
  go_loopw [16] (fun i wr => ∃ k : Nat, k ≤ ts.length ∧ i = .int .i64 k ∧ Hid (((List.range ts.length).drop k).all (fun i => !mayGo ls ts i) = res) ∧ Below w.heap.size w wr) (fun i _ => ts.length - (intOf i).toNat)
  case atStart => exact ⟨0, Nat.zero_le _, rfl, hf, hb⟩
  case round =>
    obtain ⟨k, hk, rfl, hres, hb1⟩ := hrel
    clear hf hb
    by_cases hlt : k < ts.length
    · have hd := hide ((range_drop hlt (fun i => !mayGo ls ts i)).symm.trans hres.out)
      go_wp2_with fail
      refine (C k hlt _ hb1).mono ?_
      rintro e w2 ⟨rfl, hb2⟩
      have HB := btrans hb1 hb2
      clear C hres hb1 hb2
      cases hy : mayGo ls ts k
      · have hf := hide (show ((List.range ts.length).drop (k + 1)).all (fun i => !mayGo ls ts i) = res by rw [← hd.out, hy]; rfl)
        clear hd hy
        go_wp2
        go_roundw
        case rel => exact ⟨k + 1, by omega, by go_num, hf, HB⟩
        case measure => simp [intOf]; omega
      · have hf := hide (show res = false by rw [← hd.out, hy]; rfl)
        clear hd hy
        go_wp2
        go_ret
        exact ⟨ret_bool hf.out.symm, HB⟩
    · obtain rfl : k = ts.length := by omega
      have hf := hide (show res = true by rw [← hres.out, List.drop_of_length_le (by simp)]; rfl)
      clear ht C
      go_wp2
      go_ret
      exact ⟨ret_bool hf.out.symm, hb1⟩
end Go.Proofs.Ytggdejceobagcaa
