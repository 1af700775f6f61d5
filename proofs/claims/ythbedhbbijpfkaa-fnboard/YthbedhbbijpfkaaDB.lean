/- The departures of a board. -/
import Derived.Test.YthbedhbbijpfkaaZA
import Derived.Test.YthbedhbbijpfkaaH
import Derived.Deep.RegionHeld3
import Derived.Deep.AppendLies
namespace Go.Proofs.Ythbedhbbijpfkaa
open Go.RowKit
theorem trip_partsJ {t : TripV} (h : tripB t = true) : nameB t.name = true ∧ 2 ≤ t.calls.length ∧ t.calls.length ≤ 12 ∧ t.calls.all callB = true ∧ chainB t.calls = true := by
  simp only [tripB, Bool.and_eq_true] at h
  obtain ⟨⟨⟨h1, h2⟩, h3⟩, h4⟩ := h
  have := inB_true h2
  exact ⟨h1, by omega, by omega, h3, h4⟩
theorem call_atJ {cs : List HaltV} (h : cs.all callB = true) {k : Nat} (hk : k < cs.length) : callB (cs.getD k HaltV.zero) = true := by
  have e : cs.getD k HaltV.zero = cs[k] := by simp [List.getD, hk]
  rw [e]; exact List.all_eq_true.1 h _ (List.getElem_mem hk)
theorem call_partsJ {c : HaltV} (h : callB c = true) : (0 ≤ c.n ∧ c.n ≤ 29) ∧ (0 ≤ c.a ∧ c.a ≤ c.d) ∧ c.d ≤ 100000 := by
  simp only [callB, Bool.and_eq_true] at h
  have h1 := inB_true h.1.1
  have h2 := inB_true h.1.2
  have h3 := inB_true h.2
  exact ⟨h1, h3, h2.2⟩
theorem chain_atJ : ∀ (cs : List HaltV), chainB cs = true → ∀ i, i + 1 < cs.length → stepB (cs.getD i HaltV.zero) (cs.getD (i + 1) HaltV.zero) = true
  | [], _, i, hi => by simp at hi
  | [_], _, i, hi => by simp at hi
  | p :: q :: r, h, i, hi => by
    simp only [chainB, Bool.and_eq_true] at h
    cases i with
    | zero => exact h.1
    | succ i => exact chain_atJ (q :: r) h.2 i (by simpa using hi)
theorem chain_upJ {cs : List HaltV} (hall : cs.all callB = true) (hch : chainB cs = true) (k : Nat) : ∀ j, k + 1 + j < cs.length → (cs.getD k HaltV.zero).d < (cs.getD (k + 1 + j) HaltV.zero).a := by
  intro j
  have hst : ∀ i, i + 1 < cs.length → (cs.getD i HaltV.zero).d < (cs.getD (i + 1) HaltV.zero).a := fun i hi => by
    have := chain_atJ cs hch i hi
    simp only [stepB, Bool.and_eq_true, decide_eq_true_eq] at this
    exact this.1
  induction j with
  | zero => intro hj; exact hst k hj
  | succ j ih =>
    intro hj
    have h1 := ih (by omega)
    have h2 := (call_partsJ (call_atJ hall (k := k + 1 + j) (by omega))).2.1.2
    have h3 := hst (k + 1 + j) (by omega)
    have e : k + 1 + (j + 1) = k + 1 + j + 1 := by omega
    rw [e]
    omega
def hcA (ts : List TripV) (i k : Nat) : HaltV := (ts.getD i TripV.zero).calls.getD k HaltV.zero
def ncA (ts : List TripV) (i : Nat) : Nat := (ts.getD i TripV.zero).calls.length
/-- A leg: a trip, a call of it, and a later one. -/
def LegIn (ts : List TripV) (i k l : Nat) : Prop := i < ts.length ∧ k < l ∧ l < ncA ts i
/-- What a timetable gives: times rise along a trip, and lie in their bounds. -/
structure Gd (ts : List TripV) : Prop where
  few : ts.length ≤ 24
  len : ∀ i, i < ts.length → 2 ≤ ncA ts i ∧ ncA ts i ≤ 12
  rise : ∀ i k l, LegIn ts i k l → (hcA ts i k).d < (hcA ts i l).a
  rng : ∀ i k, i < ts.length → k < ncA ts i → (0 ≤ (hcA ts i k).n ∧ (hcA ts i k).n ≤ 29) ∧ 0 ≤ (hcA ts i k).a ∧ (hcA ts i k).a ≤ (hcA ts i k).d ∧ (hcA ts i k).d ≤ 100000
theorem table_gd {ts : List TripV} (h : Table ts) : Gd ts where
  few := h.1
  len := fun i hi => by obtain ⟨_, h1, h2, _⟩ := trip_partsJ (h.2.1 i hi); exact ⟨h1, h2⟩
  rise := fun i k l hl => by
    obtain ⟨_, _, _, h3, h4⟩ := trip_partsJ (h.2.1 i hl.1)
    obtain ⟨j, rfl⟩ : ∃ j, l = k + 1 + j := ⟨l - (k + 1), by have := hl.2.1; omega⟩
    exact chain_upJ h3 h4 k j hl.2.2
  rng := fun i k hi hk => by
    obtain ⟨_, _, _, h3, _⟩ := trip_partsJ (h.2.1 i hi)
    have := call_partsJ (call_atJ h3 hk)
    exact ⟨this.1, this.2.1.1, this.2.1.2, this.2.2⟩
/-- The departures from a node, at r or later. -/
def depsOf (ts : List TripV) (wn : HaltV → Bool) : List (Nat × Nat) := (List.range ts.length).flatMap fun i => ((List.range (ncA ts i - 1)).filter fun k => wn (hcA ts i k)).map fun k => (i, k)
def wantB (n r : Int) (c : HaltV) : Bool := decide (c.n = n) && decide (r ≤ c.d)
/-- A call of a trip out of the list. -/
theorem call_cells {w : World} {n : Option Addr} {ts : List TripV} {i k : Nat} (h : Halts w n (ts.getD i TripV.zero).calls) (hk : k < ncA ts i) :
    ∃ b off, n = some ⟨b, off, none⟩ ∧ w.cell? ⟨b, off + k * 3, none⟩ = some (.int .i64 (hcA ts i k).n) ∧ w.cell? ⟨b, off + k * 3 + 1, none⟩ = some (.int .i64 (hcA ts i k).a) ∧ w.cell? ⟨b, off + k * 3 + 2, none⟩ = some (.int .i64 (hcA ts i k).d) := by
  rcases h with h | ⟨b, off, rfl, hc⟩
  · unfold ncA at hk; rw [h] at hk; simp at hk
  · exact ⟨b, off, rfl, hc k hk⟩

set_option maxHeartbeats 800000 in
theorem cWanted (bn br : Nat) (n r : Int) (c : HaltV) (w : World) (h1 : w.cell? ⟨bn, 0, none⟩ = some (.int .i64 n)) (h2 : w.cell? ⟨br, 0, none⟩ = some (.int .i64 r)) :
    Calls Try.prog 23 #[c.val, .pointer (some ⟨bn, 0, none⟩), .pointer (some ⟨br, 0, none⟩)] w fun e w' => e = .returned (.bool (wantB n r c)) ∧ Below w.heap.size w w' := by
  obtain ⟨cn, ca, cd⟩ := c
  unfold HaltV.val
  have hb := balloc w (.cells #[.int .i64 cn, .int .i64 ca, .int .i64 cd] 33)
  have hl1 := cell_lt h1
  have hl2 := cell_lt h2
  by_cases e : cn = n
  · by_cases e2 : r ≤ cd
    · have hF : wantB n r ⟨cn, ca, cd⟩ = true := by simp [wantB, e, e2]
      rw [hF]
      subst e
      clear hF
      go_enter Try.func23, Try.ntmps23
      go_wp2
      go_ret
      exact ⟨by first | rfl | simp, hb⟩
    · have hF : wantB n r ⟨cn, ca, cd⟩ = false := by simp [wantB, e2]
      rw [hF]
      subst e
      clear hF
      go_enter Try.func23, Try.ntmps23
      go_wp2
      go_ret
      exact ⟨by first | rfl | simp | (simp; omega), hb⟩
  · have hF : wantB n r ⟨cn, ca, cd⟩ = false := by simp [wantB, e]
    rw [hF]
    clear hF
    go_enter Try.func23, Try.ntmps23
    go_wp2
    go_ret
    exact ⟨by first | rfl | simp, hb⟩

def depsI (ts : List TripV) (wn : HaltV → Bool) (i : Nat) : List (Nat × Nat) := (List.range i).flatMap fun i => ((List.range (ncA ts i - 1)).filter fun k => wn (hcA ts i k)).map fun k => (i, k)
def depsK (ts : List TripV) (wn : HaltV → Bool) (i k : Nat) : List (Nat × Nat) := depsI ts wn i ++ ((List.range k).filter fun k => wn (hcA ts i k)).map fun k => (i, k)
theorem depsK_zero (ts : List TripV) (wn : HaltV → Bool) (i : Nat) : depsK ts wn i 0 = depsI ts wn i := by simp [depsK]
theorem depsK_yes {ts : List TripV} {wn : HaltV → Bool} {i k : Nat} (h : wn (hcA ts i k) = true) : depsK ts wn i (k + 1) = depsK ts wn i k ++ [(i, k)] := by
  unfold depsK
  rw [List.range_succ, List.filter_append, List.map_append, List.append_assoc]
  simp [h]
theorem depsK_no {ts : List TripV} {wn : HaltV → Bool} {i k : Nat} (h : wn (hcA ts i k) = false) : depsK ts wn i (k + 1) = depsK ts wn i k := by
  unfold depsK
  rw [List.range_succ, List.filter_append, List.map_append]
  simp [h]
theorem depsI_succ (ts : List TripV) (wn : HaltV → Bool) (i : Nat) : depsI ts wn (i + 1) = depsK ts wn i (ncA ts i - 1) := by
  unfold depsI depsK depsI
  rw [List.range_succ, List.flatMap_append]
  simp
def depCells (b off : Nat) (d : Nat × Nat) : List Value := [.pointer (some ⟨b, off + d.1 * 2, none⟩), .int .i64 d.1, .int .i64 d.2]
def flatD (b off : Nat) (ds : List (Nat × Nat)) : List Value := ds.flatMap (depCells b off)
theorem flatD_app (b off : Nat) (xs ys : List (Nat × Nat)) : flatD b off (xs ++ ys) = flatD b off xs ++ flatD b off ys := by simp [flatD]
theorem flatD_len (b off : Nat) (ds : List (Nat × Nat)) : (flatD b off ds).length = ds.length * 3 := by
  induction ds with
  | nil => rfl
  | cons d ds ih =>
    have e : flatD b off (d :: ds) = depCells b off d ++ flatD b off ds := rfl
    rw [e, List.length_append, ih]
    simp [depCells]; omega
theorem infoDep : (Try.prog.info? 58).map (fun i => (i.zero, i.size, i.bytes)) = some (some (.agg #[.pointer none, .int .i64 0, .int .i64 0]), 3, 24) := by kernel_rfl
theorem row_eq {w : World} {B b off : Nat} {v : Value} {ds ds' : List (Nat × Nat)} (h : w.ownsRow B 58 3 v ds.length (flatD b off ds)) (e : ds' = ds) : w.ownsRow B 58 3 v ds'.length (flatD b off ds') := by rw [e]; exact h
theorem depCells_one (b off : Nat) (d : Nat × Nat) : ∀ u ∈ depCells b off d, u.oneCell' = true := by
  intro u hu
  simp only [depCells, List.mem_cons, List.not_mem_nil, or_false] at hu
  rcases hu with rfl | rfl | rfl <;> rfl
theorem news3 {W : World} {c0 c1 c2 : Value} {t : TypeId} : ∀ j u, [c0, c1, c2][j]? = some u → (W.alloc (.cells #[c0, c1, c2] t)).cell? ((⟨W.heap.size, 0, none⟩ : Addr).add j) = some u := by
  intro j u hj
  match j, hj with
  | 0, hj => simp at hj; subst hj; simp [Addr.add, go_sem]
  | 1, hj => simp at hj; subst hj; simp [Addr.add, go_sem]
  | 2, hj => simp at hj; subst hj; simp [Addr.add, go_sem]

set_option maxRecDepth 20000 in
set_option maxHeartbeats 3200000 in
theorem cDeps (a : Option Addr) (b off cap : Nat) (ts : List TripV) (bn br : Nat) (n r : Int) (w : World) (hz : Trips w a ts) (ha : 0 < ts.length → a = some ⟨b, off, none⟩) (hg : Gd ts) (h1 : w.cell? ⟨bn, 0, none⟩ = some (.int .i64 n)) (h2 : w.cell? ⟨br, 0, none⟩ = some (.int .i64 r)) :
    Calls Try.prog 22 #[.slice a ts.length cap, .func (.func 23) #[] #[.pointer (some ⟨bn, 0, none⟩), .pointer (some ⟨br, 0, none⟩)]] w fun e w' => ∃ v, e = .returned v ∧
      w'.ownsRow w.heap.size 58 3 v (depsOf ts (wantB n r)).length (flatD b off (depsOf ts (wantB n r))) ∧ (depsOf ts (wantB n r)).length ≤ 288 ∧ Below w.heap.size w w' := by
  obtain ⟨i0, hi, hz0, hz1, hz2⟩ := info_parts infoDep
  have hfew := hg.few
  have hE : Hid (depsI ts (wantB n r) ts.length = depsOf ts (wantB n r)) := rfl
  go_enter Try.func22, Try.ntmps22
  go_wp2
  go_loopw [5, 12] (fun v ii wr => ∃ i : Nat, i ≤ ts.length ∧ ii = .int .i64 i ∧ wr.ownsRow w.heap.size 58 3 v (depsI ts (wantB n r) i).length (flatD b off (depsI ts (wantB n r) i)) ∧ (depsI ts (wantB n r) i).length ≤ i * 12 ∧ Below w.heap.size w wr) (fun _ ii _ => ts.length - (intOf ii).toNat)
  case atStart => exact ⟨0, Nat.zero_le _, rfl, by simpa [depsI, flatD] using World.ownsRow_nil w w.heap.size _ 3, by simp [depsI], Below.refl _ _⟩
  case round =>
    obtain ⟨i, hil, rfl, ho, hlen, hb⟩ := hrel
    obtain ⟨va, vc, rfl⟩ := own_form ho
    by_cases hlt : i < ts.length
    · have hlt' : (i : Int) < (ts.length : Int) := by omega
      obtain ⟨b', off', na, cn, hA, -, c2, hcn, hHl⟩ := hz.at hlt
      rw [ha (by omega)] at hA
      simp only [Option.some.injEq, Addr.mk.injEq, and_true] at hA
      obtain ⟨rfl, rfl⟩ := hA
      obtain rfl := ha (by omega)
      have c2' : wr.cell? ⟨b, off + i * 2 + 1, none⟩ = some (.slice na (ncA ts i) cn) := ble hb c2
      have hcn' : ncA ts i ≤ cn := hcn
      obtain ⟨hn2, hn12⟩ := hg.len i hlt
      have hi0 : (0 : Int) ≤ (i : Int) := Int.natCast_nonneg _
      have hw1 : IntKind.i64.wrap ((ncA ts i : Int) - 1) = ((ncA ts i - 1 : Nat) : Int) := by rw [wrap_in _ (by omega) (by omega)]; omega
      have hk0 : (0 : Int) ≤ ((ncA ts i - 1 : Nat) : Int) := by omega
      have hk1 : ((ncA ts i - 1 : Nat) : Int) ≤ (cn : Int) := by omega
      have hk2 : ncA ts i - 1 ≤ cn := by omega
      have hK0 : Hid (depsK ts (wantB n r) i 0 = depsI ts (wantB n r) i) := hide (depsK_zero _ _ _)
      have hK1 : Hid (depsI ts (wantB n r) (i + 1) = depsK ts (wantB n r) i (ncA ts i - 1)) := hide (depsI_succ _ _ _)
      have hlen0 : Hid ((depsK ts (wantB n r) i 0).length ≤ i * 12 + 0) := hide (by rw [hK0.out]; omega)
      clear hcn c2
      rcases hHl with hH | ⟨bc, oc, rfl, hcs⟩
      · exfalso; unfold ncA at hn2; rw [hH] at hn2; simp at hn2
      have hHl : Halts w (some ⟨bc, oc, none⟩) (ts.getD i TripV.zero).calls := .inr ⟨bc, oc, rfl, hcs⟩
      clear hcs
      go_wp2_with fail
      go_quiet (fail)
      go_wp2
      clear c2'
      go_loopw [5, 30] (fun v kk wr => ∃ k : Nat, k ≤ ncA ts i - 1 ∧ kk = .int .i64 k ∧ wr.ownsRow w.heap.size 58 3 v (depsK ts (wantB n r) i k).length (flatD b off (depsK ts (wantB n r) i k)) ∧ (depsK ts (wantB n r) i k).length ≤ i * 12 + k ∧ Below w.heap.size w wr) (fun _ kk _ => (ncA ts i - 1) - (intOf kk).toNat)
      case atStart => exact ⟨0, Nat.zero_le _, rfl, row_eq (own_keep ho (bdraw (Below.refl _ _) _)) hK0.out, hlen0.out, bdraw hb _⟩
      case round =>
        clear ho hlen hb hlen0 hK0
        obtain ⟨k, hkl, rfl, ho, hlen, hb⟩ := hrel
        obtain ⟨va, vc, rfl⟩ := own_form ho
        by_cases hklt : k < ncA ts i - 1
        · have hklt' : (k : Int) < ((ncA ts i - 1 : Nat) : Int) := by omega
          have hk00 : (0 : Int) ≤ (k : Int) := Int.natCast_nonneg _
          obtain ⟨b2, off2, hE2, q0, q1, q2⟩ := call_cells (hHl.below hb) (k := k) (by omega)
          simp only [Option.some.injEq, Addr.mk.injEq, and_true] at hE2
          obtain ⟨rfl, rfl⟩ := hE2
          have hbc := cell_lt q0
          have CW := fun w' (hw : Below wr.heap.size wr w') => cWanted bn br n r (hcA ts i k) w' (ble hw (ble hb h1)) (ble hw (ble hb h2))
          have hY : Hid (wantB n r (hcA ts i k) = true → depsK ts (wantB n r) i (k + 1) = depsK ts (wantB n r) i k ++ [(i, k)]) := hide depsK_yes
          have hN : Hid (wantB n r (hcA ts i k) = false → depsK ts (wantB n r) i (k + 1) = depsK ts (wantB n r) i k) := hide depsK_no
          generalize hcA ts i k = c at *
          obtain ⟨c0, c1, c2⟩ := c
          unfold HaltV.val at CW
          dsimp only at *
          have hba := balloc wr (.cells #[.int .i64 c0, .int .i64 c1, .int .i64 c2] 33)
          go_wp2_with fail
          refine (CW _ hba).mono ?_
          rintro e w1 ⟨rfl, hb1⟩
          have HB := btrans hb (btrans hba hb1)
          have O1 := own_keep ho (btrans hba hb1)
          clear q0 q1 q2 hba CW ho hb hb1
          cases hw : wantB n r ⟨c0, c1, c2⟩
          · have hD := hN.out hw
            have O2 := row_eq O1 hD
            clear O1
            have hlen2 : (depsK ts (wantB n r) i (k + 1)).length ≤ i * 12 + (k + 1) := by rw [hD]; omega
            replace hlen2 := hide hlen2
            clear hD hY hN hw
            go_wp2
            go_roundw
            case rel => exact ⟨k + 1, by omega, by go_num, O2, hlen2.out, HB⟩
            case measure => simp [intOf]; omega
          · have hD := hide (hY.out hw)
            have hsz := HB.size
            clear hY hN hw
            go_wp2_with (at_builtin; refine wpList_append_own _ rfl _ _ 52 rfl w.heap.size 58 i0 _ 3 24 Try.underlying52 hi hz0 hz1 hz2 rfl (by decide) _ _ _ rfl (O1.alloc _) ⟨w1.heap.size, 0, none⟩ 1 1 (depCells b off (i, k)) rfl rfl ?c1 ?c2 ?c3 ?c4 ?c5 ?_)
            case c1 => exact news3
            case c2 => exact depCells_one _ _ _
            case c3 => unfold maxLen; omega
            case c4 => omega
            case c5 => simp; omega
            intro v5 w5 hown5 hgrow5 _
            have hfrom := own_from O1 (Nat.le_refl _)
            have HB5 : Below w.heap.size w w5 := (HB.alloc hsz _).grown hgrow5 (by simp; omega) (fun j e => by have := hfrom j e; omega)
            have O5 : w5.ownsRow w.heap.size 58 3 v5 (depsK ts (wantB n r) i (k + 1)).length (flatD b off (depsK ts (wantB n r) i (k + 1))) := by
              rw [hD.out, flatD_app, List.length_append]
              have e1 : flatD b off [(i, k)] = depCells b off (i, k) := by simp [flatD]
              rw [e1]
              exact hown5
            have hlen2 : (depsK ts (wantB n r) i (k + 1)).length ≤ i * 12 + (k + 1) := by rw [hD.out, List.length_append]; simp; omega
            replace hlen2 := hide hlen2
            clear hD O1 hown5 hgrow5 HB hfrom
            go_wp2
            go_roundw
            case rel => exact ⟨k + 1, by omega, by go_num, O5, hlen2.out, HB5⟩
            case measure => simp [intOf]; omega
        · have hklt' : ¬ (k : Int) < ((ncA ts i - 1 : Nat) : Int) := by omega
          have hkk : k = ncA ts i - 1 := by omega
          have hd : depsI ts (wantB n r) (i + 1) = depsK ts (wantB n r) i k := by rw [hkk]; exact hK1.out
          have ho2 := row_eq ho hd
          have hlen2 : Hid ((depsI ts (wantB n r) (i + 1)).length ≤ (i + 1) * 12) := hide (by rw [hd]; omega)
          clear hkk hlen hd ho
          go_wp2
          go_roundw
          case rel => exact ⟨i + 1, by omega, by go_num, ho2, hlen2.out, hb⟩
          case measure => simp [intOf]; omega
    · have hlt' : ¬ (i : Int) < (ts.length : Int) := by omega
      obtain rfl : i = ts.length := by omega
      rw [hE.out] at ho hlen
      have hlen2 : Hid ((depsOf ts (wantB n r)).length ≤ 288) := hide (by omega)
      clear hE hlen
      go_wp2
      go_ret
      exact ⟨_, rfl, ho, hlen2.out, hb⟩
end Go.Proofs.Ythbedhbbijpfkaa
