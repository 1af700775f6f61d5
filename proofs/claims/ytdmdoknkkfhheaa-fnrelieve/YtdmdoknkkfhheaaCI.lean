/- All cuts of a chain; Relieve of the program. -/
import Derived.Test.YtdmdoknkkfhheaaCH
import Derived.Test.YtdmdoknkkfhheaaSB
import Derived.Laws.MakeOwn
namespace Go.Proofs.Ytdmdoknkkfhheaa
open Go.RowKit

theorem flat_zeros (n : Nat) : flatCuts (List.replicate n CutV.zero) = List.replicate (n * 2) (Value.int .i64 0) := by
  induction n with
  | zero => rfl
  | succ n ih => rw [List.replicate_succ, flatCuts_cons, ih, Nat.succ_mul, List.replicate_succ', List.replicate_succ']; simp [CutV.zero, ← List.replicate_succ', ← List.replicate_succ]
/-- A relief as it is made. -/
theorem Rlf.new {w w1 : World} {a : Option Addr} {c : Nat} {s : List TaskV} {r : RuleV} {M : Array Value} (hb : Below w.heap.size w w1) (h1 : M.size = (s.length + 1) * 2) (h2 : M.toList = List.replicate ((s.length + 1) * 2) (Value.int .i64 0)) (hn : s.length ≤ 40) :
    Rlf ((w1.alloc (.cells M 69)).alloc (.cells #[.int .i64 r.p, .int .i64 r.d, .int .i64 r.r, .int .i64 r.s, .slice a s.length c, .slice (some ⟨w1.heap.size, 0, none⟩) (s.length + 1) (s.length + 1)] 65)).drew w.heap.size (w1.heap.size + 1) w1.heap.size a c s r (List.replicate (s.length + 1) CutV.zero) := by
  have o := World.ownsRow_lit (base := w.heap.size) (e := 69) (size := 2) w1 M (s.length + 1) hb.size (by unfold maxLen; omega) h1
  rw [h2, ← flat_zeros] at o
  have k := one_block (w1.alloc (.cells M 69)) (.cells #[.int .i64 r.p, .int .i64 r.d, .int .i64 r.r, .int .i64 r.s, .slice a s.length c, .slice (some ⟨w1.heap.size, 0, none⟩) (s.length + 1) (s.length + 1)] 65)
  rw [sz1] at k
  exact ⟨k, own_keep (o.alloc _) (bdraw (Below.refl _ _) 1), by simp, by omega⟩
/-- All cuts of a chain. -/
def AnsRlf (w : World) (a : Option Addr) (c : Nat) (s : List TaskV) (r : RuleV) (D : Nat → Nat) (e : Ending) (w' : World) : Prop :=
  ∃ rb cb cs, e = .returned (.pointer (some ⟨rb, 0, none⟩)) ∧ Rlf w' w.heap.size rb cb a c s r cs ∧ (∀ j, j ≤ s.length → CutOk (fineB r s) s.length D j (cs.getD j CutV.zero)) ∧ Below w.heap.size w w'
def RInv (w wr : World) (rb cb : Nat) (a : Option Addr) (c : Nat) (s : List TaskV) (r : RuleV) (D : Nat → Nat) (p : Nat) : Prop :=
  ∃ cs, Rlf wr w.heap.size rb cb a c s r cs ∧ (∀ j, p ≤ j → j ≤ s.length → CutOk (fineB r s) s.length D j (cs.getD j CutV.zero)) ∧ Below w.heap.size w wr

set_option maxRecDepth 20000 in
set_option maxHeartbeats 6400000 in
theorem cReliefOf (w : World) (a : Option Addr) (c : Nat) (s : List TaskV) (r : RuleV) (D : Nat → Nat) (hD : IsD (fineB r s) s.length D) (hs : s.all taskB = true) (hn : s.length ≤ 40) (hT : Tasks w a s) (hc : s.length ≤ c) :
    Calls Try.prog 40 #[.slice a s.length c, r.val] w (AnsRlf w a c s r D) := by
  obtain ⟨i0, hi, hz0, hz1, hz2⟩ := info_parts infoCuts
  have hW := balloc w (.cells #[.int .i64 r.p, .int .i64 r.d, .int .i64 r.r, .int .i64 r.s] 27)
  have hX := Rul.new w r 27
  have hmk : ∀ w', (Instr.makeSlice 63 (.int .i64 ((s.length : Int) + 1)) (.int .i64 ((s.length : Int) + 1))).run Try.prog w' = .ok (.slice (some ⟨w'.heap.size, 0, none⟩) (s.length + 1) (s.length + 1)) (w'.alloc (.cells (madeCells (Value.agg #[.int .i64 0, .int .i64 0]).cells ((s.length + 1) * 2)) 69)) := by
    intro w'
    have h := run_make (P := Try.prog) w' 63 69 i0 (.agg #[.int .i64 0, .int .i64 0]) Try.underlying63 hi hz0 .i64 .i64 ((s.length : Int) + 1) ((s.length : Int) + 1) (by omega) (by omega) (by rw [hz2]; omega) (by omega)
    rw [hz1] at h
    rw [h, show ((s.length : Int) + 1).toNat = s.length + 1 by omega]
  have hM1 : (madeCells (Value.agg #[.int .i64 0, .int .i64 0]).cells ((s.length + 1) * 2)).size = (s.length + 1) * 2 := size_madeCells _ _
  have hM2 := madeCuts (s.length + 1)
  generalize madeCells (Value.agg #[.int .i64 0, .int .i64 0]).cells ((s.length + 1) * 2) = M at hmk hM1 hM2
  have e1 : IntKind.i64.wrap ((s.length : Int) + 1) = (s.length : Int) + 1 := wrap_in _ (by omega) (by omega)
  have e2 : IntKind.i64.wrap ((s.length : Int) - 1) = (s.length : Int) - 1 := wrap_in _ (by omega) (by omega)
  have N := Rlf.new (a := a) (c := c) (r := r) hW hM1 hM2 hn
  have hN := bdraw (btrans (btrans hW (balloc _ (.cells M 69))) (balloc _ (.cells #[.int .i64 r.p, .int .i64 r.d, .int .i64 r.r, .int .i64 r.s, .slice a s.length c, .slice (some ⟨w.heap.size + 1, 0, none⟩) (s.length + 1) (s.length + 1)] 65))) 1
  rw [sz1] at N
  clear hi hz0 hz1 hz2 hM1 hM2
  obtain ⟨c0, c1, c2, c3⟩ := hX.parts
  unfold RuleV.val
  go_enter Try.func40, Try.ntmps40
  go_wp2
  go_region
  change Rlf (((w.alloc (.cells #[.int .i64 r.p, .int .i64 r.d, .int .i64 r.r, .int .i64 r.s] 27)).alloc (.cells M 69)).alloc (.cells #[.int .i64 r.p, .int .i64 r.d, .int .i64 r.r, .int .i64 r.s, .slice a s.length c, .slice (some ⟨w.heap.size + 1, 0, none⟩) (s.length + 1) (s.length + 1)] 65)).drew w.heap.size (w.heap.size + 1 + 1) (w.heap.size + 1) a c s r _ at N
  change Below w.heap.size w (((w.alloc (.cells #[.int .i64 r.p, .int .i64 r.d, .int .i64 r.r, .int .i64 r.s] 27)).alloc (.cells M 69)).alloc (.cells #[.int .i64 r.p, .int .i64 r.d, .int .i64 r.r, .int .i64 r.s, .slice a s.length c, .slice (some ⟨w.heap.size + 1, 0, none⟩) (s.length + 1) (s.length + 1)] 65)).drew at hN
  generalize (((w.alloc (.cells #[.int .i64 r.p, .int .i64 r.d, .int .i64 r.r, .int .i64 r.s] 27)).alloc (.cells M 69)).alloc (.cells #[.int .i64 r.p, .int .i64 r.d, .int .i64 r.r, .int .i64 r.s, .slice a s.length c, .slice (some ⟨w.heap.size + 1, 0, none⟩) (s.length + 1) (s.length + 1)] 65)).drew = W at *
  clear hmk hW hX c0 c1 c2 c3
  obtain ⟨cb, hcb⟩ : ∃ cb, cb = w.heap.size + 1 := ⟨_, rfl⟩
  rw [← hcb] at N ⊢
  obtain ⟨rb, hrb⟩ : ∃ rb, rb = cb + 1 := ⟨_, rfl⟩
  rw [← hrb] at N ⊢
  have hge : w.heap.size ≤ cb := by omega
  have I0 : RInv w W rb cb a c s r D s.length := ⟨_, N, fun j h1 h2 => by
    obtain rfl : j = s.length := by omega
    rw [getD_lt (by simp), List.getElem_replicate]
    exact ⟨by rw [hD.last]; rfl, fun h => by omega⟩, hN⟩
  clear N hN hcb hrb
  go_wp2
  go_loopw [6] (fun v wr => ∃ (p : Nat) (q : Int), p ≤ s.length ∧ v = .int .i64 q ∧ Hid (q = (p : Int) - 1) ∧ RInv w wr rb cb a c s r D p) (fun v _ => (intOf v + 1).toNat)
  case atStart => exact ⟨s.length, _, Nat.le_refl _, rfl, hide rfl, I0⟩
  case round =>
    obtain ⟨p, q, hp, rfl, hq, cs, R, hok, hb⟩ := hrel
    clear I0
    by_cases hp0 : p = 0
    · obtain rfl : q = -1 := by have := hq.out; omega
      subst hp0
      have AA : Hid (AnsRlf w a c s r D (.returned (.pointer (some ⟨rb, 0, none⟩))) wr) := hide ⟨rb, cb, cs, rfl, R, fun j hj => hok j (by omega) hj, hb⟩
      clear R hok hT hD
      go_wp2
      go_ret
      exact AA.out
    · obtain ⟨i, rfl⟩ : ∃ i : Nat, q = i := ⟨q.toNat, by have := hq.out; omega⟩
      have hpi : p = i + 1 := by have := hq.out; omega
      have CC := cCutFrom w wr rb cb i a c s r cs D hD hs hn (by omega) hb hT hc hge R (fun j h1 h2 => hok j (by omega) h2)
      have e3 : IntKind.i64.wrap ((i : Int) - 1) = (i : Int) - 1 := wrap_in _ (by omega) (by omega)
      have i9 : (0 : Int) ≤ (i : Int) := by omega
      clear R hok hb hq
      go_wp2_with fail
      refine CC.mono ?_
      rintro e w5 ⟨rfl, cs5, R5, hok5, hb5⟩
      clear CC
      go_wp2
      go_roundw
      case rel => exact ⟨i, _, by omega, rfl, hide rfl, cs5, R5, hok5, hb5⟩
      case measure => simp [intOf]

/-- What Relieve answers, in memory of its own. -/
def AnsRel (w : World) (ts : List TaskV) (ps : List Int) (r : RuleV) (e : Ending) (w' : World) : Prop :=
  ∃ v zs ok, e = .returned (.tuple #[v, .bool ok]) ∧ RelA ts ps r zs ok ∧ w'.ownsRow w.heap.size 3 1 v (List.length zs) (zs.map (Value.int .i64)) ∧ Below w.heap.size w w'
theorem AnsRel.no {w w' : World} {ts : List TaskV} {ps : List Int} {r : RuleV} (h : RelA ts ps r [] false) (hb : Below w.heap.size w w') : AnsRel w ts ps r (.returned (.tuple #[.slice none 0 0, .bool false])) w' :=
  ⟨_, [], false, rfl, h, World.ownsRow_nil _ _ _ _, hb⟩
theorem RelA.bad {ts : List TaskV} {ps : List Int} {r : RuleV} (h : (plB ts ps 40 && ruleB r) = false) : RelA ts ps r [] false := .inl ⟨h, rfl, rfl⟩
theorem own_base {w : World} {B B' e sz n : Nat} {v : Value} {xs : List Value} (h : w.ownsRow B e sz v n xs) (hB : B' ≤ B) : w.ownsRow B' e sz v n xs := by
  obtain ⟨h1, h2⟩ := h
  refine ⟨h1, ?_⟩
  rcases h2 with h2 | ⟨g, cap, cur, hv, hg, r⟩
  · exact .inl h2
  · exact .inr ⟨g, cap, cur, hv, Nat.le_trans hB hg, r⟩
theorem RelA.good {ts : List TaskV} {ps : List Int} {r : RuleV} {zs : List Int} {ok : Bool} {D : Nat → Nat} (hg : (plB ts ps 40 && ruleB r) = true) (hD : IsD (fineB r (pickL ts ps)) ps.length D)
    (h : (D 0 = 41 ∧ zs = [] ∧ ok = false) ∨ (D 0 < 41 ∧ ok = true ∧ ∃ l : List Nat, Bg (fineB r (pickL ts ps)) ps.length D 0 l ps.length ∧ zs = l.map (fun (i : Nat) => (i : Int)))) : RelA ts ps r zs ok := .inr ⟨hg, D, hD, h⟩
def BInv (w wr : World) (fine : Nat → Nat → Bool) (n : Nat) (D : Nat → Nat) (v : Value) (k : Nat) : Prop :=
  ∃ l : List Nat, Bg fine n D 0 l k ∧ wr.ownsRow w.heap.size 3 1 v l.length ((l.map (fun (i : Nat) => (i : Int))).map (Value.int .i64)) ∧ Below w.heap.size w wr

set_option maxRecDepth 20000 in
set_option maxHeartbeats 6400000 in
theorem cRelieveI (ta : Option Addr) (tc : Nat) (ts : List TaskV) (pa : Option Addr) (pc : Nat) (ps : List Int) (r : RuleV) (w : World) (ht : Tasks w ta ts) (hp : Ints w pa ps) (hlt : ts.length ≤ 1048576) (hpc : ps.length ≤ pc) :
    Calls Try.prog 13 #[.slice ta ts.length tc, .slice pa ps.length pc, r.val] w (AnsRel w ts ps r) := by
  obtain ⟨i0, hi, hz0, hz1, hz2⟩ := info_parts infoInts
  have CS := fun w ht hp => cShift ta tc ts pa pc ps 40 (by omega) w ht hp hlt hpc
  have CR := fun w => cRuleI r w
  have hW := balloc w (.cells #[.int .i64 r.p, .int .i64 r.d, .int .i64 r.r, .int .i64 r.s] 27)
  have hX := Rul.new w r 27
  have CL := fun (w : World) a c D h1 h2 h3 h4 h5 => cReliefOf w a c (pickL ts ps) r D h1 h2 h3 h4 h5
  rw [pickL_len] at CL
  have hBad := hide (fun h => RelA.bad (ts := ts) (ps := ps) (r := r) h)
  unfold RuleV.val at *
  obtain ⟨rb0, hrb⟩ : ∃ rb0, rb0 = ruleB r := ⟨_, rfl⟩
  rw [← hrb] at CR
  have hru : Hid (ruleB r = rb0) := hide hrb.symm
  clear hrb hlt hpc
  go_enter Try.func13, Try.ntmps13
  go_wp2_with fail
  refine (CS _ (ht.below hW) (hp.below hW)).mono ?_
  rintro e w1 ⟨v, rfl, hy, hno, hb1⟩
  have hb := btrans hW hb1
  replace hX := hX.below hb1
  clear CS
  cases hq : plB ts ps 40
  · obtain rfl := hno hq
    have AA : Hid (AnsRel w ts ps r (.returned (.tuple #[.slice none 0 0, .bool false])) w1) := hide (AnsRel.no (hBad.out (by rw [hq]; rfl)) hb)
    clear hy hno CR CL hBad hp ht
    go_wp2
    go_ret2
    exact AA.out
  have ho := hy hq
  obtain ⟨a, c, rfl⟩ := own_form ho
  obtain ⟨c0, c1, c2, c3⟩ := hX.parts
  go_wp2_with fail
  refine (CR _).mono ?_
  rintro e w2 ⟨rfl, hw2⟩
  replace hb := btrans hb hw2
  replace hX := hX.below hw2
  replace ho := own_keep ho hw2
  clear c0 c1 c2 c3 hy hno CR hb1
  cases rb0
  · have AA : Hid (AnsRel w ts ps r (.returned (.tuple #[.slice none 0 0, .bool false])) w2) := hide (AnsRel.no (hBad.out (by rw [hq, hru.out]; rfl)) hb)
    clear CL hBad hp ht
    go_wp2
    go_ret2
    exact AA.out
  have hgood : Hid ((plB ts ps 40 && ruleB r) = true) := hide (by rw [hq, hru.out]; rfl)
  have hn40 := (plB_iff.1 hq).2.1
  obtain ⟨D, hD⟩ := exD (fineB r (pickL ts ps)) ps.length
  have hL := pickL_len ts ps
  have hcap : ps.length ≤ c := by
    rcases ho.2 with ⟨h1, h2⟩ | ⟨g, cap', cur, h1, _, _, h3, _⟩
    · simp at h1; omega
    · simp only [Value.slice.injEq] at h1; omega
  have C1 := CL w2 a c D hD (pick_ok hq) (by omega) (Tasks.own' ho) (by omega)
  have hRA := hide (fun zs ok h => RelA.good (zs := zs) (ok := ok) hgood.out hD h)
  obtain ⟨c0, c1, c2, c3⟩ := hX.parts
  clear hBad CL hq hru
  go_wp2_with fail
  refine C1.mono ?_
  rintro e w3 ⟨rb, cb, cs, rfl, R, hok, hb3⟩
  have R5 := blk_cell R.blk 5
  simp only [List.getElem?_toArray, List.getElem?_cons_zero, List.getElem?_cons_succ] at R5
  have hrow := R.row
  have hcl := R.len
  rw [hL] at R5 hrow hok hcl
  replace hb := btrans hb hb3
  have hw2s := hw2.size
  clear C1 c0 c1 c2 c3 hX R ho hb3 hw2
  obtain ⟨y0, -⟩ := flatCuts_get cs 0 (by omega)
  have d0 := (hrow.cellAt 0 (by omega)).trans y0
  rw [(hok 0 (by omega)).1] at d0
  obtain ⟨N, hN⟩ : ∃ N, N = ps.length + 1 := ⟨_, rfl⟩
  rw [← hN] at R5 hrow
  have hN0 : (0 : Int) < (N : Int) := by omega
  have hN1 : 0 < N := by omega
  by_cases h41 : D 0 = 41
  · have h41' : (41 : Int) ≤ ((D 0 : Nat) : Int) := by omega
    have AA : Hid (AnsRel w ts ps r (.returned (.tuple #[.slice none 0 0, .bool false])) w3) := hide (AnsRel.no (hRA.out [] false (.inl ⟨h41, rfl, rfl⟩)) hb)
    clear hRA hp ht hrow hok h41
    go_wp2
    go_ret2
    exact AA.out
  have hlt41 : D 0 < 41 := by
    by_cases e : ps.length = 0
    · have := hD.last; rw [e] at this; omega
    · have := hD.le 0 (by omega); omega
  have h41' : ¬ ((41 : Int) ≤ ((D 0 : Nat) : Int)) := by omega
  have h41b : decide (41 ≤ D 0) = false := decide_eq_false (by omega)
  have HN := hide hN
  have I0 : BInv w3 w3 (fineB r (pickL ts ps)) ps.length D (.slice none 0 0) 0 := ⟨[], .nil _, World.ownsRow_nil _ _ _ _, Below.refl _ _⟩
  have hYes := hide (fun (l : List Nat) (h : Bg (fineB r (pickL ts ps)) ps.length D 0 l ps.length) => hRA.out (l.map (fun (i : Nat) => (i : Int))) true (.inr ⟨hlt41, rfl, l, h, rfl⟩))
  clear hRA hN hgood
  generalize fineB r (pickL ts ps) = fine at *
  go_wp2
  go_loopw [11, 12] (fun v i wr => ∃ k : Nat, k ≤ ps.length ∧ i = .int .i64 (k : Int) ∧ BInv w3 wr fine ps.length D v k) (fun _ i _ => ps.length - (intOf i).toNat)
  case atStart => exact ⟨0, Nat.zero_le _, rfl, I0⟩
  case round =>
    obtain ⟨k, hk, rfl, l, hB, ho, hb3⟩ := hrel
    clear I0
    by_cases hlk : k < ps.length
    · have hlk' : (k : Int) < (ps.length : Int) := by omega
      have hbl := hB.len
      obtain ⟨-, hnx⟩ := hok k (by omega)
      obtain ⟨m, hm1, hm2⟩ := hnx hlk (by omega)
      have hll : l.length ≤ 40 := by omega
      clear hbl
      obtain ⟨-, y1⟩ := flatCuts_get cs k (by omega)
      have d1 := (hrow.cellAt (k * 2 + 1) (by have := HN.out; omega)).trans y1
      rw [hm1] at d1
      have d0' := d1
      replace d1 := ble hb3 d1
      have hcbl := cell_lt d1
      have hin : (k : Int) < (N : Int) := by have := HN.out; omega
      have hB2 := hide (hB.snoc hlk hm2)
      have hml := hm2.hi
      have hmo := hm2.lo
      obtain ⟨va, vc, rfl⟩ := own_form ho
      have hNb := one_block wr (.cells #[.int .i64 (k : Int)] 3)
      have hb6 := balloc wr (.cells #[.int .i64 (k : Int)] 3)
      have ho6 := own_keep ho hb6
      have hbx := btrans hb3 hb6
      have d2 := ble hb6 d1
      have hbB := own_blk_lt ho6
      clear y1 hnx hm1 hm2 hB ho d1
      go_wp2_with (at_builtin; refine wpList_append_own _ rfl _ _ 25 rfl w3.heap.size 3 i0 _ 1 8 Try.underlying25 hi hz0 hz1 hz2 rfl (by decide) _ _ _ rfl ho6 ⟨wr.heap.size, 0, none⟩ 1 1 [.int .i64 (k : Int)] rfl rfl ?c1 ?c2 ?c3 ?c4 ?c5 ?_)
      case c1 => exact World.news_of_block hNb
      case c2 => intro u hu; simp at hu; subst hu; rfl
      case c3 => unfold maxLen; omega
      case c4 => omega
      case c5 => exact hbx.size
      intro v2 w5 hown hgrow _
      have hb5 := hbx.grown hgrow hbx.size (own_from ho6 (Nat.le_refl _))
      have d3 := ble hb5 d0'
      have ho7 : w5.ownsRow w3.heap.size 3 1 v2 (l ++ [k]).length (((l ++ [k]).map (fun (i : Nat) => (i : Int))).map (Value.int .i64)) := by
        simpa using hown
      clear hgrow hNb ho6 hbx hb6 hown d2
      go_wp2
      go_roundw
      case rel => exact ⟨m, by omega, rfl, l ++ [k], hB2.out, ho7, hb5⟩
      case measure => simp [intOf]; omega
    · obtain rfl : k = ps.length := by omega
      have hRA := hYes.out l hB
      have ho2 := own_base ho hb.size
      have AA : Hid (AnsRel w ts ps r (.returned (.tuple #[u11, .bool true])) wr) := hide ⟨_, _, true, rfl, hRA, by rw [List.length_map]; exact ho2, btrans hb hb3⟩
      obtain ⟨va, vc, rfl⟩ := own_form ho
      clear hrow hok ho ho2 hRA hYes ht hp hB
      go_wp2
      go_ret2
      exact AA.out
end Go.Proofs.Ytdmdoknkkfhheaa
