/- The model's Finish. -/
import Derived.Test.YtggdejceobagcaaM
namespace Go.Proofs.Ytggdejceobagcaa
open Go.RowKit

def sliceLen : Value → Nat
  | .slice _ n _ => n
  | _ => 0
theorem far_le {ts : List SingleV} {c : Nat} (h : ∀ t ∈ ts, away t ≤ c) : far ts ≤ c * ts.length := by
  induction ts with
  | nil => simp [far]
  | cons t ts ih =>
    have h1 := h t (by simp)
    have h2 := ih (fun x hx => h x (by simp [hx]))
    simp only [far, List.map_cons, List.sum_cons, List.length_cons] at h2 ⊢
    rw [Nat.mul_add]; omega
theorem ok_far {ls : List Int} {ts : List SingleV} (h : singlesOk ls ts = true) : far ts ≤ 32 := by
  obtain ⟨p1, p2, p3⟩ := singlesOk_parts h
  have h5 := (lineOk_parts p1).2.2
  have := far_le (ts := ts) (c := 8) (fun t ht => by have := trainOk_parts (p3 t ht); unfold away; omega)
  omega
theorem finR_le (ls : List Int) (ts : List SingleV) : (finR ls ts).length ≤ 32 := by
  unfold finR
  split
  · next h =>
    cases hc : canFin ls ts with
    | false => rw [fin_cant hc]; simp
    | true => rw [fin_len _ ts rfl hc]; exact ok_far h
  · simp
theorem finR_no {ls : List Int} {ts : List SingleV} (h : canOk ls ts = false) : finR ls ts = [] := by
  unfold finR
  split
  · next hs => exact fin_cant (by simpa [canOk, hs] using h)
  · rfl
/-- Where the model's Finish stands behind some moves. -/
structure FinAt (ls : List Int) (L xs : List Int) (q : List SingleV) : Prop where
  ok : singlesOk ls q = true
  can : canFin ls q = true
  sum : xs ++ fin ls q = L
theorem FinAt.end {ls L xs : List Int} {q : List SingleV} (h : FinAt ls L xs q) (hd : doneT q = true) : xs = L := by
  rw [← h.sum, fin_done hd, List.append_nil]
theorem FinAt.step {ls L xs : List Int} {q : List SingleV} (h : FinAt ls L xs q) (hd : doneT q = false) : ∃ i, i < q.length ∧ firstOf ls q = (i : Nat) ∧ mayGo ls q i = true ∧ FinAt ls L (xs ++ [(i : Int)]) (moveT q i) := by
  obtain ⟨i, hi⟩ := firstT_can hd h.can
  obtain ⟨h1, h2, h3⟩ := firstT_lt hi
  have h4 := h2
  simp only [goodI, Bool.and_eq_true] at h4
  refine ⟨i, h1, by simp [firstOf, h.ok, hi], h4.1, ⟨move_ok h.ok h1 h4.1, h4.2, ?_⟩⟩
  rw [← h.sum, fin_some hi]; simp

set_option maxRecDepth 20000 in
set_option maxHeartbeats 3200000 in
theorem cFinishS (a b : Option Addr) (ca cb : Nat) (ls : List Int) (ts : List SingleV) (w : World) (hz : Ints w a ls) (hl : ls.length ≤ 1048576) (hza : ∀ x, a = some x → x.block < w.heap.size) (ht : Singles w b ts) (hzb : ∀ x, b = some x → x.block < w.heap.size) (hm : ts.length ≤ 1048576) :
    Calls Try.prog 35 #[.slice a ls.length ca, .slice b ts.length cb] w fun e w' => ∃ v, e = .returned v ∧
      w'.ownsRow w.heap.size 3 1 v (finR ls ts).length ((finR ls ts).map (Value.int .i64)) ∧ Below w.heap.size w w' := by
  have hb0 := balloc w (.cells #[] 3)
  have CC := cCanS a b ca cb ls ts _ (hz.below hb0) hl (fun x hx => Nat.lt_of_lt_of_le (hza x hx) hb0.size) (ht.below hb0) (fun x hx => Nat.lt_of_lt_of_le (hzb x hx) hb0.size) hm
  cases hc : canOk ls ts
  · rw [finR_no hc]
    rw [hc] at CC
    go_enter Try.func35, Try.ntmps35
    go_wp2_with fail
    refine CC.mono ?_
    rintro e w1 ⟨rfl, hb⟩
    have HB := btrans hb0 hb
    clear hb hb0 CC
    go_wp2
    go_ret
    exact ⟨_, rfl, World.ownsRow_nil _ _ _ _, HB⟩
  rw [hc] at CC
  have hle := finR_le ls ts
  have hst : FinAt ls (finR ls ts) [] ts := by
    simp only [canOk, Bool.and_eq_true] at hc
    exact ⟨hc.1, hc.2, by simp [finR, hc.1]⟩
  generalize finR ls ts = L at *
  obtain ⟨i0, hi, hz0, hz1, hz2⟩ := info_parts2 infoInts
  have O0 : (w.alloc (.cells #[] 3)).ownsRow w.heap.size 3 1 (.slice (some ⟨w.heap.size, 0, none⟩) 0 0) 0 (([] : List Int).map (Value.int .i64)) := World.ownsRow_made w #[] 0 (Nat.le_refl _) (by omega) rfl
  have CF := fun b' cb' (q : List SingleV) w' (h : Below w.heap.size w w') h2 h3 => cFirstS a b' ca cb' ls q w' (hz.below h) hl (fun x hx => Nat.lt_of_lt_of_le (hza x hx) h.size) h2 h3
  have CM := fun b' cb' (q : List SingleV) (k : Nat) w' (h : Below w.heap.size w w') h2 h3 => cMoveOnS a b' ca cb' ls q k w' (hz.below h) hl h2 h3
  clear hc
  go_enter Try.func35, Try.ntmps35
  go_wp2_with fail
  refine CC.mono ?_
  rintro e w1 ⟨rfl, hb⟩
  have HB := btrans hb0 hb
  have O1 := own_keep O0 hb
  have T1 := ht.below HB
  clear hb hb0 CC O0 ht hz hza
  go_wp2
  go_loopw [5, 6] (fun o t wr => ∃ (xs : List Int) (q : List SingleV) (b' : Option Addr) (cb' : Nat), FinAt ls L xs q ∧ wr.ownsRow w.heap.size 3 1 o xs.length (xs.map (Value.int .i64)) ∧ t = .slice b' q.length cb' ∧ Singles wr b' q ∧ (∀ x, b' = some x → ∀ k, o.ownBlock = some k → x.block ≠ k) ∧ Below w.heap.size w wr) (fun o _ _ => L.length - sliceLen o)
  case atStart => exact ⟨[], ts, b, cb, hst, O1, rfl, T1, (fun x hx k hk => by have := hzb x hx; simp [Value.ownBlock] at hk; omega), HB⟩
  case round =>
    obtain ⟨xs, q, b', cb', hF, O, rfl, T, hap, hb⟩ := hrel
    clear hst O1 T1 HB hzb
    replace hap := hide hap
    have hq4 := (singlesOk_parts hF.ok).2.1
    have hxl : xs.length ≤ L.length := by have := congrArg List.length hF.sum; simp at this; omega
    obtain ⟨vo, co, rfl⟩ := own_form O
    cases hd : doneT q
    · obtain ⟨i, i1, i2, i3, hF2⟩ := hF.step hd
      have hxl2 : xs.length < L.length := by have := congrArg List.length hF2.sum; simp at this; omega
      have CFq := fun w' (h : Below w.heap.size w w') h2 => CF b' cb' q w' h h2 (by omega)
      have CMq := fun w' (h : Below w.heap.size w w') h2 => CM b' cb' q i w' h h2 (by omega)
      rw [i2] at CFq
      rw [mayMove_at hF.ok i1, i3, moveR_at hF.ok i1 i3] at CMq
      clear CF CM i2 i3 hF
      generalize hR : moveT q i = R at *
      clear hR
      go_wp2_with fail
      refine (cDoneS b' cb' q _ T (by omega)).mono ?_
      rintro e w2 ⟨rfl, hb2⟩
      have HB2 := btrans hb hb2
      have O2 := own_keep O hb2
      have T2 := T.below hb2
      rw [hd]
      clear hb2 hb O T hd
      go_wp2_with fail
      refine (CFq _ HB2 T2).mono ?_
      rintro e w3 ⟨rfl, hb3⟩
      have HB3 := btrans HB2 hb3
      have O3 := own_keep O2 hb3
      have T3 := T2.below hb3
      have hsz := HB3.size
      clear hb3 HB2 O2 T2 CFq
      go_wp2_with (at_builtin; refine wpList_append_own _ rfl _ _ 24 rfl w.heap.size 3 i0 (.int .i64 0) 1 8 Try.underlying24 hi hz0 hz1 hz2 rfl (by decide) _ _ _ rfl (O3.alloc _) ⟨w3.heap.size, 0, none⟩ 1 1 [.int .i64 (i : Int)] rfl rfl ?c1 ?c2 ?c3 ?c4 ?c5 ?_)
      case c1 =>
        intro j u hj
        match j, hj with
        | 0, hj => simp at hj; subst hj; simp [Addr.add]
      case c2 => intro u hu; simp at hu; rw [hu]; rfl
      case c3 => unfold maxLen; omega
      case c4 => omega
      case c5 => simp; omega
      intro v' w5 hown' hgrow _
      have hbA := btrans HB3 (balloc w3 (.cells #[.int .i64 (i : Int)] 3))
      have HB5 : Below w.heap.size w w5 := hbA.grown hgrow hbA.size (own_from O3 (Nat.le_refl _))
      have O5 : w5.ownsRow w.heap.size 3 1 v' (xs ++ [(i : Int)]).length ((xs ++ [(i : Int)]).map (Value.int .i64)) := by
        rw [List.map_append, List.length_append]; exact hown'
      have hgr2 := gtrans (r := (Value.slice vo xs.length co).ownBlock) ⟨(balloc w3 (.cells #[.int .i64 (i : Int)] 3)).os, (balloc w3 _).tape, (balloc w3 _).output, (balloc w3 _).size, fun k hk _ => (balloc w3 _).block k hk⟩ hgrow
      have T5 : Singles w5 b' q := by
        rcases T3 with h | ⟨nb, off, ha, hc⟩
        · exact .inl h
        · refine .inr ⟨nb, off, ha, fun j hj => ⟨cell_far hgr2 ?_ (hc j hj).1, cell_far hgr2 ?_ (hc j hj).2⟩⟩ <;> exact fun e => hap.out _ ha nb e.symm rfl
      have hlv := own_blk_lt O5
      clear hgr2 hgrow hown' hbA O3 HB3 T3 hap
      go_wp2_with fail
      refine (CMq _ HB5 T5).mono ?_
      rintro e w6 ⟨v, rfl, OV, hb6⟩
      have HB6 := btrans HB5 hb6
      have O6 := own_keep O5 hb6
      have hvf := own_from OV (Nat.le_refl _)
      obtain ⟨b2, cb2, rfl⟩ := own_form OV
      have T6 := Singles.own OV
      have hap2 : ∀ x, b2 = some x → ∀ k, v'.ownBlock = some k → x.block ≠ k := by
        intro x hx k hk
        subst hx
        have h1 := hvf x.block rfl
        have h2 := hlv k hk
        omega
      obtain ⟨vo2, co2, rfl⟩ := own_form O6
      clear OV hvf hlv O5 HB5 T5 hb6 CMq
      replace hap2 := hide hap2
      go_wp2
      go_roundw
      case rel =>
        have hlen : (xs ++ [(i : Int)]).length = xs.length + 1 := by simp
        exact ⟨_, R, b2, cb2, hF2, (by rw [← hlen]; exact O6), rfl, T6, (by rw [← hlen]; exact hap2.out), HB6⟩
      case measure => simp [sliceLen]; omega
    · have hL := hF.end hd
      subst hL
      go_wp2_with fail
      refine (cDoneS b' cb' q _ T (by omega)).mono ?_
      rintro e w2 ⟨rfl, hb2⟩
      have HB2 := btrans hb hb2
      have O2 := own_keep O hb2
      rw [hd]
      clear hb2 hb O T hd CF CM hF
      go_wp2
      go_ret
      exact ⟨_, rfl, O2, HB2⟩
end Go.Proofs.Ytggdejceobagcaa
