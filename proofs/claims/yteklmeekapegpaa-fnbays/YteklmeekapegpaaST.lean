/- The program's standing. -/
import Derived.Test.YteklmeekapegpaaMT
namespace Go.Proofs.Yteklmeekapegpaa
open Go.RowKit Go.Conc

/-- What standing answers: the bays as they are in the minute, or that somebody is in the way. -/
def StPost (n : Nat) (ss : List StayV) (g : Int) (ls : List Int) (es : List PassV) (M : Int) (w : World) (e : Ending) (w' : World) : Prop :=
  Below w.heap.size w w' ∧ ((∃ j ga cs occ, UpTo es M j ∧ SInv n ss g ls es j occ ∧ List.length cs = n ∧ BaysAt w' w.heap.size ga cs occ ∧ e = .returned (.tuple #[.slice (some ⟨ga, 0, none⟩) n n, .bool true])) ∨ ((∃ i k, i < ss.length ∧ k < ss.length ∧ Clash ss g ls i k) ∧ e = .returned (.tuple #[.slice none 0 0, .bool false])))
theorem StPost.yes {n : Nat} {ss : List StayV} {g : Int} {ls : List Int} {es : List PassV} {M : Int} {w w' : World} {j ga : Nat} {cs : List Nat} {occ : Nat → Option Int} (hb : Below w.heap.size w w') (h1 : UpTo es M j) (h2 : SInv n ss g ls es j occ) (h3 : cs.length = n) (h4 : BaysAt w' w.heap.size ga cs occ) : StPost n ss g ls es M w (.returned (.tuple #[.slice (some ⟨ga, 0, none⟩) n n, .bool true])) w' := ⟨hb, .inl ⟨j, ga, cs, occ, h1, h2, h3, h4, rfl⟩⟩
theorem StPost.no {n : Nat} {ss : List StayV} {g : Int} {ls : List Int} {es : List PassV} {M : Int} {w w' : World} (hb : Below w.heap.size w w') (h : ∃ i k, i < ss.length ∧ k < ss.length ∧ Clash ss g ls i k) : StPost n ss g ls es M w (.returned (.tuple #[.slice none 0 0, .bool false])) w' := ⟨hb, .inr ⟨h, rfl⟩⟩
theorem ChanTo.bays {w w' : World} {base ga : Nat} {cs : List Nat} {occ : Nat → Option Int} {k : Nat} {o : Option Int} (hB : BaysAt w base ga cs occ) (hk : k < cs.length) (h : ChanTo w w' (cs.getD k 0) o) : BaysAt w' base ga cs (setOcc occ k o) := by
  obtain ⟨s, r, rfl⟩ := h
  exact hB.set hk o s r
/-- What holds whenever the loop begins anew. -/
def StI (w : World) (n : Nat) (pa : Option Addr) (pc : Nat) (es : List PassV) (la : Option Addr) (lc : Nat) (ls : List Int) (M : Int) (ss : List StayV) (g : Int) (ga : Nat) (cs : List Nat) : Act → World → Prop :=
  fun act wr => ∃ (j : Nat) (occ : Nat → Option Int), ∃ (u12 u13 u19 u20 u21 u22 u23 u24 u25 u26 u27 u28 u29 u30 u31 u32 u33 u34 u35 u36 u37 u38 u39 u40 u41 u42 u43 u44 u45 u46 u47 u48 u49 u50 u51 u52 : Value), act = (⟨List.toArray ((.int .i64 n : Value) :: (.slice pa es.length pc : Value) :: (.slice la ls.length lc : Value) :: (.int .i64 M : Value) :: (undef : Value) :: (undef : Value) :: (undef : Value) :: (undef : Value) :: (.slice none 0 0 : Value) :: (.bool false : Value) :: (.slice (some ⟨ga, 0, none⟩) n n : Value) :: (undef : Value) :: (u12 : Value) :: (u13 : Value) :: (.int .i64 n : Value) :: (.slice (some ⟨ga, 0, none⟩) n n : Value) :: (.slice pa es.length pc : Value) :: (.int .i64 es.length : Value) :: (.int .i64 j : Value) :: (u19 : Value) :: (u20 : Value) :: (u21 : Value) :: (u22 : Value) :: (u23 : Value) :: (u24 : Value) :: (u25 : Value) :: (u26 : Value) :: (u27 : Value) :: (u28 : Value) :: (u29 : Value) :: (u30 : Value) :: (u31 : Value) :: (u32 : Value) :: (u33 : Value) :: (u34 : Value) :: (u35 : Value) :: (u36 : Value) :: (u37 : Value) :: (u38 : Value) :: (u39 : Value) :: (u40 : Value) :: (u41 : Value) :: (u42 : Value) :: (u43 : Value) :: (u44 : Value) :: (u45 : Value) :: (u46 : Value) :: (u47 : Value) :: (u48 : Value) :: (u49 : Value) :: (u50 : Value) :: (u51 : Value) :: (u52 : Value) :: (undef : Value) :: []), []⟩ : Act) ∧ j ≤ es.length ∧ Hid (SInv n ss g ls es j occ) ∧ Hid (∀ i, i < j → (es.getD i PassV.zero).m ≤ M) ∧ BaysAt wr w.heap.size ga cs occ ∧ Below w.heap.size w wr

set_option maxRecDepth 20000 in
set_option maxHeartbeats 3200000 in
theorem cStanding (n : Nat) (pa : Option Addr) (pc : Nat) (es : List PassV) (la : Option Addr) (lc : Nat) (ls : List Int) (M : Int) (ss : List StayV) (g : Int) (w : World) (hE : Passes w pa es) (hI : IsPass ss g ss.length es) (hz : Ints w la ls) (hn1 : 1 ≤ n) (hn12 : n ≤ 12) (h60 : ss.length ≤ 60) (hg1 : 1 ≤ g) (hF : Fine ss ss.length) (hLn : ls.length = ss.length) (hPl : Placed n ls) :
    Calls Try.prog 50 #[.int .i64 n, .slice pa es.length pc, .slice la ls.length lc, .int .i64 M] w (StPost n ss g ls es M w) := by
  refine callsN Try.func50 rfl ?_
  simp only [Try.ntmps50, List.size_toArray, List.length_cons, List.length_nil, Nat.reduceAdd, Nat.reduceSub, Array.replicate_succ, Array.replicate_zero, List.push_toArray, List.append_toArray, List.nil_append, List.cons_append]
  replace hLn := hide hLn
  replace hPl := hide hPl
  replace hF := hide hF
  have hes : es.length ≤ 120 := by rw [hI.len]; omega
  refine wpN_seq_k fun K hK => ?_
  go_wp2
  refine wpN_seq_k fun K hK => ?_
  go_wp2_with fail
  refine (cEmptyBays n _ hn1 hn12).mono ?_
  rintro e w3 ⟨cs, hcl, rfl, hBy, hb⟩
  generalize hga : w.heap.size = ga at hBy ⊢
  have hBy : BaysAt w3 w.heap.size ga cs (fun _ => none) := hBy.mono (Nat.le_of_eq hga)
  clear hga
  have hA0 := hide (SInv.start n ss g ls es)
  go_wp2
  refine wpN_seq_n fun K hK => ?_
  refine wpN_seq_k fun K1 hK1 => ?_
  go_wp2
  refine wpN_block ?_
  refine wpN_loop (StI w n pa pc es la lc ls M ss g ga cs) (fun act _ => es.length - (intOf (act.tmps.getD 18 undef)).toNat) ?_ ?_
  · unfold StI; exact ⟨0, _, _, _, _, _, _, _, _, _, _, _, _, _, _, _, _, _, _, _, _, _, _, _, _, _, _, _, _, _, _, _, _, _, _, _, _, _, rfl, Nat.zero_le _, hA0, hide (fun i h => by omega), hBy, hb⟩
  intro act wr hI0
  unfold StI at hI0
  obtain ⟨j, occ, u12, u13, u19, u20, u21, u22, u23, u24, u25, u26, u27, u28, u29, u30, u31, u32, u33, u34, u35, u36, u37, u38, u39, u40, u41, u42, u43, u44, u45, u46, u47, u48, u49, u50, u51, u52, rfl, hj, hA, hU, hB, hbw⟩ := hI0
  clear hBy hb hA0
  by_cases hlt : j < es.length
  · have hlt' : (j : Int) < (es.length : Int) := by omega
    obtain ⟨i, hi, hw⟩ := pass_who hI hlt
    have hii : i < ls.length := by rw [hLn.out]; exact hi
    have hii' : (i : Int) < (ls.length : Int) := by omega
    rcases hE with h | ⟨pb, off, rfl, hc⟩
    · simp [h] at hlt
    obtain ⟨q0, q1, q2⟩ := hc j hlt
    replace q0 := ble hbw q0
    replace q1 := ble hbw q1
    replace q2 := ble hbw q2
    rcases hz with h | ⟨lb, loff, rfl, hic⟩
    · simp [h] at hii
    have qi := ble hbw (hic i hii)
    have hlbs : lb < wr.heap.size := cell_lt qi
    have hpbs : pb < wr.heap.size := cell_lt q0
    have hpl := hPl.out i hii
    have hgal : ga < wr.heap.size := by
      obtain ⟨c, h, _⟩ := hB.rowBlock
      exact lt_of_block h
    by_cases hM : M < (es.getD j PassV.zero).m
    · have hUp : Hid (UpTo es M j) := hide ⟨hU.out, .inr ⟨hlt, hM⟩⟩
      clear hc hic
      generalize es.getD j PassV.zero = y at *
      obtain ⟨ym, yk, yp⟩ := y
      dsimp only at *
      have hAl := balloc wr (.cells #[.int .i64 ym, .int .i64 yk, .int .i64 yp] 60)
      have hB2 := hB.below hAl
      have hb2 := btrans hbw hAl
      clear hB hbw hw qi
      refine wpN_of ?_
      go_wp2
      refine wpN_of ?_
      go_wp2
      go_ret2
      exact StPost.yes hb2 hUp.out hA.out hcl hB2
    have hU2 : Hid (∀ i, i < j + 1 → (es.getD i PassV.zero).m ≤ M) := hide (fun x hx => by
      by_cases e : x = j
      · subst e; omega
      · exact hU.out x (by omega))
    clear hU hc hic
    rcases hw with ⟨e0, e1⟩ | ⟨e0, e1⟩
    · rw [e0] at q0 q1 q2 hM
      have hcm : Hid (comeP ss i = ⟨fA ss i, 1, i⟩) := rfl
      rw [hcm.out] at q0 q1 q2 hM
      dsimp only at q0 q1 q2 hM
      generalize fA ss i = f at q0 q1 q2 hM
      have hAl := balloc wr (.cells #[.int .i64 f, .int .i64 1, .int .i64 i] 60)
      have hbx := heap_alloc_new wr (.cells #[.int .i64 f, .int .i64 1, .int .i64 i] 60)
      rcases hpl with hm | ⟨bb, hbb, hm⟩
      · have hA2 := hide (hA.out.comeNone hlt e1 (by omega))
        have hB2 := hB.below hAl
        have hb2 := btrans hbw hAl
        rw [hm] at qi
        clear hA hB hbw hm
        refine wpN_of ?_
        go_wp2
        exact ⟨by unfold StI; exact ⟨j + 1, _, _, _, _, _, _, _, _, _, _, _, _, _, _, _, _, _, _, _, _, _, _, _, _, _, _, _, _, _, _, _, _, _, _, _, _, _, rfl, by omega, hA2, hU2, hB2, hb2⟩, by simp [intOf]; omega⟩
      · have hbc : bb < cs.length := by omega
        have hb' : (bb : Int) < (n : Int) := by omega
        have hBd : BaysAt (wr.alloc (.cells #[.int .i64 f, .int .i64 1, .int .i64 i] 60)).drew w.heap.size ga cs occ := hB.below (bdrew hAl)
        have c0 := (hB.below hAl).cell hbc
        obtain ⟨s, r, hch⟩ := hBd.ch bb hbc
        obtain ⟨x0, x1, x2⟩ := blk3 hbx
        have hneg : ¬ ((bb : Int) < 0) := by omega
        cases ho : occ bb with
        | none =>
          rw [ho] at hch
          have hA2 := hide (hA.out.come hI hg1 hF.out hi hlt e1 hbb hm ho)
          have hct : ChanTo (wr.alloc (.cells #[.int .i64 f, .int .i64 1, .int .i64 i] 60)).drew ((wr.alloc (.cells #[.int .i64 f, .int .i64 1, .int .i64 i] 60)).drew.setChan (cs.getD bb 0) 1 (bufOf (some (i : Int))) false (s + 1) r false) (cs.getD bb 0) (some (i : Int)) := ⟨_, _, rfl⟩
          have hB2 := hct.bays hBd hbc
          have hb2 := hct.below (bdrew (btrans hbw hAl)) (hB.low _ (getD_mem hbc))
          have hx2 := (blk3 ((hct.blk (b := wr.heap.size) (fun e => hBd.cellsNe (b := wr.heap.size) hbx (by rw [← e]; exact getD_mem hbc))).trans hbx)).2.2
          have hc2 := hB2.cell hbc
          have CY := cEnter_room (cs.getD bb 0) s r i _ hch
          rw [hm] at qi
          clear hA hB hbw hm ho hct hch hBd hbx hcm hAl
          generalize cs.getD bb 0 = c at *
          have CY2 : Calls Try.prog 65 _ _ (fun e w' => e = .returned (.bool true) ∧ BaysAt w' w.heap.size ga cs (setOcc occ bb (some (i : Int))) ∧ Below w.heap.size w w' ∧ w'.cell? ⟨wr.heap.size, 2, none⟩ = some (.int .i64 i) ∧ w'.cell? ⟨ga, bb, none⟩ = some (.chan (some c))) := CY.mono (fun e w' ⟨h1, h2⟩ => by subst h2; exact ⟨h1, hB2, hb2, hx2, hc2⟩)
          clear CY hB2 hb2 hx2 hc2
          refine wpN_of ?_
          go_wp2
          go_region_held3 (fun w' => w'.cell? ⟨wr.heap.size, 2, none⟩ = some (.int .i64 i) ∧ w'.cell? ⟨ga, bb, none⟩ = some (.chan (some c))) (go_keep) (first
            | (go_at_call 65; with_reducible refine CY2.mono ?_; rintro e w5 ⟨rfl, hB2, hb2, hx2, hc2⟩))
          clear hx2 hc2 CY2
          go_wp2
          exact ⟨by unfold StI; exact ⟨j + 1, _, _, _, _, _, _, _, _, _, _, _, _, _, _, _, _, _, _, _, _, _, _, _, _, _, _, _, _, _, _, _, _, _, _, _, _, _, rfl, by omega, hA2, hU2, hB2, hb2⟩, by simp [intOf]; omega⟩
        | some q =>
          rw [ho] at hch
          have hHit : Hid (∃ i k, i < ss.length ∧ k < ss.length ∧ Clash ss g ls i k) := hide (by
            obtain ⟨k, hk, h⟩ := hA.out.hit hI hlt e1 hbb hm ho
            exact ⟨i, k, hi, hk, h⟩)
          have CY := cEnter_full (cs.getD bb 0) s r i q _ hch
          have hb2 := bdrew (btrans hbw hAl)
          rw [hm] at qi
          clear hA hB hbw hm ho hch hBd hbx hcm hAl
          generalize cs.getD bb 0 = c at *
          have CY2 : Calls Try.prog 65 _ _ (fun e w' => e = .returned (.bool false) ∧ Below w.heap.size w w' ∧ w'.cell? ⟨wr.heap.size, 2, none⟩ = some (.int .i64 i) ∧ w'.cell? ⟨ga, bb, none⟩ = some (.chan (some c))) := CY.mono (fun e w' ⟨h1, h2⟩ => by subst h2; exact ⟨h1, hb2, x2, c0⟩)
          clear CY hb2
          refine wpN_of ?_
          go_wp2
          go_region_held3 (fun w' => w'.cell? ⟨wr.heap.size, 2, none⟩ = some (.int .i64 i) ∧ w'.cell? ⟨ga, bb, none⟩ = some (.chan (some c))) (go_keep) (first
            | (go_at_call 65; with_reducible refine CY2.mono ?_; rintro e w5 ⟨rfl, hb2, hx2, hc2⟩))
          clear hx2 hc2 CY2
          go_wp2
          go_ret2
          exact StPost.no hb2 hHit.out
    · rw [e0] at q0 q1 q2 hM
      have hcm : Hid (leaveP ss g i = ⟨tA ss i + g, 0, i⟩) := rfl
      rw [hcm.out] at q0 q1 q2 hM
      dsimp only at q0 q1 q2 hM
      generalize tA ss i + g = f at q0 q1 q2 hM
      have hAl := balloc wr (.cells #[.int .i64 f, .int .i64 0, .int .i64 i] 60)
      have hbx := heap_alloc_new wr (.cells #[.int .i64 f, .int .i64 0, .int .i64 i] 60)
      rcases hpl with hm | ⟨bb, hbb, hm⟩
      · have hA2 := hide (hA.out.leaveNone hlt e1 (by omega))
        have hB2 := hB.below hAl
        have hb2 := btrans hbw hAl
        rw [hm] at qi
        clear hA hB hbw hm
        refine wpN_of ?_
        go_wp2
        exact ⟨by unfold StI; exact ⟨j + 1, _, _, _, _, _, _, _, _, _, _, _, _, _, _, _, _, _, _, _, _, _, _, _, _, _, _, _, _, _, _, _, _, _, _, _, _, _, rfl, by omega, hA2, hU2, hB2, hb2⟩, by simp [intOf]; omega⟩
      · have hbc : bb < cs.length := by omega
        have hb' : (bb : Int) < (n : Int) := by omega
        have hneg : ¬ ((bb : Int) < 0) := by omega
        have hBd := hB.below hAl
        have c0 := hBd.cell hbc
        obtain ⟨s, r, hch⟩ := hBd.ch bb hbc
        obtain ⟨x0, x1, x2⟩ := blk3 hbx
        have ho := hA.out.there hI hg1 hF.out hi hlt e1 hbb hm
        rw [ho] at hch
        change _ = some (Obj.chan 1 #[.int .i64 i] false s r false) at hch
        have hA2 := hide (hA.out.leave hI hg1 hF.out hi hlt e1 hbb hm)
        have hct : ChanTo (wr.alloc (.cells #[.int .i64 f, .int .i64 0, .int .i64 i] 60)) ((wr.alloc (.cells #[.int .i64 f, .int .i64 0, .int .i64 i] 60)).setChan (cs.getD bb 0) 1 #[] false s (r + 1) false) (cs.getD bb 0) none := ⟨_, _, rfl⟩
        have hB2 := hct.bays hBd hbc
        have hb2 := hct.below (btrans hbw hAl) (hB.low _ (getD_mem hbc))
        rw [hm] at qi
        clear hA hB hbw hm ho hct hBd hbx hcm hAl
        generalize cs.getD bb 0 = c at *
        refine wpN_seq_k fun K hK => ?_
        go_wp2
        refine wpN_seq_k fun K hK => ?_
        go_wp2
        refine wpN_seq_n fun K5 hK5 => ?_
        refine wpN_block ?_
        refine wpN_seq_k fun K hK => ?_
        go_wp2
        refine wpN_seq_k fun K hK => ?_
        go_wp2
        refine wpN_seq_k fun K hK => ?_
        go_wp2
        refine wpN_block ?_
        refine wpN_seq_k fun K hK => ?_
        go_wp2
        refine wpN_false rfl ?_
        refine wpN_seq_k fun K hK => ?_
        go_wp2
        refine wpN_true rfl ?_
        refine wpN_region ?_
        simp only [List.size_toArray, List.length_cons, List.length_nil, Nat.reduceAdd, Nat.zero_add, List.range, List.range.loop]
        refine opsN_op_k rfl rfl fun K9 hK9 => ?_
        unfold valN
        go_simp
        refine hK9 _ _ ?_
        clear hK9 K9
        refine opsN_op_k rfl rfl fun K9 hK9 => ?_
        unfold valN
        go_simp
        refine hK9 _ _ ?_
        clear hK9 K9
        refine opsN_op_k rfl rfl fun K9 hK9 => ?_
        unfold valN
        go_simp
        refine hK9 _ _ ?_
        clear hK9 K9
        refine opsN_op_k rfl rfl fun K9 hK9 => ?_
        unfold valN
        go_simp
        refine hK9 _ _ ?_
        clear hK9 K9
        refine opsN_recv1 (c := c) (z := .int .i64 0) rfl rfl (by simp [go_sem, execOp, rcase, Act.eval]) hch ?_
        refine opsN_nil ?_
        simp only [Exit.inBlock, Exit.then]
        refine hK5 _ _ ?_
        refine wpN_of ?_
        go_wp2
        exact ⟨by unfold StI; exact ⟨j + 1, _, _, _, _, _, _, _, _, _, _, _, _, _, _, _, _, _, _, _, _, _, _, _, _, _, _, _, _, _, _, _, _, _, _, _, _, _, rfl, by omega, hA2, hU2, hB2, hb2⟩, by simp [intOf]; omega⟩
  · obtain rfl : j = es.length := by omega
    have hlt' : ¬ ((es.length : Int) < (es.length : Int)) := by omega
    have hUp : Hid (UpTo es M es.length) := hide ⟨hU.out, .inl rfl⟩
    refine wpN_of ?_
    go_wp2
    refine wpN_of ?_
    go_wp2
    go_ret2
    exact StPost.yes hbw hUp.out hA.out hcl hB
end Go.Proofs.Yteklmeekapegpaa
