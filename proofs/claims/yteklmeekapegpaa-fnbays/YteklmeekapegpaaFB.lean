/- FreeBays of program and model. -/
import Derived.Test.YteklmeekapegpaaMO
namespace Go.Proofs.Yteklmeekapegpaa
open Go.RowKit Go.Conc

/-- Nobody with bay b holds it in the minute M. -/
def freeTo (ss : List StayV) (g : Int) (ls : List Int) (M : Int) (b k : Nat) : Bool := (List.range k).all (fun i => !(decide (ls.getD i 0 = (b : Int)) && holdsB (ss.getD i StayV.zero) g M))
def freeL (ss : List StayV) (g : Int) (ls : List Int) (M : Int) (k : Nat) : List Nat := (List.range k).filter (fun b => freeTo ss g ls M b ss.length)
theorem freeTo_succ (ss : List StayV) (g : Int) (ls : List Int) (M : Int) (b k : Nat) : freeTo ss g ls M b (k + 1) = (freeTo ss g ls M b k && !(decide (ls.getD k 0 = (b : Int)) && holdsB (ss.getD k StayV.zero) g M)) := by
  unfold freeTo
  rw [List.range_succ, List.all_append]; simp
theorem freeL_succ (ss : List StayV) (g : Int) (ls : List Int) (M : Int) (k : Nat) : freeL ss g ls M (k + 1) = freeL ss g ls M k ++ (if freeTo ss g ls M k ss.length = true then [k] else []) := by
  unfold freeL
  rw [List.range_succ, List.filter_append]
  cases h : freeTo ss g ls M k ss.length <;> simp [h]
theorem freeL_len (ss : List StayV) (g : Int) (ls : List Int) (M : Int) (k : Nat) : (freeL ss g ls M k).length ≤ k := by
  have := List.length_filter_le (fun b => freeTo ss g ls M b ss.length) (List.range k)
  simpa [freeL] using this
def FreeIs (zs : List Int) (ss : List StayV) (g : Int) (ls : List Int) (M : Int) (L : List Int) : Prop := (¬ AOk zs ss g ls ∧ L = []) ∨ (AOk zs ss g ls ∧ L = intsOf (freeL ss g ls M zs.length))
theorem FreeIs.unique {zs : List Int} {ss : List StayV} {g : Int} {ls : List Int} {M : Int} {L L' : List Int} (h : FreeIs zs ss g ls M L) (h' : FreeIs zs ss g ls M L') : L = L' := by
  rcases h with ⟨h1, rfl⟩ | ⟨h1, rfl⟩ <;> rcases h' with ⟨h1', rfl⟩ | ⟨h1', rfl⟩
  · rfl
  · exact absurd h1' h1
  · exact absurd h1 h1'
  · rfl
/-- A bay is free in a minute just when nobody stands there. -/
theorem free_occ {zs : List Int} {ss : List StayV} {g : Int} {ls : List Int} {es : List PassV} {M : Int} {j : Nat} {occ : Nat → Option Int} (hI : IsPass ss g ss.length es) (hU : UpTo es M j) (hS : SInv zs.length ss g ls es j occ) {b : Nat} (hb : b < zs.length) : freeTo ss g ls M b ss.length = true ↔ occ b = none := by
  have hC : ∀ i, i < ss.length → (comeP ss i ∈ es.take j ↔ fA ss i ≤ M) := fun i hi => hU.mem hI.sorted ((hI.mem _).2 ⟨i, hi, .inl rfl⟩)
  have hL : ∀ i, i < ss.length → (leaveP ss g i ∈ es.take j ↔ tA ss i + g ≤ M) := fun i hi => hU.mem hI.sorted ((hI.mem _).2 ⟨i, hi, .inr rfl⟩)
  unfold freeTo
  simp only [List.all_eq_true, List.mem_range, Bool.not_eq_true', Bool.and_eq_false_iff, decide_eq_false_iff_not]
  constructor
  · intro h
    cases ho : occ b with
    | none => rfl
    | some p =>
      obtain ⟨i, hi, _, hc, hl, e⟩ := hS.occ2 b hb p ho
      rcases h i hi with h' | h'
      · exact absurd e h'
      · have h1 := (hC i hi).1 hc
        have h2 := mt (hL i hi).2 hl
        rw [holds_eq] at h'
        simp only [decide_eq_false_iff_not] at h'
        omega
  · intro h i hi
    by_cases e : ls.getD i 0 = (b : Int)
    · right
      rw [holds_eq]
      simp only [decide_eq_false_iff_not]
      rintro ⟨h1, h2⟩
      have := hS.occ1 b hb i hi ((hC i hi).2 h1) (fun hx => by have := (hL i hi).1 hx; omega) e
      rw [h] at this; cases this
    · exact .inl e
theorem BaysAt.congr {w : World} {base g : Nat} {cs : List Nat} {occ occ' : Nat → Option Int} (h : BaysAt w base g cs occ) (he : ∀ k, occ k = occ' k) : BaysAt w base g cs occ' := by
  have : occ = occ' := funext he
  subst this; exact h
theorem BaysAt.row_far {w w' : World} {base g b2 n : Nat} {cs : List Nat} {occ : Nat → Option Int} {v : Value} {xs : List Value} (h : BaysAt w base g cs occ) (ho : w.ownsRow b2 3 1 v n xs) (hg : w.grownBy w' v.ownBlock) : BaysAt w' base g cs occ := by
  obtain ⟨cur, hgb, _⟩ := h.rowBlock
  refine h.keep (fun b hb hbb => hg.block b hb (fun e => ?_))
  rcases ho.2 with ⟨rfl, _⟩ | ⟨g', cap', cur', rfl, _, hh, _⟩
  · simp [Value.ownBlock] at e
  · simp only [Value.ownBlock, Option.some.injEq] at e
    subst e
    rcases hbb with rfl | hbb
    · rw [hgb] at hh; simp at hh
    · exact h.cellsNe hh hbb
theorem ChanTo.own {V w4 : World} {base g c : Nat} {cs : List Nat} {occ : Nat → Option Int} {o : Option Int} {b2 e sz n : Nat} {v : Value} {xs : List Value} (hc : ChanTo V w4 c o) (hB : BaysAt V base g cs occ) (hm : c ∈ cs) (ho : V.ownsRow b2 e sz v n xs) : w4.ownsRow b2 e sz v n xs :=
  own_blk ho (fun b cur hb => (hc.blk (fun ee => hB.cellsNe hb (by rw [← ee]; exact hm))).trans hb)

set_option maxRecDepth 20000 in
set_option maxHeartbeats 1600000 in
theorem cFreeI (a : Option Addr) (ca : Nat) (zs : List Int) (b : Option Addr) (cb : Nat) (ss : List StayV) (g : Int) (l : Option Addr) (cl : Nat) (ls : List Int) (M : Int) (w : World) (hz : Ints w a zs) (hl : zs.length ≤ 1048576) (hy : Stays w b ss) (hl2 : ss.length ≤ 1048576) (hx : Ints w l ls) :
    Calls Try.prog 23 #[.slice a zs.length ca, .slice b ss.length cb, .int .i64 g, .slice l ls.length cl, .int .i64 M] w fun e w' => ∃ L, FreeIs zs ss g ls M L ∧ AnsList w w' e L := by
  obtain ⟨i0, hi, hi0, hi1, hi2⟩ := info_parts infoInts
  go_enter Try.func23, Try.ntmps23
  go_wp2_with fail
  refine (cAssignOkI a ca zs b cb ss g l cl ls _ hz hl hy hl2 hx).mono ?_
  rintro e w1 ⟨⟨r, rfl, hr⟩, hb1⟩
  cases r
  · have hf : Hid (FreeIs zs ss g ls M []) := hide (.inl ⟨fun h => (by have := hr.2 h; cases this), rfl⟩)
    clear hr
    go_wp2
    go_ret
    exact ⟨[], hf.out, AnsList.nil hb1⟩
  have hOk := hide (hr.1 rfl)
  clear hr
  have hq := hOk.out.ok
  simp only [assignOk, Bool.and_eq_true] at hq
  obtain ⟨hz1, hz12⟩ := bays_len hq.1
  have h60 := stays_len hq.2.1
  have hg1 := (inB_true hq.2.2).1
  have hF := hide (fine_of hq.2.1)
  have CP := fun V hV => cPassages b cb ss g V hV hq.2.1 hq.2.2
  have hPl := hide (placed_of hOk.out.len hOk.out.may)
  clear hq
  go_wp2_with fail
  refine (CP _ (hy.below hb1)).mono ?_
  rintro e w2 ⟨v, es, rfl, hp, hI, hb2⟩
  obtain ⟨pa, pc, rfl⟩ := own_form hp
  have hb3 := btrans hb1 hb2
  have CS := cStanding zs.length pa pc es l cl ls M ss g w2 (Passes.own hp) hI (hx.below hb3) hz1 hz12 h60 hg1 hF.out hOk.out.len hPl.out
  go_wp2_with fail
  refine CS.mono ?_
  rintro e w3 ⟨hb4, hR⟩
  rcases hR with ⟨j, ga, cs, occ, hU, hS, hcl, hB, rfl⟩ | ⟨⟨i, k, hi, hk, hC⟩, rfl⟩
  rotate_left
  · exact absurd hC (hOk.out.clean i k hi hk)
  have hFr := hide (fun x (hx : x < zs.length) => free_occ (b := x) hI hU hS hx)
  replace hB := hB.mono hb3.size
  have hb5 := btrans hb3 hb4
  clear CS CP hb4 hb3 hb2 hp hPl hU hS hI hb1
  replace hcl := hide hcl
  go_wp2
  go_loopw [11, 35] (fun v x wr => ∃ k : Nat, k ≤ zs.length ∧ x = .int .i64 k ∧ wr.ownsRow w.heap.size 3 1 v (freeL ss g ls M k).length ((intsOf (freeL ss g ls M k)).map (Value.int .i64)) ∧ BaysAt wr w.heap.size ga cs occ ∧ Below w.heap.size w wr) (fun _ x _ => zs.length - (intOf x).toNat)
  case atStart => exact ⟨0, Nat.zero_le _, rfl, by simpa [freeL, intsOf] using World.ownsRow_nil _ _ _ _, hB, hb5⟩
  case round =>
    obtain ⟨k, hk, rfl, ho, hB, hb⟩ := hrel
    clear hb5
    obtain ⟨va, vc, rfl⟩ := own_form ho
    by_cases hlt : k < zs.length
    · have hlt' : (k : Int) < (zs.length : Int) := by omega
      have hkc : k < cs.length := by rw [hcl.out]; exact hlt
      have c0 := hB.cell hkc
      obtain ⟨s, r, hch⟩ := hB.ch k hkc
      have hSu := hide (freeL_succ ss g ls M k)
      have hLl := freeL_len ss g ls M k
      have hFk := hide (hFr.out k hlt)
      have hgal : ga < wr.heap.size := cell_lt c0
      have hmem := getD_mem (cs := cs) hkc
      cases hoc : occ k with
      | none =>
        rw [hoc] at hch
        have CE := cEmpty_yes (cs.getD k 0) s r wr hch
        rw [if_pos (hFk.out.2 hoc)] at hSu
        generalize cs.getD k 0 = c at *
        generalize hLk : freeL ss g ls M k = Lk at *
        replace hLk := hide hLk
        go_wp2_with fail
        refine CE.mono ?_
        rintro e w4 ⟨rfl, hw⟩
        subst w4
        have ho2 := own_keep ho (balloc wr (.cells #[.int .i64 k] 3))
        have hb2 := btrans hb (balloc wr (.cells #[.int .i64 k] 3))
        have hB2 := hB.below (balloc wr (.cells #[.int .i64 k] 3))
        go_wp2_with (at_builtin; refine wpList_append_own _ rfl _ _ 24 rfl w.heap.size 3 i0 _ 1 8 Try.underlying24 hi hi0 hi1 hi2 rfl (by decide) _ _ _ rfl ho2 ⟨wr.heap.size, 0, none⟩ 1 1 [.int .i64 k] rfl rfl ?c1 ?c2 ?c3 ?c4 ?c5 ?_)
        case c1 => exact World.news_of_block (heap_alloc_new wr _)
        case c2 => simp [Value.oneCell']
        case c3 => unfold maxLen; omega
        case c4 => omega
        case c5 => have := hb.size; simp; omega
        intro v2 w5 hown hgrow _
        have hb5 := hb2.grown hgrow hb2.size (own_from ho (Nat.le_refl _))
        have hB5 := hB2.row_far ho2 hgrow
        have hown2 : w5.ownsRow w.heap.size 3 1 v2 (freeL ss g ls M (k + 1)).length ((intsOf (freeL ss g ls M (k + 1))).map (Value.int .i64)) := by
          rw [hSu.out]; simpa [intsOf] using hown
        clear hgrow hown ho2 hb2 ho hB2
        go_wp2
        go_roundw
        case rel => exact ⟨k + 1, by omega, by go_num, hown2, hB5, hb5⟩
        case measure => simp [intOf]; omega
      | some q =>
        rw [hoc] at hch
        have CE := cEmpty_no (cs.getD k 0) s r q wr hch
        rw [if_neg (fun h => by have := hFk.out.1 h; rw [hoc] at this; cases this), List.append_nil] at hSu
        have hN : ∀ w4, w4 = (wr.setChan (cs.getD k 0) 1 #[] false s (r + 1) false).setChan (cs.getD k 0) 1 #[.int .i64 q] false (s + 1) (r + 1) false → BaysAt w4 w.heap.size ga cs occ ∧ w4.ownsRow w.heap.size 3 1 (.slice va (freeL ss g ls M k).length vc) (freeL ss g ls M k).length ((intsOf (freeL ss g ls M k)).map (Value.int .i64)) ∧ Below w.heap.size w w4 := fun w4 hw => by
          have h1 : ChanTo wr (wr.setChan (cs.getD k 0) 1 #[] false s (r + 1) false) (cs.getD k 0) none := ⟨_, _, rfl⟩
          have h2 : ChanTo (wr.setChan (cs.getD k 0) 1 #[] false s (r + 1) false) w4 (cs.getD k 0) (some q) := ⟨_, _, hw⟩
          have B1 := h1.bays hB hkc
          refine ⟨(h2.bays B1 hkc).congr (fun x => ?_), h2.own B1 hmem (h1.own hB hmem ho), h2.below (h1.below hb (hB.low _ hmem)) (hB.low _ hmem)⟩
          unfold setOcc
          by_cases e : x = k
          · subst e; simp [hoc]
          · simp [e]
        generalize cs.getD k 0 = c at *
        go_wp2_with fail
        refine CE.mono ?_
        rintro e w4 ⟨rfl, hw⟩
        obtain ⟨B4, o4, b4⟩ := hN w4 hw
        clear hw hN CE
        have o5 : w4.ownsRow w.heap.size 3 1 (.slice va (freeL ss g ls M k).length vc) (freeL ss g ls M (k + 1)).length ((intsOf (freeL ss g ls M (k + 1))).map (Value.int .i64)) := by rw [hSu.out]; exact o4
        clear o4 ho hSu
        go_wp2
        go_roundw
        case rel => exact ⟨k + 1, by omega, by go_num, o5, B4, b4⟩
        case measure => simp [intOf]; omega
    · obtain rfl : k = zs.length := by omega
      have hlt' : ¬ ((zs.length : Int) < (zs.length : Int)) := by omega
      have hLl : Hid ((intsOf (freeL ss g ls M zs.length)).length = (freeL ss g ls M zs.length).length) := hide (by simp [intsOf])
      clear hB hFr
      go_wp2
      go_ret
      exact ⟨_, .inr ⟨hOk.out, rfl⟩, ⟨_, rfl, by rw [hLl.out]; exact ho⟩, hb⟩

set_option maxRecDepth 20000 in
set_option maxHeartbeats 3200000 in
theorem cFreeS (a : Option Addr) (ca : Nat) (zs : List Int) (b : Option Addr) (cb : Nat) (ss : List StayV) (g : Int) (l : Option Addr) (cl : Nat) (ls : List Int) (M : Int) (w : World) (hz : Ints w a zs) (hl : zs.length ≤ 1048576) (hy : Stays w b ss) (hl2 : ss.length ≤ 1048576) (hx : Ints w l ls) :
    Calls Try.prog 37 #[.slice a zs.length ca, .slice b ss.length cb, .int .i64 g, .slice l ls.length cl, .int .i64 M] w fun e w' => ∃ L, FreeIs zs ss g ls M L ∧ AnsList w w' e L := by
  obtain ⟨i0, hi, hi0, hi1, hi2⟩ := info_parts infoInts
  go_enter Try.func37, Try.ntmps37
  go_wp2_with fail
  refine (cAssignOkS a ca zs b cb ss g l cl ls _ hz hl hy hl2 hx).mono ?_
  rintro e w1 ⟨⟨r, rfl, hr⟩, hb1⟩
  cases r
  · have hf : Hid (FreeIs zs ss g ls M []) := hide (.inl ⟨fun h => (by have := hr.2 h; cases this), rfl⟩)
    clear hr
    go_wp2
    go_ret
    exact ⟨[], hf.out, AnsList.nil hb1⟩
  have hOk := hide (hr.1 rfl)
  clear hr
  have hq := hOk.out.ok
  simp only [assignOk, Bool.and_eq_true] at hq
  obtain ⟨hz1, hz12⟩ := bays_len hq.1
  have h60 := stays_len hq.2.1
  obtain ⟨hg1, hg2⟩ := inB_true hq.2.2
  have hSt := hide (fun k (hk : k < ss.length) => stays_get hq.2.1 hk)
  have hLn := hide hOk.out.len
  clear hq
  have hO := World.ownsRow_made (base := w.heap.size) (e := 3) (size := 1) w1 #[] 0 hb1.size (by unfold maxLen; omega) rfl
  have HB1 := btrans hb1 (balloc w1 (.cells #[] 3))
  go_wp2
  go_loopw [11, 12] (fun v x wr => ∃ k : Nat, k ≤ zs.length ∧ x = .int .i64 k ∧ wr.ownsRow w.heap.size 3 1 v (freeL ss g ls M k).length ((intsOf (freeL ss g ls M k)).map (Value.int .i64)) ∧ Below w.heap.size w wr) (fun _ x _ => zs.length - (intOf x).toNat)
  case atStart => exact ⟨0, Nat.zero_le _, rfl, by simpa [freeL, intsOf] using hO, HB1⟩
  case round =>
    obtain ⟨k, hk, rfl, ho, hb⟩ := hrel
    clear hO HB1 hb1
    obtain ⟨va, vc, rfl⟩ := own_form ho
    obtain ⟨wo, rfl⟩ : ∃ wo, wo = wr := ⟨wr, rfl⟩
    by_cases hlt : k < zs.length
    · have hlt' : (k : Int) < (zs.length : Int) := by omega
      have hSu := hide (freeL_succ ss g ls M k)
      have hLl := freeL_len ss g ls M k
      generalize hLk : freeL ss g ls M k = Lk at *
      replace hLk := hide hLk
      go_wp2
      go_loopw [13, 14] (fun x y wr => ∃ i : Nat, i ≤ ls.length ∧ x = .bool (freeTo ss g ls M k i) ∧ y = .int .i64 i ∧ Below wo.heap.size wo wr) (fun _ y _ => ls.length - (intOf y).toNat)
      case atStart => exact ⟨0, Nat.zero_le _, rfl, rfl, Below.refl _ _⟩
      case round =>
        obtain ⟨i, hil, rfl, rfl, hbi⟩ := hrel
        by_cases hil2 : i < ls.length
        · have his : i < ss.length := by rw [← hLn.out]; exact hil2
          have his' : (i : Int) < (ss.length : Int) := by omega
          have hbw := btrans hb hbi
          rcases hx with h | ⟨lb, lo, rfl, hc⟩
          · simp [h] at hil2
          have q0 := ble hbw (hc i hil2)
          rcases hy with h | ⟨sb, so, rfl, hsc⟩
          · simp [h] at his
          obtain ⟨p0, p1, p2⟩ := hsc i his
          replace p0 := ble hbw p0
          replace p1 := ble hbw p1
          replace p2 := ble hbw p2
          have hfs := hide (freeTo_succ ss g ls M k i)
          obtain ⟨x1, x2, x3⟩ := hSt.out i his
          have CH := fun V => cHolds (ss.getD i StayV.zero) g M V (by omega) (by omega) hg1 hg2
          clear hc hsc
          generalize ls.getD i 0 = li at *
          generalize ss.getD i StayV.zero = y at *
          obtain ⟨nf, hnf⟩ : ∃ nf, nf = freeTo ss g ls M k (i + 1) := ⟨_, rfl⟩
          rw [← hnf] at hfs
          generalize freeTo ss g ls M k i = fr at *
          obtain ⟨f, t, ll⟩ := y
          unfold StayV.val at CH
          dsimp only at *
          by_cases hli : li = (k : Int)
          · have hoe : ((li : Int) == (k : Int)) = true := by simp [hli]
            go_wp2_with fail
            refine (CH _).mono ?_
            rintro e w5 ⟨rfl, hb5⟩
            have hb6 := btrans hbi hb5
            cases hh : holdsB ⟨f, t, ll⟩ g M
            · have hS : Hid (nf = fr) := by rw [hfs.out, hh]; exact hide (by simp)
              clear hfs hh CH q0 p0 p1 p2 hb5
              go_wp2
              go_roundw
              case rel => exact ⟨i + 1, by omega, by rw [← hnf, hS.out], by go_num, hb6⟩
              case measure => simp [intOf]; omega
            · have hS : Hid (nf = false) := by rw [hfs.out, hh]; exact hide (by simp [hli])
              clear hfs hh CH q0 p0 p1 p2 hb5
              go_wp2
              go_roundw
              case rel => exact ⟨i + 1, by omega, by rw [← hnf, hS.out], by go_num, hb6⟩
              case measure => simp [intOf]; omega
          · have hoe : ((li : Int) == (k : Int)) = false := by simp [hli]
            have hS : Hid (nf = fr) := by rw [hfs.out]; exact hide (by simp [hli])
            clear hfs CH
            go_wp2
            go_roundw
            case rel => exact ⟨i + 1, by omega, by rw [← hnf, hS.out], by go_num, hbi⟩
            case measure => simp [intOf]; omega
        · obtain rfl : i = ls.length := by omega
          have hil' : ¬ ((ls.length : Int) < (ls.length : Int)) := by omega
          rw [← hLn.out] at hSu
          have hbw := btrans hb hbi
          have ho1 := own_keep ho hbi
          cases hff : freeTo ss g ls M k ls.length
          · rw [hff, if_neg (by simp), List.append_nil] at hSu
            have o5 : wr.ownsRow w.heap.size 3 1 (.slice va Lk.length vc) (freeL ss g ls M (k + 1)).length ((intsOf (freeL ss g ls M (k + 1))).map (Value.int .i64)) := by rw [hSu.out]; exact ho1
            clear hff hSu ho ho1
            go_wp2
            go_roundw
            case rel => exact ⟨k + 1, by omega, by go_num, o5, hbw⟩
            case measure => simp [intOf]; omega
          · rw [hff, if_pos rfl] at hSu
            have ho2 := own_keep ho1 (balloc wr (.cells #[.int .i64 k] 3))
            have hb2 := btrans hbw (balloc wr (.cells #[.int .i64 k] 3))
            clear hff
            go_wp2_with (at_builtin; refine wpList_append_own _ rfl _ _ 24 rfl w.heap.size 3 i0 _ 1 8 Try.underlying24 hi hi0 hi1 hi2 rfl (by decide) _ _ _ rfl ho2 ⟨wr.heap.size, 0, none⟩ 1 1 [.int .i64 k] rfl rfl ?c1 ?c2 ?c3 ?c4 ?c5 ?_)
            case c2 => simp [Value.oneCell']
            case c3 => unfold maxLen; omega
            case c4 => omega
            case c5 => have := hbw.size; simp; omega
            intro v2 w5 hown hgrow _
            have hb5 := hb2.grown hgrow hb2.size (own_from ho1 (Nat.le_refl _))
            have hown2 : w5.ownsRow w.heap.size 3 1 v2 (freeL ss g ls M (k + 1)).length ((intsOf (freeL ss g ls M (k + 1))).map (Value.int .i64)) := by
              rw [hSu.out]; simpa [intsOf] using hown
            clear hgrow hown ho2 hb2 ho ho1
            go_wp2
            go_roundw
            case rel => exact ⟨k + 1, by omega, by go_num, hown2, hb5⟩
            case measure => simp [intOf]; omega
    · obtain rfl : k = zs.length := by omega
      have hlt' : ¬ ((zs.length : Int) < (zs.length : Int)) := by omega
      have hLl : Hid ((intsOf (freeL ss g ls M zs.length)).length = (freeL ss g ls M zs.length).length) := hide (by simp [intsOf])
      go_wp2
      go_ret
      exact ⟨_, .inr ⟨hOk.out, rfl⟩, ⟨_, rfl, by rw [hLl.out]; exact ho⟩, hb⟩
end Go.Proofs.Yteklmeekapegpaa
