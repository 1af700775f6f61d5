/- The model: the question, FreeSeats, Hole. -/
import Derived.Test.YtgnlcehpajbnoaaMT
import Derived.Test.YtgnlcehpajbnoaaMU
import Derived.Deep.RegionHeld3
import Derived.Deep.AppendLies
namespace Go.Proofs.Ytgnlcehpajbnoaa
open Go.RowKit Go.Lib
theorem blk_app {w w' : World} {base e sz n : Nat} {v : Value} {xs : List Value} (ho : w.ownsRow base e sz v n xs) (hg : w.grownBy w' v.ownBlock) {g : Nat} {cs : Array Value} {t : TypeId} {f : Nat × Nat} (h : w.heap[g]? = some (.cells cs t f)) (hne : t ≠ e) : w'.heap[g]? = some (.cells cs t f) := by
  refine (hg.block g (lt_of_block h) ?_).trans h
  intro hv
  rcases ho.2 with ⟨rfl, _⟩ | ⟨g', cap', cur, rfl, _, hh, _⟩
  · simp [Value.ownBlock] at hv
  · simp only [Value.ownBlock, Option.some.injEq] at hv
    subst hv
    rw [h] at hh
    simp only [Option.some.injEq, Obj.cells.injEq] at hh
    exact hne hh.2.1
theorem ask_in {P on off : Int} : askB P on off = (inB off 1 P && inB on 0 (off - 1)) := by
  rw [Bool.eq_iff_iff]
  simp only [askB, inB, Bool.and_eq_true, decide_eq_true_eq]
  omega
theorem Tr.f {S P : Int} {hs : List BkV} (h : Tr S P hs) : ∀ j, j < hs.length → 0 ≤ (hs.getD j BkV.zero).f ∧ (hs.getD j BkV.zero).f ≤ 100 := by
  intro j hj
  have := bkB_iff.1 (h.rt.ok hs[j] (List.getElem_mem hj))
  have h2 := h.p2
  simp only [List.getD, hj, List.getElem?_eq_getElem, Option.getD_some]
  omega

set_option maxRecDepth 20000 in
set_option maxHeartbeats 1600000 in
theorem cAskS (S P : Int) (a : Option Addr) (c : Nat) (hs : List BkV) (on off : Int) (w : World) (hz : Bks w a hs) (hl : hs.length ≤ 1048576) :
    Calls Try.prog 58 #[.agg #[.int .i64 S, .int .i64 P, .slice a hs.length c], .int .i64 on, .int .i64 off] w fun e w' => e = .returned (.bool (trainB S P hs && askB P on off)) ∧ Below w.heap.size w w' := by
  have hW := balloc w (.cells #[.int .i64 S, .int .i64 P, .slice a hs.length c] 26)
  have kt : (w.alloc (.cells #[.int .i64 S, .int .i64 P, .slice a hs.length c] 26)).heap[w.heap.size]? = some (.cells #[.int .i64 S, .int .i64 P, .slice a hs.length c] 26 (0, 0)) := heap_alloc_new w _
  have C := cTrainS S P a c hs _ (hz.below hW) hl
  have hP := fun h => hide (trainB_iff (S := S) (P := P) (hs := hs) |>.1 h)
  have E : Hid ((trainB S P hs && askB P on off) = (trainB S P hs && (inB off 1 P && inB on 0 (off - 1)))) := hide (by rw [ask_in])
  generalize (trainB S P hs && askB P on off) = R at *
  go_enter Try.func58, Try.ntmps58
  go_wp2_with fail
  refine C.mono ?_
  rintro e w1 ⟨rfl, hb⟩
  replace kt := blk_keep hb kt
  replace hb := btrans hW hb
  obtain ⟨⟨b0, b1, b2⟩, -⟩ := blk3 kt
  clear C kt
  cases ht : trainB S P hs
  · rw [ht] at E
    have hR : R = false := E.out
    subst hR
    clear hz hP
    go_wp2
    go_ret
    exact ⟨rfl, hb⟩
  rw [ht] at E
  have hp2 := (hP ht).out.p2
  have C1 := fun V => cIn off 1 P V
  have C2 := fun V => cIn on 0 (off - 1) V
  clear hP hz
  go_wp2_with fail
  refine (C1 _).mono ?_
  rintro e w2 ⟨rfl, rfl⟩
  cases e1 : inB off 1 P
  · rw [e1] at E
    have hR : R = false := E.out
    subst hR
    go_wp2
    go_ret
    exact ⟨rfl, hb⟩
  rw [e1] at E
  obtain ⟨f0, f1⟩ := inB_true e1
  have hwf : IntKind.i64.wrap (off - 1) = off - 1 := wrap_in _ (by omega) (by omega)
  go_wp2_with fail
  refine (C2 _).mono ?_
  rintro e w3 ⟨rfl, rfl⟩
  have hR : Hid (R = inB on 0 (off - 1)) := hide E.out
  clear E
  go_wp2
  go_ret
  exact ⟨ret_bool hR.out.symm, hb⟩
theorem freeB_step {hs : List BkV} {s : Int} {n p : Nat} (h : n ≤ p) : freeB hs s n ((p + 1 : Nat) : Int) = (freeB hs s n p && !heldB hs s p) := by
  rw [Bool.eq_iff_iff, Bool.and_eq_true, freeB_iff, freeB_iff, Bool.not_eq_true']
  constructor
  · intro g; exact ⟨fun q h1 h2 => g q h1 (by omega), g p (by omega) (by omega)⟩
  · rintro ⟨g1, g2⟩ q h1 h2
    by_cases e : q = (p : Int)
    · subst e; exact g2
    · exact g1 q h1 (by omega)
theorem freeB_nil (hs : List BkV) (s : Int) (n : Nat) : freeB hs s n n = true := freeB_iff.2 fun q h1 h2 => by omega

set_option maxRecDepth 20000 in
set_option maxHeartbeats 6400000 in
theorem cFreeS (S P : Int) (a : Option Addr) (c : Nat) (hs : List BkV) (on off : Int) (w : World) (hz : Bks w a hs) (hl : hs.length ≤ 1048576) :
    Calls Try.prog 30 #[.agg #[.int .i64 S, .int .i64 P, .slice a hs.length c], .int .i64 on, .int .i64 off] w fun e w' => ∃ v, e = .returned v ∧ w'.ownsRow w.heap.size 3 1 v (freeL S P hs on off).length ((freeL S P hs on off).map (Value.int .i64)) ∧ Below w.heap.size w w' := by
  obtain ⟨i0, hi, hi0, hi1, hi2⟩ := info_parts infoInts
  have hW := balloc w (.cells #[.int .i64 S, .int .i64 P, .slice a hs.length c] 26)
  have kt : (w.alloc (.cells #[.int .i64 S, .int .i64 P, .slice a hs.length c] 26)).heap[w.heap.size]? = some (.cells #[.int .i64 S, .int .i64 P, .slice a hs.length c] 26 (0, 0)) := heap_alloc_new w _
  have C := cAskS S P a c hs on off _ (hz.below hW) hl
  have E : Hid (freeL S P hs on off = if trainB S P hs && askB P on off then freeK hs on off S.toNat else []) := hide rfl
  have hP := hide (show (trainB S P hs && askB P on off) = true → Tr S P hs ∧ 0 ≤ on ∧ on < off ∧ off ≤ P from fun h => by
    rw [Bool.and_eq_true] at h
    exact ⟨trainB_iff.1 h.1, askB_iff.1 h.2⟩)
  generalize (trainB S P hs && askB P on off) = T at *
  generalize freeL S P hs on off = L at *
  go_enter Try.func30, Try.ntmps30
  go_wp2_with fail
  refine C.mono ?_
  rintro e w1 ⟨rfl, hb⟩
  replace kt := blk_keep hb kt
  replace hb := btrans hW hb
  clear C
  cases T
  · have hL : L = [] := E.out
    subst hL
    clear hz kt hP
    go_wp2
    go_ret
    exact ⟨_, rfl, World.ownsRow_nil _ _ _ _, hb⟩
  obtain ⟨hT, a0, a1, a2⟩ := hP.out rfl
  have hL : Hid (L = freeK hs on off S.toNat) := hide E.out
  have s1 := hT.s1
  have s2 := hT.s2
  have p2 := hT.p2
  obtain ⟨N, rfl⟩ : ∃ N : Nat, S = N := ⟨S.toNat, by omega⟩
  rw [Int.toNat_natCast] at hL
  obtain ⟨n, rfl⟩ : ∃ n : Nat, on = n := ⟨on.toNat, by omega⟩
  obtain ⟨f, rfl⟩ : ∃ n : Nat, off = n := ⟨off.toNat, by omega⟩
  have CH := fun s p V (hV : Below w.heap.size w V) => cHeldS N P a c hs s p V (hz.below hV) hl hT.f
  have hO := World.ownsRow_made (base := w.heap.size) (e := 3) (size := 1) w1 #[] 0 hb.size (by unfold maxLen; omega) rfl
  have HB1 := btrans hb (balloc w1 (.cells #[] 3))
  replace kt := blk_keep (balloc w1 (.cells #[] 3)) kt
  clear hP E hb
  go_wp2
  generalize w1.alloc (.cells #[] 3) = W1 at *
  go_loopw [7, 8] (fun v x wr => ∃ k : Nat, x = .int .i64 k ∧ k ≤ N ∧ wr.ownsRow w.heap.size 3 1 v (freeK hs n f k).length ((freeK hs n f k).map (Value.int .i64)) ∧ wr.heap[w.heap.size]? = some (.cells #[.int .i64 N, .int .i64 P, .slice a hs.length c] 26 (0, 0)) ∧ Below w.heap.size w wr) (fun _ x _ => N - (intOf x).toNat)
  case atStart => exact ⟨0, rfl, Nat.zero_le _, by simpa [freeK_zero] using hO, kt, HB1⟩
  case round =>
    obtain ⟨k, rfl, hk, ho, kr, hbr⟩ := hrel
    clear hO kt HB1
    obtain ⟨va, vc, rfl⟩ := own_form ho
    obtain ⟨⟨b0, b1, b2⟩, -⟩ := blk3 kr
    by_cases hlt : k < N
    rotate_left
    · obtain rfl : k = N := by omega
      clear CH hz kr
      go_wp2
      go_ret
      exact ⟨_, rfl, by rw [hL.out]; exact ho, hbr⟩
    have hyes := fun h => hide (freeK_yes (hs := hs) (on := n) (off := f) (k := k) h)
    have hno := fun h => hide (freeK_no (hs := hs) (on := n) (off := f) (k := k) h)
    have hLl := freeK_len hs n f k
    obtain ⟨wo, rfl⟩ : ∃ wo, wo = wr := ⟨wr, rfl⟩
    go_wp2
    go_loopw [9, 10] (fun x y wr => ∃ p : Nat, y = .int .i64 p ∧ n ≤ p ∧ p ≤ f ∧ x = .bool (freeB hs k n p) ∧ Below wo.heap.size wo wr) (fun _ y _ => f - (intOf y).toNat)
    case atStart => exact ⟨n, rfl, Nat.le_refl _, by omega, by rw [freeB_nil], Below.refl _ _⟩
    case round =>
      obtain ⟨p, rfl, hp1, hp2, rfl, hbq⟩ := hrel
      by_cases hpf : p < f
      · have hbw := btrans hbr hbq
        have C2 := CH k p wr hbw
        have hst := hide (freeB_step (hs := hs) (s := k) hp1)
        obtain ⟨⟨d0, d1, d2⟩, -⟩ := blk3 (blk_keep hbq kr)
        have hpf' : (p : Int) < (f : Int) := by omega
        clear b0 b1 b2 CH hyes hno
        generalize freeB hs k n p = fb at *
        go_wp2_with fail
        refine C2.mono ?_
        rintro e w4 ⟨rfl, hb4⟩
        have hb5 := btrans hbq hb4
        clear C2 hb4 hbq
        cases hh : heldB hs k p
        · rw [hh] at hst
          have hs2 : Hid (freeB hs k n ((p + 1 : Nat) : Int) = fb) := hide (by rw [hst.out]; simp)
          clear hst hh
          go_wp2
          go_roundw
          case rel => exact ⟨p + 1, by go_num, by omega, by omega, by rw [hs2.out], hb5⟩
          case measure => simp [intOf]; omega
        · rw [hh] at hst
          have hs2 : Hid (freeB hs k n ((p + 1 : Nat) : Int) = false) := hide (by rw [hst.out]; simp)
          clear hst hh
          go_wp2
          go_roundw
          case rel => exact ⟨p + 1, by go_num, by omega, by omega, by rw [hs2.out], hb5⟩
          case measure => simp [intOf]; omega
      · obtain rfl : p = f := by omega
        have ho1 := own_keep ho hbq
        have hb1 := btrans hbr hbq
        have kr1 := blk_keep hbq kr
        have hpf' : ¬ (p : Int) < (p : Int) := by omega
        clear b0 b1 b2 CH ho hbr kr hbq
        cases hfr : freeB hs k n p
        · have ho3 : wr.ownsRow w.heap.size 3 1 (.slice va (freeK hs n p k).length vc) (freeK hs n p (k + 1)).length ((freeK hs n p (k + 1)).map (Value.int .i64)) := by rw [(hno hfr).out]; exact ho1
          clear ho1 hyes hno hfr
          go_wp2
          go_roundw
          case rel => exact ⟨k + 1, by go_num, by omega, ho3, kr1, hb1⟩
          case measure => simp [intOf]; omega
        · have hy := hyes hfr
          have hbx := balloc wr (.cells #[.int .i64 k] 3)
          have ho2 := own_keep ho1 hbx
          have hb2 := btrans hb1 hbx
          have kr2 := blk_keep hbx kr1
          generalize hLk : freeK hs n p k = Lk at *
          replace hLk := hide hLk
          clear hyes hno hfr hbx
          go_wp2_with (at_builtin; refine wpList_append_own _ rfl _ _ 30 rfl w.heap.size 3 i0 _ 1 8 Try.underlying30 hi hi0 hi1 hi2 rfl (by decide) _ _ _ rfl ho2 ⟨wr.heap.size, 0, none⟩ 1 1 [.int .i64 k] rfl rfl ?d1 ?d2 ?d3 ?d4 ?d5 ?_)
          case d2 => simp [Value.oneCell']
          case d3 => unfold maxLen; omega
          case d4 => omega
          case d5 => have := hb1.size; simp; omega
          intro v2 w5 hown hgrow _
          have hb5 := hb2.grown hgrow hb2.size (own_from ho2 (Nat.le_refl _))
          have kr5 := blk_app ho2 hgrow kr2 (by decide)
          have hown2 : w5.ownsRow w.heap.size 3 1 v2 (freeK hs n p (k + 1)).length ((freeK hs n p (k + 1)).map (Value.int .i64)) := by
            rw [hy.out]; simpa using hown
          clear hgrow hown ho2 hb2 ho1 kr2 kr1
          go_wp2
          go_roundw
          case rel => exact ⟨k + 1, by go_num, by omega, hown2, kr5, hb5⟩
          case measure => simp [intOf]; omega

set_option maxHeartbeats 800000 in
theorem cHasS (a : Option Addr) (c : Nat) (zs : List Int) (x : Int) (w : World) (hz : Ints w a zs) (hl : zs.length ≤ 1048576) :
    Calls Try.prog 65 #[.slice a zs.length c, .int .i64 x] w fun e w' => e = .returned (.bool (zs.contains x)) ∧ w' = w := by
  have hyes := fun (k : Nat) (hk : k < zs.length) (h : zs.getD k 0 = x) => hide (show zs.contains x = true by
    rw [List.contains_iff_mem, ← h]; simp only [List.getD, hk, List.getElem?_eq_getElem, Option.getD_some]; exact List.getElem_mem hk)
  have hno := fun (h : ∀ j, j < zs.length → zs.getD j 0 ≠ x) => hide (show zs.contains x = false by
    cases hc : zs.contains x
    · rfl
    · rw [List.contains_iff_mem] at hc
      obtain ⟨j, hj, he⟩ := List.getElem_of_mem hc
      exact absurd (by simp [List.getD, hj, he]) (h j hj))
  generalize zs.contains x = R at *
  go_enter Try.func65, Try.ntmps65
  go_wp2
  go_loop [5] (fun i => ∃ k : Nat, k ≤ zs.length ∧ i = .int .i64 k ∧ Hid (∀ j, j < k → zs.getD j 0 ≠ x)) (fun i => zs.length - (intOf i).toNat)
  case atStart => exact ⟨0, Nat.zero_le _, rfl, hide (fun j hj => by omega)⟩
  case round =>
    obtain ⟨k, hk, rfl, hN⟩ := hrel
    by_cases hlt : k < zs.length
    · have hy := hyes k hlt
      rcases hz with h | ⟨b, off, rfl, hc⟩
      · simp [h] at hlt
      have hck := hc k hlt
      have hN2 := fun (h : zs.getD k 0 ≠ x) => hide (fun j (hj : j < k + 1) => if e : j = k then by subst e; exact h else hN.out j (by omega))
      clear hc hyes hno
      generalize zs.getD k 0 = z at *
      by_cases he : z = x
      · have hR : R = true := (hy he).out
        subst hR
        subst he
        clear hN2 hy
        go_wp2
        go_ret
        exact ⟨rfl, rfl⟩
      · have hn := hN2 he
        have he' : (z == x) = false := by simp [he]
        clear hN2 hy
        go_wp2
        go_round
        case rel => exact ⟨k + 1, by omega, by go_num, hn⟩
        case measure => simp [intOf]; omega
    · have hR : R = false := (hno (fun j hj => hN.out j (by omega))).out
      subst hR
      clear hz hyes hno
      go_wp2
      go_ret
      exact ⟨rfl, rfl⟩

set_option maxRecDepth 20000 in
set_option maxHeartbeats 3200000 in
theorem cHoleS (S P : Int) (a : Option Addr) (c : Nat) (hs : List BkV) (s on off : Int) (w : World) (hz : Bks w a hs) (hl : hs.length ≤ 1048576) :
    Calls Try.prog 35 #[.agg #[.int .i64 S, .int .i64 P, .slice a hs.length c], .int .i64 s, .int .i64 on, .int .i64 off] w fun e w' => e = .returned (.int .i64 (holeF S P hs s on off)) ∧ Below w.heap.size w w' := by
  have hW := balloc w (.cells #[.int .i64 S, .int .i64 P, .slice a hs.length c] 26)
  have kt : (w.alloc (.cells #[.int .i64 S, .int .i64 P, .slice a hs.length c] 26)).heap[w.heap.size]? = some (.cells #[.int .i64 S, .int .i64 P, .slice a hs.length c] 26 (0, 0)) := heap_alloc_new w _
  have C := cFreeS S P a c hs on off _ (hz.below hW) hl
  have E : Hid (holeF S P hs s on off = if (freeL S P hs on off).contains s then holeV hs P on off s else 0) := hide (by
    unfold holeF freeL
    cases (trainB S P hs && askB P on off) <;> rfl)
  have hLl : Hid ((freeL S P hs on off).length ≤ 60) := hide (by
    unfold freeL
    split
    · rename_i h
      rw [Bool.and_eq_true] at h
      have := freeK_len hs on off S.toNat
      have := (trainB_iff.1 h.1).s2
      omega
    · simp)
  have hM := hide (show s ∈ freeL S P hs on off → Tr S P hs ∧ 0 ≤ on ∧ on < off ∧ off ≤ P ∧ 0 ≤ s ∧ s < S from fun h => by
    unfold freeL at h
    split at h
    · rename_i hc
      rw [Bool.and_eq_true] at hc
      have hT := trainB_iff.1 hc.1
      obtain ⟨g1, g2, g3⟩ := askB_iff.1 hc.2
      obtain ⟨m1, m2, m3⟩ := freeK_mem.1 h
      exact ⟨hT, g1, g2, g3, m1, by have := hT.s1; omega⟩
    · simp at h)
  generalize holeF S P hs s on off = R at *
  generalize freeL S P hs on off = L at *
  go_enter Try.func35, Try.ntmps35
  go_wp2_with fail
  refine C.mono ?_
  rintro e w1 ⟨v, rfl, ho, hb⟩
  replace kt := blk_keep hb kt
  replace hb := btrans hW hb
  obtain ⟨va, vc, rfl⟩ := own_form ho
  have C2 := cHasS va vc L s w1 (Ints.own ho rfl) (by have := hLl.out; omega)
  clear C ho
  go_wp2_with fail
  refine C2.mono ?_
  rintro e w2 ⟨rfl, rfl⟩
  clear C2
  cases hc : L.contains s
  · rw [hc] at E
    have hR : R = 0 := E.out
    subst hR
    clear hz kt hM
    go_wp2
    go_ret
    exact ⟨rfl, hb⟩
  rw [hc] at E
  obtain ⟨hT, a0, a1, a2, s0, s1⟩ := hM.out (by simpa using hc)
  have p2 := hT.p2
  obtain ⟨n, rfl⟩ : ∃ n : Nat, on = n := ⟨on.toNat, by omega⟩
  obtain ⟨f, rfl⟩ : ∃ n : Nat, off = n := ⟨off.toNat, by omega⟩
  obtain ⟨pp, rfl⟩ : ∃ n : Nat, P = n := ⟨P.toNat, by omega⟩
  have hR : Hid (R = (untilE hs s f pp : Int) - (sinceN hs s n : Int)) := hide E.out
  have CH := fun p V (hV : Below w.heap.size w V) => cHeldS S pp a c hs s p V (hz.below hV) hl hT.f
  have e1 := untilE_le (hs := hs) (s := s) (a := f) (e := pp) (by omega)
  have e2 := sinceN_le hs s n
  clear hM E hc hLl
  go_wp2
  go_loopw [2] (fun x wr => ∃ k : Nat, x = .int .i64 k ∧ k ≤ 11 ∧ Hid (sinceN hs s k = sinceN hs s n) ∧ wr.heap[w.heap.size]? = some (.cells #[.int .i64 S, .int .i64 pp, .slice a hs.length c] 26 (0, 0)) ∧ Below w.heap.size w wr) (fun x _ => (intOf x).toNat)
  case atStart => exact ⟨n, rfl, by omega, hide rfl, kt, hb⟩
  case round =>
    obtain ⟨k, rfl, hk, hu, kr, hbr⟩ := hrel
    clear kt hb
    obtain ⟨⟨b0, b1, b2⟩, -⟩ := blk3 kr
    by_cases hk0 : k = 0
    · have hz0 : Hid (sinceN hs s n = k) := hide (by rw [← hu.out, hk0]; rfl)
      have d2 : ¬ (0 < k) := by omega
      have d2' : ¬ ((0 : Int) < (k : Int)) := by omega
      replace hk0 := hide hk0
      clear hu
      go_wp2
      clear b0 b1 b2
      go_loopw [3] (fun x wr => ∃ m : Nat, x = .int .i64 m ∧ Hid (untilE hs s m pp = untilE hs s f pp) ∧ wr.heap[w.heap.size]? = some (.cells #[.int .i64 S, .int .i64 pp, .slice a hs.length c] 26 (0, 0)) ∧ Below w.heap.size w wr) (fun x _ => pp - (intOf x).toNat)
      case atStart => exact ⟨f, rfl, hide rfl, kr, hbr⟩
      case round =>
        obtain ⟨m, rfl, hv, kr, hbr⟩ := hrel
        obtain ⟨⟨b0, b1, b2⟩, -⟩ := blk3 kr
        by_cases hlt : m < pp
        · have C3 := CH (m : Int) wr hbr
          have hlt' : (m : Int) < (pp : Int) := by omega
          go_wp2_with fail
          refine C3.mono ?_
          rintro e w4 ⟨rfl, hb4⟩
          have kr4 := blk_keep hb4 kr
          have hbr4 := btrans hbr hb4
          clear C3 hb4 kr hbr b0 b1 b2
          cases hh : heldB hs s (m : Int)
          · have hv2 := hide ((untilE_go (e := pp) hlt hh).symm.trans hv.out)
            clear hv
            go_wp2
            go_roundw
            case rel => exact ⟨m + 1, by go_num, hv2, kr4, hbr4⟩
            case measure => simp [intOf]; omega
          · have hv2 := hide (hv.out.symm.trans (untilE_stop (e := pp) hh))
            have hwr : IntKind.i64.wrap ((m : Int) - (k : Int)) = (m : Int) - (k : Int) := wrap_in _ (by omega) (by omega)
            clear hv
            go_wp2
            go_ret
            exact ⟨ret_int (by rw [hR.out, hv2.out, hz0.out]), hbr4⟩
        · have hv2 := hide (hv.out.symm.trans (untilE_end (by omega)))
          have hk2 := hv2.out
          have hwr : IntKind.i64.wrap ((m : Int) - (k : Int)) = (m : Int) - (k : Int) := wrap_in _ (by omega) (by omega)
          clear hv hk2
          go_wp2
          go_ret
          exact ⟨ret_int (by rw [hR.out, hv2.out, hz0.out]), hbr⟩
    · obtain ⟨q, hkq⟩ : ∃ q, k = q + 1 := ⟨k - 1, by omega⟩
      have C3 := CH (q : Int) wr hbr
      have d2 : 0 < k := by omega
      have d2' : (0 : Int) < (k : Int) := by omega
      have d3 : IntKind.i64.wrap ((k : Int) - 1) = (q : Int) := by rw [wrap_in _ (by omega) (by omega)]; omega
      have d4 : (k : Int) - 1 = (q : Int) := by omega
      have hq10 : q ≤ 10 := by omega
      replace hkq := hide hkq
      clear hk0
      go_wp2_with fail
      refine C3.mono ?_
      rintro e w4 ⟨rfl, hb4⟩
      have kr4 := blk_keep hb4 kr
      have hbr4 := btrans hbr hb4
      clear C3 hb4 kr hbr b0 b1 b2
      cases hh : heldB hs s (q : Int)
      · have hu2 := hide ((show sinceN hs s q = sinceN hs s k by rw [hkq.out]; simp [sinceN, hh]).trans hu.out)
        clear hu
        go_wp2
        go_roundw
        case rel => exact ⟨q, by go_num, by omega, hu2, kr4, hbr4⟩
        case measure => have := hkq.out; simp [intOf]; omega
      · have hz0 : Hid (sinceN hs s n = k) := hide (by rw [← hu.out, hkq.out]; simp [sinceN, hh])
        obtain ⟨⟨b0, b1, b2⟩, -⟩ := blk3 kr4
        clear hu
        go_wp2
        clear b0 b1 b2
        go_loopw [3] (fun x wr => ∃ m : Nat, x = .int .i64 m ∧ Hid (untilE hs s m pp = untilE hs s f pp) ∧ wr.heap[w.heap.size]? = some (.cells #[.int .i64 S, .int .i64 pp, .slice a hs.length c] 26 (0, 0)) ∧ Below w.heap.size w wr) (fun x _ => pp - (intOf x).toNat)
        case atStart => exact ⟨f, rfl, hide rfl, kr4, hbr4⟩
        case round =>
          obtain ⟨m, rfl, hv, kr, hbr⟩ := hrel
          obtain ⟨⟨b0, b1, b2⟩, -⟩ := blk3 kr
          by_cases hlt : m < pp
          · have C3 := CH (m : Int) wr hbr
            have hlt' : (m : Int) < (pp : Int) := by omega
            go_wp2_with fail
            refine C3.mono ?_
            rintro e w4 ⟨rfl, hb4⟩
            have kr4 := blk_keep hb4 kr
            have hbr4 := btrans hbr hb4
            clear C3 hb4 kr hbr b0 b1 b2
            cases hh : heldB hs s (m : Int)
            · have hv2 := hide ((untilE_go (e := pp) hlt hh).symm.trans hv.out)
              clear hv
              go_wp2
              go_roundw
              case rel => exact ⟨m + 1, by go_num, hv2, kr4, hbr4⟩
              case measure => simp [intOf]; omega
            · have hv2 := hide (hv.out.symm.trans (untilE_stop (e := pp) hh))
              have hwr : IntKind.i64.wrap ((m : Int) - (k : Int)) = (m : Int) - (k : Int) := wrap_in _ (by omega) (by omega)
              clear hv
              go_wp2
              go_ret
              exact ⟨ret_int (by rw [hR.out, hv2.out, hz0.out]), hbr4⟩
          · have hv2 := hide (hv.out.symm.trans (untilE_end (by omega)))
            have hk2 := hv2.out
            have hwr : IntKind.i64.wrap ((m : Int) - (k : Int)) = (m : Int) - (k : Int) := wrap_in _ (by omega) (by omega)
            clear hv hk2
            go_wp2
            go_ret
            exact ⟨ret_int (by rw [hR.out, hv2.out, hz0.out]), hbr⟩
end Go.Proofs.Ytgnlcehpajbnoaa
