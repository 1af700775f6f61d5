/- The model: Spread. -/
import Derived.Test.YtgnlcehpajbnoaaMY
import Derived.Deep.RegionHeld3
import Derived.Deep.AppendLies
namespace Go.Proofs.Ytgnlcehpajbnoaa
open Go.RowKit Go.Lib
theorem farF_no (hs : List BkV) (p e : Nat) : ∀ k, (farF hs p e k).2 = p → (farF hs p e k).1 = -1
  | 0, _ => rfl
  | k + 1, h => by
    unfold farF at h ⊢
    split
    · rename_i hc
      rw [if_pos hc] at h
      have := farF_ge hs p e k
      dsimp only at h
      omega
    · rename_i hc
      rw [if_neg hc] at h
      exact farF_no hs p e k h

set_option maxRecDepth 20000 in
set_option maxHeartbeats 12800000 in
theorem cSpreadS (S P : Int) (a : Option Addr) (c : Nat) (hs : List BkV) (on off : Int) (w : World) (hz : Bks w a hs) (hl : hs.length ≤ 1048576) :
    Calls Try.prog 25 #[.agg #[.int .i64 S, .int .i64 P, .slice a hs.length c], .int .i64 on, .int .i64 off] w fun e w' => ∃ v, e = .returned v ∧ w'.ownsRow w.heap.size 3 1 v (spreadV S P hs on off).length ((spreadV S P hs on off).map (Value.int .i64)) ∧ Below w.heap.size w w' := by
  obtain ⟨i0, hi, hi0, hi1, hi2⟩ := info_parts infoInts
  have hW := balloc w (.cells #[.int .i64 S, .int .i64 P, .slice a hs.length c] 26)
  have kt : (w.alloc (.cells #[.int .i64 S, .int .i64 P, .slice a hs.length c] 26)).heap[w.heap.size]? = some (.cells #[.int .i64 S, .int .i64 P, .slice a hs.length c] 26 (0, 0)) := heap_alloc_new w _
  have C := cAskS S P a c hs on off _ (hz.below hW) hl
  have E : Hid (spreadV S P hs on off = if trainB S P hs && askB P on off then (spreadF hs S.toNat off.toNat (off - on).toNat on.toNat).getD [] else []) := hide rfl
  have hP := hide (show (trainB S P hs && askB P on off) = true → Tr S P hs ∧ 0 ≤ on ∧ on < off ∧ off ≤ P from fun h => by
    rw [Bool.and_eq_true] at h
    exact ⟨trainB_iff.1 h.1, askB_iff.1 h.2⟩)
  generalize (trainB S P hs && askB P on off) = T at *
  generalize spreadV S P hs on off = L at *
  go_enter Try.func25, Try.ntmps25
  go_wp2_with fail
  refine C.mono ?_
  rintro e w1 ⟨rfl, hb⟩
  replace kt := blk_keep hb kt
  replace hb := btrans hW hb
  clear C
  cases T
  · have hL : L = [] := E.out
    subst hL
    clear hz kt hP
    go_wp2
    go_ret
    exact ⟨_, rfl, World.ownsRow_nil _ _ _ _, hb⟩
  obtain ⟨hT, a0, a1, a2⟩ := hP.out rfl
  have s1 := hT.s1
  have s2 := hT.s2
  have p2 := hT.p2
  obtain ⟨N, rfl⟩ : ∃ N : Nat, S = N := ⟨S.toNat, by omega⟩
  obtain ⟨n, rfl⟩ : ∃ n : Nat, on = n := ⟨on.toNat, by omega⟩
  obtain ⟨f, rfl⟩ : ∃ n : Nat, off = n := ⟨off.toNat, by omega⟩
  have hE : Hid (L = (spreadF hs N f (f - n) n).getD []) := hide (by
    have := E.out
    rw [show ((f : Int) - (n : Int)).toNat = f - n by omega] at this
    exact this)
  obtain ⟨tot, htot⟩ : ∃ tot, tot = spreadF hs N f (f - n) n := ⟨_, rfl⟩
  rw [← htot] at hE
  have hst : Hid (SpInv hs N f tot n []) := hide (by rw [htot]; exact SpInv.start hs N f n)
  have CH := fun s p V (hV : Below w.heap.size w V) => cHeldS N P a c hs s p V (hz.below hV) hl hT.f
  have hO := World.ownsRow_made (base := w.heap.size) (e := 3) (size := 1) w1 #[] 0 hb.size (by unfold maxLen; omega) rfl
  have HB1 := btrans hb (balloc w1 (.cells #[] 3))
  replace kt := blk_keep (balloc w1 (.cells #[] 3)) kt
  clear hP E hb htot
  go_wp2
  generalize w1.alloc (.cells #[] 3) = W1 at *
  go_loopw [7, 8] (fun v x wr => ∃ p : Nat, ∃ out : List Int, x = .int .i64 p ∧ n ≤ p ∧ p ≤ f ∧ Hid (out.length + n = p) ∧ wr.ownsRow w.heap.size 3 1 v out.length (out.map (Value.int .i64)) ∧ wr.heap[w.heap.size]? = some (.cells #[.int .i64 N, .int .i64 P, .slice a hs.length c] 26 (0, 0)) ∧ Below w.heap.size w wr ∧ Hid (SpInv hs N f tot p out)) (fun _ x _ => f - (intOf x).toNat)
  case atStart => exact ⟨n, [], rfl, Nat.le_refl _, by omega, hide (by simp), by simpa using hO, kt, HB1, hst⟩
  case round =>
    obtain ⟨p, out, rfl, hp1, hp2, hlen, ho, kr, hbr, hS⟩ := hrel
    clear hO kt HB1 hst
    obtain ⟨va, vc, rfl⟩ := own_form ho
    by_cases hlt : p < f
    rotate_left
    · obtain rfl : p = f := by omega
      have hL : Hid (L = out) := hide (by rw [hE.out, hS.out.done (Nat.le_refl _)]; rfl)
      clear CH hz kr hE hS
      go_wp2
      go_ret
      exact ⟨_, rfl, by rw [hL.out]; exact ho, hbr⟩
    have hlt' : (p : Int) < (f : Int) := by omega
    obtain ⟨wo, rfl⟩ : ∃ wo, wo = wr := ⟨wr, rfl⟩
    go_wp2
    go_loopw [9, 10, 11] (fun x y z wr => ∃ k : Nat, z = .int .i64 k ∧ k ≤ N ∧ x = .int .i64 (farF hs p f k).1 ∧ y = .int .i64 ((farF hs p f k).2 - p : Nat) ∧ Below wo.heap.size wo wr) (fun _ _ z _ => N - (intOf z).toNat)
    case atStart => exact ⟨0, rfl, Nat.zero_le _, rfl, by simp [farF], Below.refl _ _⟩
    case round =>
      obtain ⟨k, rfl, hk, rfl, rfl, hbq⟩ := hrel
      obtain ⟨⟨b0, b1, b2⟩, -⟩ := blk3 (blk_keep hbq kr)
      have hge := farF_ge hs p f k
      have hle := farF_le (hs := hs) (p := p) (e := f) (by omega) k
      by_cases hkN : k < N
      · obtain ⟨wi, rfl⟩ : ∃ wi, wi = wr := ⟨wr, rfl⟩
        have hyes := fun (h : (farF hs p f k).2 < untilE hs (k : Int) p f) => hide (show farF hs p f (k + 1) = ((k : Int), untilE hs (k : Int) p f) by rw [farF, if_pos h])
        have hno := fun (h : ¬ (farF hs p f k).2 < untilE hs (k : Int) p f) => hide (show farF hs p f (k + 1) = farF hs p f k by rw [farF, if_neg h])
        have hkr := blk_keep hbq kr
        have hug := untilE_ge hs (k : Int) p f
        have hul := untilE_le (hs := hs) (s := (k : Int)) (a := p) (e := f) (by omega)
        generalize farF hs p f k = fk at *
        obtain ⟨fb, fe⟩ := fk
        dsimp only at *
        obtain ⟨d, hd⟩ : ∃ d, d = fe - p := ⟨_, rfl⟩
        rw [← hd]
        replace hd := hide hd
        go_wp2
        go_loopw [12] (fun y wr => ∃ m : Nat, y = .int .i64 m ∧ p + m ≤ f ∧ Hid (untilE hs (k : Int) (p + m) f = untilE hs (k : Int) p f) ∧ Below wi.heap.size wi wr) (fun y _ => f - (intOf y).toNat)
        case atStart => exact ⟨0, rfl, by omega, hide rfl, Below.refl _ _⟩
        case round =>
          obtain ⟨m, rfl, hm, hu, hbi⟩ := hrel
          have hbw := btrans hbr (btrans hbq hbi)
          obtain ⟨⟨c0, c1, c2⟩, -⟩ := blk3 (blk_keep hbi hkr)
          have hwm : IntKind.i64.wrap ((p : Int) + (m : Int)) = ((p + m : Nat) : Int) := by rw [wrap_in _ (by omega) (by omega)]; omega
          have hpm : (p : Int) + (m : Int) = ((p + m : Nat) : Int) := by omega
          obtain ⟨q, hq⟩ : ∃ q, q = p + m := ⟨_, rfl⟩
          rw [← hq] at hwm hpm hu hm
          replace hq := hide hq
          clear b0 b1 b2
          have hfinish : ∀ (U : Nat), U = q → Hid (untilE hs (k : Int) p f = U) → Hid ((d < m → farF hs p f (k + 1) = ((k : Int), U) ∧ U - p = m) ∧ (¬ d < m → farF hs p f (k + 1) = (fb, fe) ∧ fe - p = d)) := fun U hU h1 => hide (by
            have h2 := h1.out
            have h3 := hd.out
            have h4 := hq.out
            constructor
            · intro hdm
              have := (hyes (by omega)).out
              rw [h2] at this
              exact ⟨this, by omega⟩
            · intro hdm
              exact ⟨(hno (by omega)).out, by omega⟩)
          by_cases hqf : q < f
          · have hqf' : (q : Int) < (f : Int) := by omega
            have C2 := CH (k : Int) (q : Int) wr hbw
            go_wp2_with fail
            refine C2.mono ?_
            rintro e w5 ⟨rfl, hb5⟩
            have hb6 := btrans hbi hb5
            clear C2 hb5 c0 c1 c2
            cases hh : heldB hs (k : Int) (q : Int)
            · have hu2 : Hid (untilE hs (k : Int) (p + (m + 1)) f = untilE hs (k : Int) p f) := hide (by
                rw [← hu.out, untilE_go hqf hh, hq.out]; rfl)
              clear hfinish hu hh hyes hno
              go_wp2
              go_roundw
              case rel => exact ⟨m + 1, by go_num, by have := hq.out; omega, hu2, hb6⟩
              case measure => have := hq.out; simp [intOf]; omega
            · have hF := hfinish q rfl (hide (hu.out.symm.trans (untilE_stop (e := f) hh)))
              have hbE := btrans hbq hb6
              clear hfinish hu hh hyes hno hbi hb6 CH
              by_cases hdm : d < m
              · have hdm' : (d : Int) < (m : Int) := by omega
                obtain ⟨r1, r2⟩ := hF.out.1 hdm
                clear hF
                go_wp2
                go_roundw
                case rel => exact ⟨k + 1, by go_num, by omega, by rw [r1], by rw [r1, ← r2], hbE⟩
                case measure => simp [intOf]; omega
              · have hdm' : ¬ (d : Int) < (m : Int) := by omega
                obtain ⟨r1, r2⟩ := hF.out.2 hdm
                clear hF
                go_wp2
                go_roundw
                case rel => exact ⟨k + 1, by go_num, by omega, by rw [r1], by rw [r1, ← r2], hbE⟩
                case measure => simp [intOf]; omega
          · have hF := hfinish q rfl (hide (hu.out.symm.trans (untilE_end (by omega))))
            have hqf' : ¬ (q : Int) < (f : Int) := by omega
            have hbE := btrans hbq hbi
            clear hfinish hu hyes hno CH
            by_cases hdm : d < m
            · have hdm' : (d : Int) < (m : Int) := by omega
              obtain ⟨r1, r2⟩ := hF.out.1 hdm
              clear hF
              go_wp2
              go_roundw
              case rel => exact ⟨k + 1, by go_num, by omega, by rw [r1], by rw [r1, ← r2], hbE⟩
              case measure => simp [intOf]; omega
            · have hdm' : ¬ (d : Int) < (m : Int) := by omega
              obtain ⟨r1, r2⟩ := hF.out.2 hdm
              clear hF
              go_wp2
              go_roundw
              case rel => exact ⟨k + 1, by go_num, by omega, by rw [r1], by rw [r1, ← r2], hbE⟩
              case measure => simp [intOf]; omega
      · obtain rfl : k = N := by omega
        have hnone := fun h => hide (hS.out.none hlt h)
        have hstep := fun h => hide (hS.out.step hlt h)
        have hfn := fun h => hide (farF_no hs p f k h)
        have hfi := fun h => hide (farF_is hs p f k h)
        have hol : out.length ≤ 11 := by have := hlen.out; omega
        have kr2 := blk_keep hbq kr
        have ho2 := own_keep ho hbq
        have hb2 := btrans hbr hbq
        generalize farF hs p f k = ff at *
        obtain ⟨fb, fe⟩ := ff
        dsimp only at *
        by_cases hfe : fe = p
        · have hL : Hid (L = []) := hide (by rw [hE.out, (hnone hfe).out]; rfl)
          have hfb : fb = -1 := (hfn hfe).out
          subst hfb
          clear hnone hstep hfn hfi hS CH hz ho ho2 kr kr2
          go_wp2
          go_ret
          exact ⟨_, rfl, by rw [hL.out]; exact World.ownsRow_nil _ _ _ _, hb2⟩
        have hS2 := hstep hfe
        have hfb := (hfi (by omega)).out.1
        have hfb' : ¬ fb < 0 := by omega
        obtain ⟨m, hm⟩ : ∃ m, m = fe - p := ⟨_, rfl⟩
        rw [← hm] at hS2
        rw [← hm]
        have hmf : fe = p + m := by omega
        have hm1 : 1 ≤ m := by omega
        replace hm := hide hm
        replace hmf := hide hmf
        have hm11 : m ≤ 11 := by have := hmf.out; omega
        clear hnone hstep hfn hfi hS ho kr hbr hbq
        obtain ⟨wj, rfl⟩ : ∃ wj, wj = wr := ⟨wr, rfl⟩
        go_wp2
        go_loopw [7, 13] (fun v y wr => ∃ j : Nat, y = .int .i64 j ∧ j ≤ m ∧ wr.ownsRow w.heap.size 3 1 v (out.length + j) ((out ++ List.replicate j fb).map (Value.int .i64)) ∧ wr.heap[w.heap.size]? = some (.cells #[.int .i64 k, .int .i64 P, .slice a hs.length c] 26 (0, 0)) ∧ Below w.heap.size w wr) (fun _ y _ => m - (intOf y).toNat)
        case atStart => exact ⟨0, rfl, Nat.zero_le _, by simpa using ho2, kr2, hb2⟩
        case round =>
          obtain ⟨j, rfl, hj, ho3, kr3, hb3⟩ := hrel
          obtain ⟨va3, vc3, rfl⟩ := own_form ho3
          by_cases hjm : j < m
          · have hbx := balloc wr (.cells #[.int .i64 fb] 3)
            have ho4 := own_keep ho3 hbx
            have hb4 := btrans hb3 hbx
            have kr4 := blk_keep hbx kr3
            have hjm' : (j : Int) < (m : Int) := by omega
            obtain ⟨on2, hon2⟩ : ∃ l, l = out.length + j := ⟨_, rfl⟩
            rw [← hon2] at ho4
            have hle2 : on2 ≤ 22 := by omega
            rw [← hon2]
            replace hon2 := hide hon2
            clear hbx
            go_wp2_with (at_builtin; refine wpList_append_own _ rfl _ _ 30 rfl w.heap.size 3 i0 _ 1 8 Try.underlying30 hi hi0 hi1 hi2 rfl (by decide) _ _ _ rfl ho4 ⟨wr.heap.size, 0, none⟩ 1 1 [.int .i64 fb] rfl rfl (World.news_of_block (heap_alloc_new wr _)) (by simp [Value.oneCell']) (by unfold maxLen; omega) (by omega) (by have := hb3.size; simp; omega) ?_)
            intro v5 w5 hown hgrow _
            have hb5 := hb4.grown hgrow hb4.size (own_from ho4 (Nat.le_refl _))
            have kr5 := blk_app ho4 hgrow kr4 (by decide)
            have hown2 : w5.ownsRow w.heap.size 3 1 v5 (out.length + (j + 1)) ((out ++ List.replicate (j + 1) fb).map (Value.int .i64)) := by
              have e : (out ++ List.replicate (j + 1) fb).map (Value.int .i64) = (out ++ List.replicate j fb).map (Value.int .i64) ++ [Value.int .i64 fb] := by
                rw [List.replicate_succ']; simp
              rw [e, show out.length + (j + 1) = on2 + 1 by rw [hon2.out]; omega]
              simpa using hown
            clear hgrow hown ho4 hb4 kr4 ho3 kr3 hb3
            go_wp2
            go_roundw
            case rel => exact ⟨j + 1, by go_num, by omega, hown2, kr5, hb5⟩
            case measure => simp [intOf]; omega
          · obtain rfl : j = m := by omega
            have hown2 : wr.ownsRow w.heap.size 3 1 (.slice va3 (out.length + j) vc3) (out ++ List.replicate j fb).length ((out ++ List.replicate j fb).map (Value.int .i64)) := by simpa using ho3
            have hlen2 : Hid ((out ++ List.replicate j fb).length + n = p + j) := hide (by have := hlen.out; simp; omega)
            have hwp : IntKind.i64.wrap ((p : Int) + (j : Int)) = (p : Int) + (j : Int) := wrap_in _ (by omega) (by omega)
            rw [hmf.out] at hS2
            have hjf : p + j ≤ f := by have := hmf.out; omega
            clear ho3 ho2 hmf hm
            go_wp2
            go_roundw
            case rel => exact ⟨p + j, _, by go_num, by omega, hjf, hlen2, hown2, kr3, hb3, hS2⟩
            case measure => simp [intOf]; omega
end Go.Proofs.Ytgnlcehpajbnoaa
