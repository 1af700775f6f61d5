/- The program: Spread and PlaySales. -/
import Derived.Test.YtgnlcehpajbnoaaCL
import Derived.Deep.RegionHeld3
import Derived.Deep.AppendLies
namespace Go.Proofs.Ytgnlcehpajbnoaa
open Go.RowKit Go.Lib

set_option maxRecDepth 20000 in
set_option maxHeartbeats 3200000 in
theorem cSpreadI (S P : Int) (a : Option Addr) (c : Nat) (hs : List BkV) (on off : Int) (w : World) (hz : Bks w a hs) (hl : hs.length ≤ 1048576) :
    Calls Try.prog 23 #[.agg #[.int .i64 S, .int .i64 P, .slice a hs.length c], .int .i64 on, .int .i64 off] w fun e w' => ∃ v, e = .returned v ∧ w'.ownsRow w.heap.size 3 1 v (spreadV S P hs on off).length ((spreadV S P hs on off).map (Value.int .i64)) ∧ Below w.heap.size w w' := by
  have hW := balloc w (.cells #[.int .i64 S, .int .i64 P, .slice a hs.length c] 26)
  have C := cBookOf S P a c hs _ (hz.below hW) hl
  have E : Hid (spreadV S P hs on off = if trainB S P hs && askB P on off then (spreadF hs S.toNat off.toNat (off - on).toNat on.toNat).getD [] else []) := hide rfl
  obtain ⟨i0, hi, hi0, hi1, hi2⟩ := info_parts infoInts
  generalize spreadV S P hs on off = L at *
  go_enter Try.func23, Try.ntmps23
  go_wp2_with fail
  refine C.mono ?_
  rintro e w1 ⟨b, gh, rfl, -, hb, hbk⟩
  replace hb := btrans hW hb
  clear C
  cases ht : trainB S P hs
  · rw [ht] at E
    clear hbk
    have hL : L = [] := E.out
    subst hL
    go_wp2
    go_ret
    exact ⟨_, rfl, World.ownsRow_nil _ _ _ _, hb⟩
  obtain ⟨gs, HB⟩ := hbk ht
  obtain ⟨eN, hT⟩ := trainB_N ht
  have hp11 := hT.p2
  have h60 : S.toNat ≤ 60 := by have := hT.s2; omega
  have C2 := cRide _ b S.toNat P gh hs.length hs gs hs on off w1 HB
  clear hbk
  rw [ht] at E
  go_wp2_with fail
  refine C2.mono ?_
  rintro e w2 ⟨rfl, rfl⟩
  clear C2
  cases hask : askB P on off
  · rw [hask] at E
    have hL : L = [] := E.out
    subst hL
    clear HB
    go_wp2
    go_ret
    exact ⟨_, rfl, World.ownsRow_nil _ _ _ _, hb⟩
  rw [hask] at E
  obtain ⟨a0, a1, a2⟩ := askB_iff.1 hask
  obtain ⟨n, rfl⟩ : ∃ n : Nat, on = n := ⟨on.toNat, by omega⟩
  obtain ⟨f, rfl⟩ : ∃ n : Nat, off = n := ⟨off.toNat, by omega⟩
  have hE : Hid (L = (spreadF hs S.toNat f (f - n) n).getD []) := hide (by
    have := E.out
    rw [show ((f : Int) - (n : Int)).toNat = f - n by omega] at this
    exact this)
  obtain ⟨tot, htot⟩ : ∃ tot, tot = spreadF hs S.toNat f (f - n) n := ⟨_, rfl⟩
  rw [← htot] at hE
  have hst : Hid (SpInv hs S.toNat f tot n []) := hide (by rw [htot]; exact SpInv.start hs S.toNat f n)
  clear E htot hask
  go_wp2
  go_loopw [9, 10] (fun v x wr => ∃ p : Nat, ∃ out : List Int, x = .int .i64 p ∧ n ≤ p ∧ p ≤ f ∧ Hid (out.length + n = p) ∧ wr.ownsRow w2.heap.size 3 1 v out.length (out.map (Value.int .i64)) ∧ Below w2.heap.size w2 wr ∧ Hid (SpInv hs S.toNat f tot p out)) (fun _ x _ => f - (intOf x).toNat)
  case atStart => exact ⟨n, [], rfl, Nat.le_refl _, by omega, hide (by simp), World.ownsRow_nil _ _ _ _, Below.refl _ _, hst⟩
  case round =>
    obtain ⟨p, out, rfl, hp1, hp2, hlen, ho, hbr, hS⟩ := hrel
    obtain ⟨va, vc, rfl⟩ := own_form ho
    by_cases hlt : p < f
    · have C3 := cFar _ b S.toNat P gh hs.length hs gs hs p f wr (HB.below hbr) h60 (by omega)
      have hge := farF_ge hs p f S.toNat
      have hle := farF_le (hs := hs) (p := p) (e := f) (by omega) S.toNat
      have hnone := fun h => hide (hS.out.none hlt h)
      have hstep := fun h => hide (hS.out.step hlt h)
      have hol : out.length ≤ 11 := by have := hlen.out; omega
      have hww : w.heap.size ≤ wr.heap.size := Nat.le_trans hb.size hbr.size
      generalize farF hs p f S.toNat = ff at *
      obtain ⟨fb, fe⟩ := ff
      dsimp only at *
      go_wp2_with fail
      refine C3.mono ?_
      rintro e w3 ⟨rfl, hb3⟩
      clear C3
      have ho3 := own_keep ho hb3
      have hbr3 := btrans hbr hb3
      by_cases hfe : fe = p
      · have hN := hnone hfe
        have hL : Hid (L = []) := hide (by rw [hE.out, hN.out]; rfl)
        have hbF := btrans hb hbr3
        subst hfe
        clear hstep hnone ho ho3 hbr hbr3 hb3
        go_wp2
        go_ret
        exact ⟨_, rfl, by rw [hL.out]; exact World.ownsRow_nil _ _ _ _, hbF⟩
      · have hS2 := hstep hfe
        obtain ⟨m, hm⟩ : ∃ m, fe = p + m := ⟨fe - p, by omega⟩
        have hfp : fe - p = m := by omega
        rw [hfp] at hS2
        have hA := balloc w3 (.cells #[.int .i64 fb] 3)
        have hcA : (w3.alloc (.cells #[.int .i64 fb] 3)).cell? ⟨w3.heap.size, 0, none⟩ = some (.int .i64 fb) := by simp
        have C4 := cRep w3.heap.size fb m (by omega) (by omega) _ hcA
        have hne : ¬ ((fe : Int) = (p : Int)) := by omega
        have hsub : IntKind.i64.wrap ((fe : Int) - (p : Int)) = (m : Int) := by rw [wrap_in _ (by omega) (by omega)]; omega
        have hsub2 : (fe : Int) - (p : Int) = (m : Int) := by omega
        replace hm := hide hm
        replace hfe := hide hfe
        have hm11 : m ≤ 11 := by omega
        clear hnone hstep hfp hge ho hbr hb3 hS
        go_wp2_with fail
        refine C4.mono ?_
        rintro e w4 ⟨g, rfl, hg4, hgs, hb4⟩
        replace hb4 := btrans hA hb4
        have ho4 := own_keep ho3 hb4
        have hbr4 := btrans hbr3 hb4
        clear C4 hcA hA ho3 hb4
        go_wp2_with (at_builtin; refine wpList_append_own _ rfl _ _ 30 rfl w2.heap.size 3 i0 _ 1 8 Try.underlying30 hi hi0 hi1 hi2 rfl (by decide) _ _ _ rfl ho4 ⟨g, 0, none⟩ m m (List.replicate m (.int .i64 fb)) rfl (by simp) ?c1 ?c2 ?c3 ?c4 ?c5 ?_)
        case c1 => exact World.news_of_block hg4
        case c2 => intro u hu; rw [List.eq_of_mem_replicate hu]; rfl
        case c3 => unfold maxLen; omega
        case c4 => omega
        case c5 => exact hbr4.size
        intro v2 w5 hown hgrow _
        have hbF := hbr4.grown hgrow hbr4.size (own_from ho4 (Nat.le_refl _))
        have hown2 : w5.ownsRow w2.heap.size 3 1 v2 (out ++ List.replicate m fb).length ((out ++ List.replicate m fb).map (Value.int .i64)) := by
          simpa using hown
        have hlen2 : Hid ((out ++ List.replicate m fb).length + n = fe) := hide (by have := hlen.out; have := hm.out; simp; omega)
        clear hgrow hown ho4 hbr4
        go_wp2
        go_roundw
        case rel => exact ⟨fe, _, rfl, by have := hm.out; omega, hle, hlen2, hown2, hbF, hS2⟩
        case measure => have := hm.out; have := hfe.out; simp [intOf]; omega
    · obtain rfl : p = f := by omega
      have hL : Hid (L = out) := hide (by rw [hE.out, hS.out.done (Nat.le_refl _)]; rfl)
      have ho2 := Go.Joins.ownsRow_le ho (base' := w.heap.size) hb.size
      have hbF := btrans hb hbr
      clear HB ho hbr hS hst hE
      go_wp2
      go_ret
      exact ⟨_, rfl, by rw [hL.out]; exact ho2, hbF⟩
end Go.Proofs.Ytgnlcehpajbnoaa
