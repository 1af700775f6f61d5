/- Taking back, one sale. -/
import Derived.Test.YtgnlcehpajbnoaaCH
import Derived.Deep.RegionHeld3
namespace Go.Proofs.Ytgnlcehpajbnoaa
open Go.RowKit Go.Lib
theorem pl_len {hs : List BkV} {p : Nat} (hp : p < hs.length) : (hs.take p ++ hs.drop (p + 1)).length = hs.length - 1 := by simp; omega

set_option maxRecDepth 20000 in
set_option maxHeartbeats 3200000 in
theorem cBack (B b : Nat) (N : Nat) (P : Int) (gh ch : Nat) (hs : List BkV) (gs : Nat) (id : Int) (w : World) (hB : Bk w B b N P gh ch hs gs hs) (hT : Tr N P hs) :
    Calls Try.prog 52 #[.pointer (some ⟨b, 0, none⟩), .int .i64 id] w (SellP w B b N P gs (unbV hs id) (.bool (hasI hs id))) := by
  have hBw : B ≤ w.heap.size := by have := lt_of_block hB.blk; have := hB.bB; omega
  have h60 : N ≤ 60 := by have := hT.s2; omega
  have h1N : 1 ≤ N := by have := hT.s1; omega
  have hln := hT.len
  have hp11 := hT.p2
  have CF := cFind B b N P gh ch hs gs hs id w hB hT.rt.asc hT.len
  go_enter Try.func52, Try.ntmps52
  go_wp2_with fail
  refine CF.mono ?_
  rintro e w1 ⟨p, rfl, hp, hb1⟩
  clear CF
  replace hp := hide hp
  have H1 := hB.below hb1
  have hpt := hide (pl_there hp.out hT.rt.asc)
  cases hh : hasI hs id
  · have hF : Hid (SellP w B b N P gs (unbV hs id) (.bool (hasI hs id)) (.returned (.bool false)) w1) := hide ⟨gh, ch, by rw [hh], by rw [unbV_no hh]; exact H1, KpT.of_below hb1, hb1.mono hBw⟩
    clear hB H1 hpt
    go_wp2
    go_ret
    exact hF.out
  obtain ⟨hpl, hpi⟩ := hpt.out.1 (hasI_iff.1 hh)
  have hout := hide (out_pl hT.rt.asc hpl hpi)
  have hul : (unbV hs id).length = hs.length - 1 := by unfold unbV; rw [← hout.out, pl_len hpl]
  have hRt : rtB N P (unbV hs id) = true := rtB_iff.2 (hT.out id).rt
  obtain ⟨c0, c1, c2, c3⟩ := H1.cells
  have CD := cDel B gh ch hs.length p (flatBks hs) w1 H1.held (by omega) hpl (flatBks_one hs)
  rw [flat_take, flat_drop, ← flatBks_app, hout.out] at CD
  replace hul := hide hul
  have hFin : Hid (∀ w2, w2.ownsRow B 78 4 (.slice (some ⟨gh, 0, none⟩) (hs.length - 1) ch) (hs.length - 1) (flatBks (unbV hs id)) → w1.grownBy w2 (some gh) →
      Bk (w2.setCell ⟨b, 2, none⟩ (.slice (some ⟨gh, 0, none⟩) (hs.length - 1) ch)) B b N P gh ch (unbV hs id) gs hs ∧ KpT w (w2.setCell ⟨b, 2, none⟩ (.slice (some ⟨gh, 0, none⟩) (hs.length - 1) ch)) ∧ Below B w (w2.setCell ⟨b, 2, none⟩ (.slice (some ⟨gh, 0, none⟩) (hs.length - 1) ch)) ∧ w2.cell? ⟨b, 2, none⟩ = some (.slice (some ⟨gh, 0, none⟩) hs.length ch) ∧ w2.frozen? ⟨b, 2, none⟩ = false) := hide (fun w2 hO hG => by
    rw [← hul.out] at hO ⊢
    obtain ⟨u1, u2, u3, u4, u5⟩ := H1.upd hG hO
    exact ⟨u1, (KpT.of_below hb1).trans u2, (hb1.mono hBw).trans u5, u3, u4⟩)
  clear c0 c1 c3 hpt hout hB
  have hTl := (hT.out id).len
  have hw1 : IntKind.i64.wrap ((p : Int) + 1) = (p : Int) + 1 := wrap_in _ (by omega) (by omega)
  have CD' : Calls Try.prog 81 #[.slice (some ⟨gh, 0, none⟩) hs.length ch, .int .i64 p, .int .i64 ((p : Int) + 1)] w1 fun e w' => e = .returned (.slice (some ⟨gh, 0, none⟩) (hs.length - 1) ch) ∧ w'.ownsRow B 78 4 (.slice (some ⟨gh, 0, none⟩) (hs.length - 1) ch) (hs.length - 1) (flatBks (unbV hs id)) ∧ w1.grownBy w' (some gh) := CD
  clear CD H1
  go_wp2_with fail
  refine CD'.mono ?_
  rintro e w2 ⟨rfl, hO, hG⟩
  obtain ⟨U1, U2, U3, z0, z1⟩ := hFin.out w2 hO hG
  clear CD' hFin hO hG c2
  go_wp2_with fail
  generalize w2.setCell ⟨b, 2, none⟩ (.slice (some ⟨gh, 0, none⟩) (hs.length - 1) ch) = w3 at *
  have CW := cWrite B b N P gh ch (unbV hs id) gs hs w3 U1 h1N h60 hp11 hTl
  refine CW.mono ?_
  rintro e w4 ⟨rfl, hg4, es, H4, he4⟩
  have := he4 hRt
  subst this
  have hF : Hid (SellP w B b N P gs (unbV hs id) (.bool (hasI hs id)) (.returned (.bool true)) w4) := hide ⟨gh, ch, by rw [hh], H4, U2.trans (KpT.grow hg4 U1.seats (.inr (.inr rfl))), U3.trans ⟨hg4.os, hg4.tape, hg4.output, hg4.size, fun k hk => hg4.block k (by have := U1.sB; have := lt_of_block U1.seats; omega) (fun e => by cases e; have := U1.sB; omega)⟩⟩
  rw [hRt]
  clear CW H4 hg4 he4 U1 U2 U3 z0 z1
  go_wp2
  go_ret
  exact hF.out

set_option maxRecDepth 20000 in
set_option maxHeartbeats 3200000 in
theorem cPlay (B b : Nat) (N : Nat) (P : Int) (gh ch : Nat) (hs : List BkV) (gs : Nat) (x : SaV) (w : World) (hB : Bk w B b N P gh ch hs gs hs) (hT : Tr N P hs) :
    Calls Try.prog 49 #[.pointer (some ⟨b, 0, none⟩), x.val] w (SellP w B b N P gs (stepV N P hs x).1 (.int .i64 (stepV N P hs x).2)) := by
  have hBw : B ≤ w.heap.size := by have := lt_of_block hB.blk; have := hB.bB; omega
  have hW := balloc w (.cells x.vs.toArray 35)
  have H1 := hB.below hW
  obtain ⟨k, i, n, f⟩ := x
  unfold SaV.val SaV.vs at *
  dsimp only at *
  have E : Hid (stepV N P hs ⟨k, i, n, f⟩ = if k = 0 then bookV N P hs i n f else if k = 1 then (unbV hs i, if hasI hs i then 0 else -1) else (hs, -1)) := hide rfl
  generalize stepV N P hs ⟨k, i, n, f⟩ = st at *
  have hcar : ∀ (l : List BkV) (v v' : Value) (e e' : Ending) (w' : World), SellP (w.alloc (.cells [.int .i64 k, .int .i64 i, .int .i64 n, .int .i64 f].toArray 35)) B b N P gs l v e w' → e' = .returned v' → SellP w B b N P gs l v' e' w' := by
    rintro l v v' e e' w' ⟨g', c', _, q2, q3, q4⟩ he
    exact ⟨g', c', he, q2, (KpT.of_below hW).trans q3, (hW.mono hBw).trans q4⟩
  by_cases h0 : k = 0
  · have E' := hide (E.out.trans (if_pos h0))
    clear E
    subst h0
    have CS := cSell B b N P gh ch hs gs i n f _ H1 hT
    clear hB H1
    go_enter Try.func49, Try.ntmps49
    go_wp2_with fail
    refine CS.mono ?_
    intro e w1 hS
    have hS2 := hide (hcar _ _ (.int .i64 st.2) _ (.returned (.int .i64 st.2)) _ hS rfl)
    obtain ⟨g', c', rfl, -⟩ := hS
    rw [← E'.out] at hS2
    have e2 := hide (congrArg Prod.snd E'.out)
    clear CS hcar
    rw [← e2.out]
    go_wp2
    go_ret
    exact hS2.out
  · by_cases h1 : k = 1
    · have E' := hide ((E.out.trans (if_neg h0)).trans (if_pos h1))
      clear E
      subst h1
      have CS := cBack B b N P gh ch hs gs i _ H1 hT
      clear hB H1
      go_enter Try.func49, Try.ntmps49
      go_wp2_with fail
      refine CS.mono ?_
      intro e w1 hS
      have hS2 := hide (fun r (hr : r = st.2) => hcar _ _ (.int .i64 st.2) _ (.returned (.int .i64 r)) _ hS (by rw [hr]))
      obtain ⟨g', c', rfl, -⟩ := hS
      clear CS hcar
      cases hh : hasI hs i
      · have hF : Hid (SellP w B b N P gs st.1 (.int .i64 st.2) (.returned (.int .i64 (-1))) w1) := hide (by rw [E'.out, hh] at hS2 ⊢; exact hS2.out (-1) rfl)
        clear hS2
        go_wp2
        go_ret
        exact hF.out
      · have hF : Hid (SellP w B b N P gs st.1 (.int .i64 st.2) (.returned (.int .i64 0)) w1) := hide (by rw [E'.out, hh] at hS2 ⊢; exact hS2.out 0 rfl)
        clear hS2
        go_wp2
        go_ret
        exact hF.out
    · have E' := hide ((E.out.trans (if_neg h0)).trans (if_neg h1))
      have hF : Hid (SellP w B b N P gs st.1 (.int .i64 st.2) (.returned (.int .i64 (-1))) (w.alloc (.cells [.int .i64 k, .int .i64 i, .int .i64 n, .int .i64 f].toArray 35))) := hide (by rw [E'.out]; exact ⟨gh, ch, rfl, H1, KpT.of_below hW, hW.mono hBw⟩)
      clear hB H1 E E' hcar
      go_enter Try.func49, Try.ntmps49
      go_wp2
      go_ret
      exact hF.out
end Go.Proofs.Ytgnlcehpajbnoaa
