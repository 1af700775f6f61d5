/- AssignOk of the model. -/
import Derived.Test.YteklmeekapegpaaAO
namespace Go.Proofs.Yteklmeekapegpaa
open Go.RowKit

/-- Of two stays with one bay: they meet just when one is in the way of the other. -/
theorem meet_clash {ss : List StayV} {g : Int} {ls : List Int} {i k : Nat} (hg : 1 ≤ g) (hi : fA ss i ≤ tA ss i) (hk : fA ss k ≤ tA ss k) (hne : i ≠ k) (he : ls.getD k 0 = ls.getD i 0) (h0 : 0 ≤ ls.getD i 0) : meetB (ss.getD i StayV.zero) (ss.getD k StayV.zero) g = true ↔ Clash ss g ls i k ∨ Clash ss g ls k i := by
  have hb : before ss k i ∨ before ss i k := by unfold before; omega
  have hs : meetB (ss.getD i StayV.zero) (ss.getD k StayV.zero) g = meetB (ss.getD k StayV.zero) (ss.getD i StayV.zero) g := by unfold meetB; exact Bool.or_comm _ _
  rcases hb with hb | hb
  · rw [meet_before hg hk hb]
    constructor
    · intro h; exact .inl ⟨he.symm, h0, hb, h⟩
    · rintro (h | h)
      · exact h.2.2.2
      · exact absurd (before_trans hb h.2.2.1) (before_irrefl _)
  · rw [hs, meet_before hg hi hb]
    constructor
    · intro h; exact .inr ⟨he, by omega, hb, h⟩
    · rintro (h | h)
      · exact absurd (before_trans hb h.2.2.1) (before_irrefl _)
      · exact h.2.2.2
/-- What has been seen of the first i stays. -/
structure SeenTo (zs : List Int) (ss : List StayV) (g : Int) (ls : List Int) (i : Nat) : Prop where
  may : ∀ x, x < i → May zs (lenA ss x) (ls.getD x 0)
  clean : ∀ x k, x < i → k < x → ¬ Clash ss g ls x k ∧ ¬ Clash ss g ls k x
theorem SeenTo.all {zs : List Int} {ss : List StayV} {g : Int} {ls : List Int} (h : SeenTo zs ss g ls ss.length) (hok : assignOk zs ss g = true) (hl : ls.length = ss.length) : AOk zs ss g ls :=
  ⟨hok, hl, h.may, fun i k hi hk hc => by
    rcases Nat.lt_trichotomy i k with h' | h' | h'
    · exact (h.clean k i hk h').2 hc
    · subst h'; exact before_irrefl _ hc.2.2.1
    · exact (h.clean i k hi h').1 hc⟩
theorem SeenTo.skip {zs : List Int} {ss : List StayV} {g : Int} {ls : List Int} {i : Nat} (h : SeenTo zs ss g ls i) (hm : ls.getD i 0 = -1) : SeenTo zs ss g ls (i + 1) := by
  refine ⟨fun x hx => ?_, fun x k hx hk => ?_⟩
  · by_cases e : x = i
    · subst e; exact .inl hm
    · exact h.may x (by omega)
  · by_cases e : x = i
    · subst e
      exact ⟨fun hc => by have := hc.2.1; omega, fun hc => by have := hc.1; have := hc.2.1; omega⟩
    · exact h.clean x k (by omega) hk
theorem SeenTo.push {zs : List Int} {ss : List StayV} {g : Int} {ls : List Int} {i : Nat} (h : SeenTo zs ss g ls i) (hm : May zs (lenA ss i) (ls.getD i 0)) (hc : ∀ k, k < i → ¬ Clash ss g ls i k ∧ ¬ Clash ss g ls k i) : SeenTo zs ss g ls (i + 1) := by
  refine ⟨fun x hx => ?_, fun x k hx hk => ?_⟩
  · by_cases e : x = i
    · subst e; exact hm
    · exact h.may x (by omega)
  · by_cases e : x = i
    · subst e; exact hc k hk
    · exact h.clean x k (by omega) hk

set_option maxRecDepth 20000 in
set_option maxHeartbeats 3200000 in
theorem cAssignOkS (a : Option Addr) (ca : Nat) (zs : List Int) (b : Option Addr) (cb : Nat) (ss : List StayV) (g : Int) (l : Option Addr) (cl : Nat) (ls : List Int) (w : World) (hz : Ints w a zs) (hl : zs.length ≤ 1048576) (hy : Stays w b ss) (hl2 : ss.length ≤ 1048576) (hx : Ints w l ls) :
    Calls Try.prog 36 #[.slice a zs.length ca, .slice b ss.length cb, .int .i64 g, .slice l ls.length cl] w (OkPost zs ss g ls w) := by
  go_enter Try.func36, Try.ntmps36
  go_wp2_with fail
  refine (cBaysS a ca zs _ hz hl).mono ?_
  rintro e w1 ⟨rfl, hw⟩
  subst w1
  cases hZ : baysB zs
  · have hf : Hid (¬ AOk zs ss g ls) := hide (fun h => by have := h.ok; simp [assignOk, hZ] at this)
    clear hZ
    go_wp2
    go_ret
    exact OkPost.no hf.out (Below.refl _ _)
  go_wp2_with fail
  refine (cStaysS b cb ss _ hy hl2).mono ?_
  rintro e w1 ⟨rfl, hb1⟩
  cases hS : staysB ss
  · have hf : Hid (¬ AOk zs ss g ls) := hide (fun h => by have := h.ok; simp [assignOk, hS] at this)
    clear hZ hS
    go_wp2
    go_ret
    exact OkPost.no hf.out hb1
  go_wp2_with fail
  refine (cGapS g _).mono ?_
  rintro e w2 ⟨rfl, hw⟩
  subst w2
  cases hG : gapB g
  · have hf : Hid (¬ AOk zs ss g ls) := hide (fun h => by have := h.ok; simp [assignOk, hG] at this)
    clear hZ hS hG
    go_wp2
    go_ret
    exact OkPost.no hf.out hb1
  obtain ⟨hz1, hz12⟩ := bays_len hZ
  have h60 := stays_len hS
  obtain ⟨hg1, hg2⟩ := inB_true hG
  have hF := hide (fine_of hS)
  have hOk : Hid (assignOk zs ss g = true) := hide (by simp [assignOk, hZ, hS, hG])
  have hSt := hide (fun k (hk : k < ss.length) => stays_get hS hk)
  clear hZ hS hG
  by_cases hL : ls.length = ss.length
  · have hL' : ((ls.length : Int) != (ss.length : Int)) = false := by simp [hL]
    have hl60 : ls.length ≤ 60 := by omega
    replace hL := hide hL
    have w1z : IntKind.i64.wrap ((zs.length : Int) - 1) = (zs.length : Int) - 1 := wrap_in _ (by omega) (by omega)
    go_wp2
    go_loopw [9] (fun x wr => ∃ i : Nat, i ≤ ls.length ∧ x = .int .i64 i ∧ Hid (SeenTo zs ss g ls i) ∧ Below w.heap.size w wr) (fun x _ => ls.length - (intOf x).toNat)
    case atStart => exact ⟨0, Nat.zero_le _, rfl, hide ⟨fun x h => by omega, fun x k h => by omega⟩, hb1⟩
    case round =>
      obtain ⟨i, hi, rfl, hA, hb⟩ := hrel
      clear hb1
      by_cases hlt : i < ls.length
      · have his : i < ss.length := by rw [← hL.out]; exact hlt
        have his' : (i : Int) < (ss.length : Int) := by omega
        have hlt' : (i : Int) < (ls.length : Int) := by omega
        rcases hx with h | ⟨lb, lo, rfl, hc⟩
        · simp [h] at hlt
        have q0 := ble hb (hc i hlt)
        rcases hy with h | ⟨sb, so, rfl, hsc⟩
        · simp [h] at his
        have q1 := ble hb (hsc i his).2.2
        have hSk := fun h => hide (hA.out.skip h)
        have hPu := hide (fun hm hc => hA.out.push (i := i) hm hc)
        have hMi := hide (mayB_iff zs (ss.getD i StayV.zero).l (ls.getD i 0))
        have hE : Hid (mayB zs (ss.getD i StayV.zero).l (ls.getD i 0) = (decide (ls.getD i 0 = -1) || (inB (ls.getD i 0) 0 ((zs.length : Int) - 1) && decide ((ss.getD i StayV.zero).l ≤ zs.getD (ls.getD i 0).toNat 0)))) := rfl
        have hNo : mayB zs (ss.getD i StayV.zero).l (ls.getD i 0) = false → Hid (¬ AOk zs ss g ls) := fun h => hide (fun hx => by
          have := hMi.out.2 (hx.may i his)
          rw [h] at this; cases this)
        have hYm : mayB zs (ss.getD i StayV.zero).l (ls.getD i 0) = true → Hid (May zs (lenA ss i) (ls.getD i 0)) := fun h => hide (hMi.out.1 h)
        have hMC := hide (fun k (hk : k < ss.length) (hne : i ≠ k) => meet_clash (ls := ls) (i := i) (k := k) hg1 (hF.out i his) (hF.out k hk) hne)
        have hNC : Hid ((∃ k, k < ss.length ∧ (Clash ss g ls i k ∨ Clash ss g ls k i)) → ¬ AOk zs ss g ls) := hide (fun ⟨k, hk, h⟩ hx => by
          rcases h with h | h
          · exact hx.clean i k his hk h
          · exact hx.clean k i hk his h)
        clear hMi hA
        have hsti := hSt.out i his
        generalize hli : ls.getD i 0 = li at *
        replace hli := hide hli
        by_cases hm : li = -1
        · have hS := hSk hm
          clear hSk hPu hE hNo hYm hMC hNC hc hsc
          subst hm
          go_wp2
          go_roundw
          case rel => exact ⟨i + 1, by omega, by go_num, hS, hb⟩
          case measure => simp [intOf]; omega
        have hm' : ((li : Int) == -1) = false := by simp [hm]
        have C1 := fun V => cIn li 0 ((zs.length : Int) - 1) V
        cases hin : inB li 0 ((zs.length : Int) - 1)
        · have hf := hNo (by rw [hE.out, hin]; simp [hm])
          rw [hin] at C1
          clear hSk hPu hE hNo hYm hMC hNC hc hsc
          go_wp2
          go_quiet (first | (go_at_call 54; with_reducible refine Calls.quiet_of_same (C1 _)))
          go_wp2
          go_ret
          exact OkPost.no hf.out (bdraw hb _)
        obtain ⟨h3, h4⟩ := inB_true hin
        obtain ⟨bb, rfl⟩ : ∃ bb : Nat, li = bb := ⟨li.toNat, by omega⟩
        have hbz : bb < zs.length := by omega
        have hbz' : (bb : Int) < (zs.length : Int) := by omega
        rw [hin] at C1
        have hzB := hz
        rcases hzB with h | ⟨zb, zo, rfl, hzc⟩
        · simp [h] at hbz
        have qz := ble hb (hzc bb hbz)
        rw [show ((bb : Int)).toNat = bb from rfl] at hE
        clear hzc
        have hln : Hid ((ss.getD i StayV.zero).l = (ss.getD i StayV.zero).l) := rfl
        generalize zs.getD bb 0 = zv at *
        by_cases hlz : zv < (ss.getD i StayV.zero).l
        · have hf := hNo (by rw [hE.out, hin, decide_eq_false hm, decide_eq_false (show ¬ (ss.getD i StayV.zero).l ≤ zv by omega)]; rfl)
          have hlz' : decide (zv < (ss.getD i StayV.zero).l) = true := decide_eq_true hlz
          clear hSk hPu hE hNo hYm hMC hNC hc hsc hln hsti
          generalize (ss.getD i StayV.zero).l = ln at *
          go_wp2
          go_quiet (first | (go_at_call 54; with_reducible refine Calls.quiet_of_same (C1 _)))
          go_wp2
          go_ret
          exact OkPost.no hf.out (bdraw hb _)
        · have hYm2 := hYm (by rw [hE.out, hin, decide_eq_true (show (ss.getD i StayV.zero).l ≤ zv by omega)]; simp)
          have hlz' : decide (zv < (ss.getD i StayV.zero).l) = false := decide_eq_false hlz
          have hPush := hide (hPu.out hYm2.out)
          clear hSk hPu hE hNo hYm hYm2 hln
          obtain ⟨lnv, hlnv⟩ : ∃ lnv, lnv = (ss.getD i StayV.zero).l := ⟨_, rfl⟩
          rw [← hlnv] at q1 hlz'
          clear hlnv hlz
          go_wp2
          go_quiet (first | (go_at_call 54; with_reducible refine Calls.quiet_of_same (C1 _)))
          go_wp2
          go_loopw [10] (fun x wr => ∃ k : Nat, k ≤ i ∧ x = .int .i64 k ∧ Hid (∀ x, x < k → ¬ Clash ss g ls i x ∧ ¬ Clash ss g ls x i) ∧ Below w.heap.size w wr) (fun x _ => i - (intOf x).toNat)
          case atStart => exact ⟨0, Nat.zero_le _, rfl, hide (fun x h => by omega), bdraw hb _⟩
          case round =>
            obtain ⟨k, hk, rfl, hCl, hb4⟩ := hrel
            by_cases hki : k < i
            · have hki' : (k : Int) < (i : Int) := by omega
              have hks : k < ss.length := by omega
              have hks' : (k : Int) < (ss.length : Int) := by omega
              have hkl' : (k : Int) < (ls.length : Int) := by omega
              have r0 := ble hb4 (hc k (by omega))
              have r1 := ble hb4 (hc i hlt)
              rw [hli.out] at r1
              obtain ⟨p0, p1, p2⟩ := hsc i his
              obtain ⟨p3, p4, p5⟩ := hsc k hks
              replace p0 := ble hb4 p0
              replace p1 := ble hb4 p1
              replace p2 := ble hb4 p2
              replace p3 := ble hb4 p3
              replace p4 := ble hb4 p4
              replace p5 := ble hb4 p5
              have hstk := hSt.out k hks
              have CM := fun V => cMeet (ss.getD i StayV.zero) (ss.getD k StayV.zero) g V (by omega) (by omega) (by omega) (by omega) hg1 hg2
              have hMk := hide (hMC.out k hks (by omega))
              have hNx : (¬ Clash ss g ls i k ∧ ¬ Clash ss g ls k i) → Hid (∀ x, x < k + 1 → ¬ Clash ss g ls i x ∧ ¬ Clash ss g ls x i) := fun h => hide (fun x hx => by
                by_cases e : x = k
                · subst e; exact h
                · exact hCl.out x (by omega))
              have hNk : Hid ((Clash ss g ls i k ∨ Clash ss g ls k i) → ¬ AOk zs ss g ls) := hide (fun h => hNC.out ⟨k, hks, h⟩)
              have hAp : Hid (ls.getD k 0 ≠ (bb : Int) → ¬ Clash ss g ls i k ∧ ¬ Clash ss g ls k i) := hide (fun h => ⟨fun hc => h (by rw [← hc.1]; exact hli.out), fun hc => h (by rw [hc.1]; exact hli.out)⟩)
              clear hCl
              generalize ss.getD i StayV.zero = ya at *
              generalize ss.getD k StayV.zero = yb at *
              generalize ls.getD k 0 = lk at *
              obtain ⟨af, at', al⟩ := ya
              obtain ⟨bf, bt, bl⟩ := yb
              unfold StayV.val at CM
              dsimp only at *
              have hsb : sb < wr.heap.size := cell_lt p0
              have hlb : lb < wr.heap.size := cell_lt r0
              by_cases hov : lk = (bb : Int)
              · have hoe : ((lk : Int) == (bb : Int)) = true := by simp [hov]
                have hMM := hide (hMk.out hov (by omega))
                clear hMk hAp
                go_wp2
                go_region_held3 (fun w' => w'.cell? ⟨lb, lo + k, none⟩ = some (.int .i64 lk) ∧ w'.cell? ⟨lb, lo + i, none⟩ = some (.int .i64 bb) ∧ w'.cell? ⟨sb, so + i * 3, none⟩ = some (.int .i64 af) ∧ w'.cell? ⟨sb, so + i * 3 + 1, none⟩ = some (.int .i64 at') ∧ w'.cell? ⟨sb, so + i * 3 + 2, none⟩ = some (.int .i64 al) ∧ w'.cell? ⟨sb, so + k * 3, none⟩ = some (.int .i64 bf) ∧ w'.cell? ⟨sb, so + k * 3 + 1, none⟩ = some (.int .i64 bt) ∧ w'.cell? ⟨sb, so + k * 3 + 2, none⟩ = some (.int .i64 bl)) (go_keep) (first
                  | (go_at_call 52; with_reducible refine (CM _).mono ?_; rintro e wq ⟨rfl, hbq⟩; replace hbq := undrew hbq; have v0 := ble hbq r0; have v1 := ble hbq r1; have v2 := ble hbq p0; have v3 := ble hbq p1; have v4 := ble hbq p2; have v5 := ble hbq p3; have v6 := ble hbq p4; have v7 := ble hbq p5))
                have hb5 := btrans hb4 hbq
                cases hm : meetB ⟨af, at', al⟩ ⟨bf, bt, bl⟩ g
                · have hS := hNx (by
                    rw [hm] at hMM
                    have := hMM.out
                    simp only [Bool.false_eq_true, false_iff, not_or] at this
                    exact this)
                  clear hm hMM hNx hNk CM v0 v1 v2 v3 v4 v5 v6 v7 p0 p1 p2 p3 p4 p5 r0 r1 hbq
                  go_wp2
                  go_roundw
                  case rel => exact ⟨k + 1, by omega, by go_num, hS, hb5⟩
                  case measure => simp [intOf]; omega
                · have hf := hide (hNk.out (hMM.out.1 hm))
                  clear hm hMM hNx hNk CM v0 v1 v2 v3 v4 v5 v6 v7 p0 p1 p2 p3 p4 p5 r0 r1 hbq
                  go_wp2
                  go_ret
                  exact OkPost.no hf.out hb5
              · have hoe : ((lk : Int) == (bb : Int)) = false := by simp [hov]
                have hS := hNx (hAp.out hov)
                clear hMk hAp hNx hNk CM
                go_wp2
                go_quiet (fail)
                go_wp2
                go_roundw
                case rel => exact ⟨k + 1, by omega, by go_num, hS, bdraw hb4 _⟩
                case measure => simp [intOf]; omega
            · obtain rfl : k = i := by omega
              have hki' : ¬ ((k : Int) < (k : Int)) := by omega
              have hS := hide (hPush.out hCl.out)
              clear hPush hCl hMC hNC
              go_wp2
              go_roundw
              case rel => exact ⟨k + 1, by omega, by go_num, hS, hb4⟩
              case measure => simp [intOf]; omega
      · obtain rfl : i = ls.length := by omega
        have hA2 : Hid (AOk zs ss g ls) := hide (by have h := hA.out; rw [hL.out] at h; exact h.all hOk.out hL.out)
        clear hA
        go_wp2
        go_ret
        exact OkPost.yes hA2.out hb
  · have hL' : ((ls.length : Int) != (ss.length : Int)) = true := by simp; omega
    have hf : Hid (¬ AOk zs ss g ls) := hide (fun h => hL h.len)
    clear hL
    go_wp2
    go_ret
    exact OkPost.no hf.out hb1
end Go.Proofs.Yteklmeekapegpaa
