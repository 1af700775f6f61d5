/- Shortest of the model. -/
import Derived.Test.YtdjambejppanoaaOT
import Derived.BigQuiet
namespace Go.Proofs.Ytdjambejppanoaa
open Go.RowKit
theorem choose_end (es : List EdgeV) (ls cs : List Int) (tz : Int) : ∀ g, chooseW es ls cs tz g tz = []
  | 0 => rfl
  | g + 1 => by simp [chooseW]
/-- The places so far, and what is left of the way. -/
def Sofar (es : List EdgeV) (ls cs : List Int) (tz : Int) (W0 : List Nat) (x : Nat) (ps : List Nat) : Prop := ∃ g : Nat, gI cs x ≤ (g : Int) ∧ W0 = ps ++ chooseW es ls cs tz g (x : Int)
theorem Sofar.end {es : List EdgeV} {ls cs : List Int} {W0 ps : List Nat} {x : Nat} (h : Sofar es ls cs (x : Int) W0 x ps) : W0 = ps := by
  obtain ⟨g, -, h⟩ := h
  rw [h, choose_end, List.append_nil]
theorem Sofar.step {N : Nat} {es : List EdgeV} {ls cs : List Int} {tz : Int} {W0 ps : List Nat} {x i y : Nat} (B : Bst N es tz ls cs) (h : Sofar es ls cs tz W0 x ps) (hx : x < N) (h0 : 0 ≤ gI ls x) (hne : (x : Int) ≠ tz) (hi : nextP es ls cs (x : Int) = some i) (hy : otherF (es.getD i EdgeV.zero) (x : Int) = (y : Int)) (hc : gI cs y + 1 = gI cs x) : Sofar es ls cs tz W0 y (ps ++ [i]) := by
  obtain ⟨g, h1, h2⟩ := h
  obtain ⟨qs, q1, q2⟩ := B.sound (x : Int) (by omega) (by rw [lAt_nat]; exact h0)
  rw [lAt_nat] at q2
  cases g with
  | zero =>
    have : qs = [] := List.length_eq_zero_iff.1 (by omega)
    subst this
    generalize lAt ls (x : Int) = Lx at q1
    cases q1
    exact absurd rfl hne
  | succ g =>
    refine ⟨g, by omega, ?_⟩
    rw [h2, chooseW, if_neg hne, hi]
    dsimp only
    rw [hy, List.append_assoc]
    rfl
theorem next_no {es : List EdgeV} {ls cs : List Int} {x : Int} {i i0 : Nat} (hn : nextP es ls cs x = some i0) (hi : i ≤ i0) (h : nextB es ls cs x i = false) : i + 1 ≤ i0 := by
  have h1 := (next_is hn).2.1
  rcases Nat.lt_or_ge i i0 with g | g
  · omega
  · obtain rfl : i = i0 := by omega
    rw [h] at h1; cases h1
theorem next_yes {es : List EdgeV} {ls cs : List Int} {x : Int} {i i0 : Nat} (hn : nextP es ls cs x = some i0) (hi : i ≤ i0) (h : nextB es ls cs x i = true) : i0 = i := by
  rcases Nat.lt_or_ge i i0 with g | g
  · have h1 := (next_is hn).2.2 i g
    rw [h] at h1; cases h1
  · omega
set_option maxRecDepth 20000 in
set_option maxHeartbeats 6400000 in
theorem cShortestS (a : Option Addr) (p : Nat) (n f tz : Int) (es : List EdgeV) (w : World) (he : Edges w a es) (hl : es.length ≤ 1048576) :
    Calls Try.prog 16 #[.agg #[.int .i64 n, .slice a es.length p], .int .i64 f, .int .i64 tz] w (PairAns w (StW n es f tz)) := by
  obtain ⟨i1, hi1, hy0, hy1, hy2⟩ := info_parts infoInts
  have HB := balloc w (.cells #[.int .i64 n, .slice a es.length p] 26)
  have X := Bx2.new w (.int .i64 n) (.slice a es.length p) 26
  obtain ⟨b0, b1⟩ := id X
  have CN := cNetS a p n es _ (he.below HB) hl
  go_enter Try.func16, Try.ntmps16
  cases q1 : netB n es
  · rw [q1] at CN
    have hV : Hid (StW n es f tz [] (-1)) := hide (.inr ⟨(fun h => by rw [q1] at h; cases h.1), rfl, rfl⟩)
    go_wp2_with fail
    refine CN.mono ?_
    rintro e w1 ⟨rfl, hb⟩
    have HB1 := btrans HB hb
    clear hb
    go_wp2
    go_ret2
    exact .empty hV.out HB1
  rw [q1] at CN
  have hN0 := (net_rg q1).2.1
  have CI := fun W => cIn f 0 (n - 1) W
  have CJ := fun W => cIn tz 0 (n - 1) W
  have wn : IntKind.i64.wrap (n - 1) = n - 1 := wrap_in _ (by omega) (by omega)
  go_wp2_with fail
  refine CN.mono ?_
  rintro e w1 ⟨rfl, hb⟩
  have HB1 := btrans HB hb
  replace X := X.below hb
  clear hb CN b0 b1
  obtain ⟨b0, b1⟩ := id X
  go_wp2_with fail
  refine (CI _).mono ?_
  rintro e w2 ⟨rfl, hw⟩
  subst w2
  cases q2 : inB f 0 (n - 1)
  · have hV : Hid (StW n es f tz [] (-1)) := hide (.inr ⟨(fun h => by have := h.2.1; unfold nodeB at this; rw [q2] at this; cases this), rfl, rfl⟩)
    go_wp2
    go_ret2
    exact .empty hV.out HB1
  go_wp2_with fail
  refine (CJ _).mono ?_
  rintro e w2 ⟨rfl, hw⟩
  subst w2
  cases q3 : inB tz 0 (n - 1)
  · have hV : Hid (StW n es f tz [] (-1)) := hide (.inr ⟨(fun h => by have := h.2.2; unfold nodeB at this; rw [q3] at this; cases this), rfl, rfl⟩)
    go_wp2
    go_ret2
    exact .empty hV.out HB1
  clear hN0
  obtain ⟨R, hN, hE⟩ := net_rg q1
  have hf := inB_true q2
  have ht := inB_true q3
  obtain ⟨N, rfl⟩ : ∃ N : Nat, n = (N : Int) := ⟨n.toNat, by omega⟩
  obtain ⟨fn, rfl⟩ : ∃ t : Nat, f = (t : Int) := ⟨f.toNat, by omega⟩
  obtain ⟨tn, rfl⟩ : ∃ t : Nat, tz = (t : Int) := ⟨tz.toNat, by omega⟩
  have hRV := hide (fun t (h : StV es (fn : Int) (tn : Int) t) => (show StW (N : Int) es (fn : Int) (tn : Int) (nI t.way) t.len from .inl ⟨q1, q2, q3, t, h, rfl, rfl⟩))
  clear HB CI CJ wn q2 q3
  go_wp2_with fail
  refine (cBestS a p N es tn _ (he.below HB1) q1 (by omega)).mono ?_
  rintro e w3 ⟨gC, cC, gK, cK, ls, cs, rfl, hB, T, hb⟩
  have HB3 := btrans HB1 hb
  have X3 := X.below hb
  have hs3 := HB1.size
  have hfN : fn < N := by omega
  have hfz : (fn : Int) < (N : Int) := by omega
  obtain ⟨y0, -⟩ := T.atC (i := fn) hfN
  have hreach := hide (hB.reach (x := (fn : Int)) (by omega))
  have elA := lAt_nat ls fn
  clear hb X HB1 b0 b1 q1
  obtain ⟨b0, b1⟩ := id X3
  by_cases hneg : gI ls fn < 0
  · have hV := hide (hRV.out ⟨0, -1, []⟩ (.inr ⟨fun h => by have := hreach.out.2 h; omega, rfl, rfl⟩))
    generalize gI ls fn = z at *
    go_wp2
    go_ret2
    exact .empty hV.out HB3
  · have hge : (0 : Int) ≤ gI ls fn := by omega
    have hcs := hB.small R (x := (fn : Int)) (by omega) (by rw [lAt_nat]; exact hge)
    have hBest := (hB.choose R (by omega) N (fn : Int) (by omega) (by rw [lAt_nat]; exact hge) (by omega)).1
    have hSo : Sofar es ls cs (tn : Int) (chooseW es ls cs (tn : Int) N (fn : Int)) fn [] := ⟨N, by have := hcs.1; rw [lAt_nat] at this; omega, rfl⟩
    have hV := hide (hRV.out ⟨(tn : Int), gI ls fn, chooseW es ls cs (tn : Int) N (fn : Int)⟩ (.inl (by rw [← elA]; exact hBest)))
    have hWl := (hBest.small R (by omega)).1
    generalize chooseW es ls cs (tn : Int) N (fn : Int) = W0 at *
    have hal := balloc w3 (.cells #[] 3)
    have o1 := World.ownsRow_made (e := 3) (size := 1) w3 #[] 0 (Nat.le_refl _) (by omega) rfl
    have X4 := X3.below hal
    have T4 := T.below hal
    have HB4 := btrans HB3 hal
    have hsz3 := HB3.size
    have hgC := own_blk_lt T.c gC rfl
    have hgK := own_blk_lt T.k gK rfl
    have hXw := cell_lt X3.1
    clear hal X3 T HB3 hBest hcs hreach
    go_wp2
    go_loopw [10, 11, 12, 13] (fun ov av _ _ wr => ∃ (x : Nat) (ps : List Nat) (ao : Option Addr) (cp : Nat), x < N ∧ 0 ≤ gI ls x ∧ av = .int .i64 (x : Int) ∧ ov = .slice ao (nI ps).length cp ∧ Hid (Sofar es ls cs (tn : Int) W0 x ps) ∧ wr.ownsRow w3.heap.size 3 1 (.slice ao (nI ps).length cp) (nI ps).length ((nI ps).map (.int .i64)) ∧ Tw w1.heap.size N wr gC cC gK cK ls cs ∧ Bx2 wr w.heap.size (.int .i64 (N : Int)) (.slice a es.length p) ∧ Below w.heap.size w wr ∧ w3.heap.size ≤ wr.heap.size) (fun _ av _ _ _ => (gI cs (intOf av).toNat).toNat)
    case atStart => exact ⟨fn, [], _, _, hfN, hge, rfl, rfl, hide hSo, o1, T4, X4, HB4, by simp⟩
    case round =>
      clear o1 X4 T4 HB4 hSo
      obtain ⟨x, ps, ao, cp, hxN, hx0, rfl, rfl, hS, ho, T, X, HB, hsz⟩ := hrel
      by_cases hxt : (x : Int) = (tn : Int)
      · obtain rfl : x = tn := by omega
        have hE := hS.out.end
        obtain ⟨y1, -⟩ := T.atC (i := fn) hfN
        rw [hE] at hV
        have hol := own_base ho (show w.heap.size ≤ w3.heap.size by omega)
        obtain ⟨b0, b1⟩ := id X
        generalize gI ls fn = z at *
        clear T ho hS
        go_wp2
        go_quiet (fail)
        go_wp2
        go_ret2
        exact ⟨ao, cp, nI ps, z, rfl, hV.out, own_keep hol (bdraw (Below.refl _ _) _), bdraw HB _⟩
      · obtain ⟨i0, hi0⟩ := hB.next R (x := (x : Int)) (by omega) (by rw [lAt_nat]; exact hx0) hxt
        have hiE0 := (next_is hi0).1
        replace hi0 := hide hi0
        have hxb : ((x : Int) != (tn : Int)) = true := by simpa using hxt
        have hpl : (nI ps).length ≤ 1000 := by
          rw [nI_len]
          obtain ⟨g, -, h2⟩ := hS.out
          rw [h2, List.length_append] at hWl
          omega
        have hps := hide hWl
        clear hWl
        obtain ⟨bk, off, rfl, hc⟩ : ∃ bk off, a = some ⟨bk, off, none⟩ ∧ ∀ i, i < es.length → w.cell? ⟨bk, off + i * 4, none⟩ = some (.int .i64 (es.getD i EdgeV.zero).a) ∧ w.cell? ⟨bk, off + i * 4 + 1, none⟩ = some (.int .i64 (es.getD i EdgeV.zero).b) ∧ w.cell? ⟨bk, off + i * 4 + 2, none⟩ = some (.int .i64 (es.getD i EdgeV.zero).l) ∧ w.cell? ⟨bk, off + i * 4 + 3, none⟩ = some (.int .i64 (es.getD i EdgeV.zero).m) := by
          rcases id he with h | ⟨bk, off, h1, h2⟩
          · rw [h] at hiE0; simp at hiE0
          · exact ⟨bk, off, h1, h2⟩
        obtain ⟨wo, rfl⟩ : ∃ wo, wo = wr := ⟨wr, rfl⟩
        go_wp2
        go_loopw [10, 11, 12, 13] (fun ov av iv _ wr => ∃ i : Nat, i ≤ i0 ∧ iv = .int .i64 i ∧ av = .int .i64 (x : Int) ∧ ov = .slice ao (nI ps).length cp ∧ wr.ownsRow w3.heap.size 3 1 (.slice ao (nI ps).length cp) (nI ps).length ((nI ps).map (.int .i64)) ∧ Tw w1.heap.size N wr gC cC gK cK ls cs ∧ Bx2 wr w.heap.size (.int .i64 (N : Int)) (.slice (some ⟨bk, off, none⟩) es.length p) ∧ Below w.heap.size w wr ∧ w3.heap.size ≤ wr.heap.size) (fun _ _ iv _ _ => es.length - (intOf iv).toNat)
        case atStart => exact ⟨0, Nat.zero_le _, rfl, rfl, rfl, ho, T, X, HB, hsz⟩
        case round =>
          clear ho T X HB hsz
          obtain ⟨i, hii, rfl, rfl, rfl, ho, T, X, HB, hsz⟩ := hrel
          obtain ⟨b0, b1⟩ := id X
          have hlt : i < es.length := by omega
          have hlt' : (i : Int) < (es.length : Int) := by omega
          obtain ⟨p0, p1, p2, p3⟩ := hc i hlt
          replace p0 := ble HB p0
          replace p1 := ble HB p1
          replace p2 := ble HB p2
          replace p3 := ble HB p3
          have CO := fun W => cOtherW (es.getD i EdgeV.zero) (x : Int) W
          unfold EdgeV.val at CO
          have hEN := fun (h : 0 ≤ otherF (es.getD i EdgeV.zero) (x : Int)) => ((st_other hlt h).ends R).2.1
          have e0 : es.getD i EdgeV.zero = es[i] := by simp [List.getD, hlt]
          have hE1 := (R.nd i hlt).2.2.2
          rw [← e0] at hE1
          have hNB : nextB es ls cs (x : Int) i = (decide (0 ≤ otherF (es.getD i EdgeV.zero) (x : Int)) && (decide (0 ≤ lAt ls (otherF (es.getD i EdgeV.zero) (x : Int))) && (decide (lAt ls (otherF (es.getD i EdgeV.zero) (x : Int)) + (es.getD i EdgeV.zero).l = lAt ls (x : Int)) && decide (lAt cs (otherF (es.getD i EdgeV.zero) (x : Int)) + 1 = lAt cs (x : Int))))) := rfl
          have NO := hide (fun h => next_no hi0.out hii h)
          have YES := hide (fun h => next_yes hi0.out hii h)
          have STEP := hide (fun y (h1 : otherF (es.getD i EdgeV.zero) (x : Int) = ((y : Nat) : Int)) (h2 : gI cs y + 1 = gI cs x) (h3 : nextP es ls cs (x : Int) = some i) => hS.out.step hB hxN hx0 hxt h3 h1 h2)
          clear e0 hc
          generalize (es.getD i EdgeV.zero).a = ea at *
          generalize (es.getD i EdgeV.zero).b = eb at *
          generalize (es.getD i EdgeV.zero).l = el at *
          generalize (es.getD i EdgeV.zero).m = em at *
          generalize otherF (es.getD i EdgeV.zero) (x : Int) = y at *
          have hel1 : 1 ≤ el := hE1.1
          have hel2 : el ≤ 100000 := hE1.2
          clear hE1
          go_wp2_with fail
          refine (CO _).mono ?_
          rintro e w5 ⟨rfl, hb⟩
          clear p0 p1 p3 CO b0 b1
          replace p2 := ble hb p2
          replace ho := own_keep ho hb
          replace T := T.below hb
          replace X := X.below hb
          replace HB := btrans HB hb
          replace hsz : w3.heap.size ≤ w5.heap.size := Nat.le_trans hsz hb.size
          clear hb
          obtain ⟨b0, b1⟩ := id X
          replace hNB := hide hNB
          by_cases hy : y < 0
          · have hN1 := NO.out (by rw [hNB.out]; simp; omega)
            have g1 : decide ((0 : Int) ≤ y) = false := by simpa using hy
            clear NO YES STEP hNB hEN
            go_wp2
            go_quiet (fail)
            replace ho := own_keep ho (bdraw (Below.refl w5.heap.size w5) nq)
            replace T := T.below (bdraw (Below.refl w5.heap.size w5) nq)
            replace X := X.below (bdraw (Below.refl w5.heap.size w5) nq)
            replace HB := bdraw HB nq
            have hsz' : w3.heap.size ≤ (w5.drewN nq).heap.size := hsz
            generalize w5.drewN nq = w6 at *
            clear p2 b0 b1
            go_wp2
            go_roundw
            case rel => exact ⟨i + 1, hN1, by go_num, rfl, rfl, ho, T, X, HB, hsz'⟩
            case measure => simp [intOf]; omega
          · have hyN := hEN (by omega)
            obtain ⟨u, rfl⟩ : ∃ u : Nat, y = (u : Int) := ⟨y.toNat, by omega⟩
            have huN : u < N := by omega
            have huz : (u : Int) < (N : Int) := hyN.2
            have hxz : (x : Int) < (N : Int) := by omega
            have g1 : decide ((0 : Int) ≤ (u : Int)) = true := by simp
            have hsm := hB.small R (x := (u : Int)) (by omega)
            have STP := hide (fun h2 h3 => STEP.out u rfl h2 h3)
            have UV := hide (fun (h : (0 : Int) ≤ gI ls u) => h)
            rw [lAt_nat, lAt_nat] at hsm
            rw [lAt_nat, lAt_nat, lAt_nat, lAt_nat] at hNB
            obtain ⟨s0, -⟩ := T.atC (i := u) huN
            obtain ⟨s1, -⟩ := T.atK (i := u) huN
            obtain ⟨t0, -⟩ := T.atC (i := x) hxN
            obtain ⟨t1, -⟩ := T.atK (i := x) hxN
            have hx0' := hide hx0
            clear hx0 hEN STEP
            generalize hvb : gI ls u = vb at *
            generalize hqb : gI cs u = qb at *
            generalize hvx : gI ls x = vx at *
            generalize hqx : gI cs x = qx at *
            replace hvb := hide hvb
            replace hqb := hide hqb
            replace hvx := hide hvx
            replace hqx := hide hqx
            by_cases c1 : 0 ≤ vb
            · have g2 : decide ((0 : Int) ≤ vb) = true := by simpa using c1
              have hsm := hsm c1
              have hN30 : (N : Int) ≤ 30 := by omega
              have wl : IntKind.i64.wrap (vb + el) = vb + el := wrap_in _ (by omega) (by omega)
              have wk : IntKind.i64.wrap (qb + 1) = qb + 1 := wrap_in _ (by omega) (by omega)
              by_cases c2 : vb + el = vx
              · have g3 : (vb + el == vx) = true := by simpa using c2
                by_cases c3 : qb + 1 = qx
                · have g4 : (qb + 1 == qx) = true := by simpa using c3
                  have hii0 := YES.out (by rw [hNB.out]; simp [c1, c2, c3])
                  have hSN := hide (STP.out c3 (by rw [← hii0]; exact hi0.out))
                  have hm : qb.toNat < qx.toNat := by omega
                  clear hii0
                  replace c2 := hide c2
                  replace c3 := hide c3
                  clear NO YES STP hNB
                  go_wp2
                  go_quiet (fail)
                  replace ho := own_keep ho (bdraw (Below.refl w5.heap.size w5) nq)
                  replace T := T.below (bdraw (Below.refl w5.heap.size w5) nq)
                  replace X := X.below (bdraw (Below.refl w5.heap.size w5) nq)
                  replace HB := bdraw HB nq
                  have hsz' : w3.heap.size ≤ (w5.drewN nq).heap.size := hsz
                  generalize w5.drewN nq = w6 at *
                  clear p2 b0 b1 s0 s1 t0 t1
                  have hob := own_from ho (Nat.le_refl _)
                  have hA := balloc w6 (.cells #[.int .i64 (i : Int)] 3)
                  have XA := X.below hA
                  have TA := T.below hA
                  have HA := btrans HB hA
                  have hoA := own_keep ho hA
                  have hw3 := HB.size
                  go_wp2_with (at_builtin; refine wpList_append_own _ rfl _ _ 29 rfl w3.heap.size 3 i1 (.int .i64 0) 1 8 Try.underlying29 hi1 hy0 hy1 hy2 rfl (by decide) _ _ _ rfl hoA ⟨w6.heap.size, 0, none⟩ 1 1 [.int .i64 (i : Int)] rfl rfl ?c1 ?c2 ?c3 ?c4 ?c5 ?_)
                  case c1 => exact cell_one_new _ _ _
                  case c2 => intro x hx; simp at hx; subst hx; rfl
                  case c3 => unfold maxLen; omega
                  case c4 => omega
                  case c5 => simp; omega
                  intro v7 w7 hown hgrow _
                  obtain ⟨a7, c7, rfl⟩ := own_form hown
                  have X7 := XA.far hgrow (fun e => by have := hob _ e.symm; omega)
                  have T7 := TA.far hgrow (fun e => by have := hob _ e.symm; omega) (fun e => by have := hob _ e.symm; omega)
                  have HB7 := HA.grown hgrow HA.size (fun j e => by have := hob j e; omega)
                  have hsz7 : w3.heap.size ≤ w7.heap.size := Nat.le_trans (Nat.le_trans hsz' hA.size) hgrow.size
                  have ho7 : w7.ownsRow w3.heap.size 3 1 (.slice a7 (nI (ps ++ [i])).length c7) (nI (ps ++ [i])).length ((nI (ps ++ [i])).map (.int .i64)) := by
                    rw [show nI (ps ++ [i]) = nI ps ++ [(i : Int)] from by simp [nI], List.length_append, List.map_append]; exact hown
                  clear hown hgrow hoA XA HA TA
                  go_wp2
                  go_roundw
                  case rel => exact ⟨u, ps ++ [i], a7, c7, huN, by rw [hvb.out]; exact c1, rfl, by simp [nI], hSN, ho7, T7, X7, HB7, hsz7⟩
                  case measure => rw [show (intOf (.int .i64 (u : Int))).toNat = u from by simp [intOf], show (intOf (.int .i64 (x : Int))).toNat = x from by simp [intOf], hqb.out, hqx.out]; exact hm
                · have g4 : (qb + 1 == qx) = false := by simpa using c3
                  have hN1 := NO.out (by rw [hNB.out]; simp [c3])
                  replace c2 := hide c2
                  clear NO YES STP hNB
                  go_wp2
                  go_quiet (fail)
                  replace ho := own_keep ho (bdraw (Below.refl w5.heap.size w5) nq)
                  replace T := T.below (bdraw (Below.refl w5.heap.size w5) nq)
                  replace X := X.below (bdraw (Below.refl w5.heap.size w5) nq)
                  replace HB := bdraw HB nq
                  have hsz' : w3.heap.size ≤ (w5.drewN nq).heap.size := hsz
                  generalize w5.drewN nq = w6 at *
                  clear p2 b0 b1 s0 s1 t0 t1
                  go_wp2
                  go_roundw
                  case rel => exact ⟨i + 1, hN1, by go_num, rfl, rfl, ho, T, X, HB, hsz'⟩
                  case measure => simp [intOf]; omega
              · have g3 : (vb + el == vx) = false := by simpa using c2
                have hN1 := NO.out (by rw [hNB.out]; simp [c2])
                clear NO YES STP hNB
                go_wp2
                go_quiet (fail)
                replace ho := own_keep ho (bdraw (Below.refl w5.heap.size w5) nq)
                replace T := T.below (bdraw (Below.refl w5.heap.size w5) nq)
                replace X := X.below (bdraw (Below.refl w5.heap.size w5) nq)
                replace HB := bdraw HB nq
                have hsz' : w3.heap.size ≤ (w5.drewN nq).heap.size := hsz
                generalize w5.drewN nq = w6 at *
                clear p2 b0 b1 s0 s1 t0 t1
                go_wp2
                go_roundw
                case rel => exact ⟨i + 1, hN1, by go_num, rfl, rfl, ho, T, X, HB, hsz'⟩
                case measure => simp [intOf]; omega
            · have g2 : decide ((0 : Int) ≤ vb) = false := by simpa using c1
              have hN1 := NO.out (by rw [hNB.out]; simp [c1])
              clear NO YES STP hNB hsm
              go_wp2
              go_quiet (fail)
              replace ho := own_keep ho (bdraw (Below.refl w5.heap.size w5) nq)
              replace T := T.below (bdraw (Below.refl w5.heap.size w5) nq)
              replace X := X.below (bdraw (Below.refl w5.heap.size w5) nq)
              replace HB := bdraw HB nq
              have hsz' : w3.heap.size ≤ (w5.drewN nq).heap.size := hsz
              generalize w5.drewN nq = w6 at *
              clear p2 b0 b1 s0 s1 t0 t1
              go_wp2
              go_roundw
              case rel => exact ⟨i + 1, hN1, by go_num, rfl, rfl, ho, T, X, HB, hsz'⟩
              case measure => simp [intOf]; omega
end Go.Proofs.Ytdjambejppanoaa
