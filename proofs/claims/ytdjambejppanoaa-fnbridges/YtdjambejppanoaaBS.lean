/- Bridges of the model. -/
import Derived.Test.YtdjambejppanoaaBM
namespace Go.Proofs.Ytdjambejppanoaa
open Go.RowKit
set_option maxRecDepth 20000 in
set_option maxHeartbeats 3200000 in
theorem cBridgesS (a : Option Addr) (p : Nat) (n : Int) (es : List EdgeV) (w : World) (he : Edges w a es) (hl : es.length ≤ 1048576) :
    Calls Try.prog 21 #[.agg #[.int .i64 n, .slice a es.length p]] w (IntsAns w (BrV n es)) := by
  obtain ⟨i1, hi1, hy0, hy1, hy2⟩ := info_parts infoInts
  have hA1 := btrans (balloc w (.cells #[.int .i64 n, .slice a es.length p] 26)) (balloc _ (.cells #[] 3))
  have X := (Bx2.new w (.int .i64 n) (.slice a es.length p) 26).below (balloc _ (.cells #[] 3))
  have o1 := World.ownsRow_made (e := 3) (size := 1) (w.alloc (.cells #[.int .i64 n, .slice a es.length p] 26)) #[] 0 (Nat.le_refl _) (by omega) rfl
  rw [sz1] at o1
  obtain ⟨b0, b1⟩ := id X
  have CN := cNetS a p n es _ (he.below hA1) hl
  go_enter Try.func21, Try.ntmps21
  cases q1 : netB n es
  · rw [q1] at CN
    have hV : Hid (BrV n es []) := hide (.inr ⟨q1, rfl⟩)
    go_wp2_with fail
    refine CN.mono ?_
    rintro e w1 ⟨rfl, hb⟩
    have HB1 := btrans hA1 hb
    clear hb
    go_wp2
    go_ret
    exact .empty hV.out HB1
  rw [q1] at CN
  obtain ⟨R, hN, hE⟩ := net_rg q1
  obtain ⟨N, rfl⟩ : ∃ N : Nat, n = (N : Int) := ⟨n.toNat, by omega⟩
  go_wp2_with fail
  refine CN.mono ?_
  rintro e w1 ⟨rfl, hb⟩
  have HB1 := btrans hA1 hb
  replace X := X.below hb
  replace o1 := own_keep o1 hb
  clear hb CN b0 b1 hA1
  have hq := hide q1
  clear q1
  go_wp2
  go_loopw [3, 4] (fun ov iv wr => ∃ (i : Nat) (xs : List Int) (ao : Option Addr) (cp : Nat), i ≤ es.length ∧ iv = .int .i64 i ∧ ov = .slice ao xs.length cp ∧ Hid (BrTo es i xs) ∧ wr.ownsRow (w.heap.size + 1) 3 1 (.slice ao xs.length cp) xs.length (xs.map (.int .i64)) ∧ Bx2 wr w.heap.size (.int .i64 (N : Int)) (.slice a es.length p) ∧ Below w.heap.size w wr) (fun _ iv _ => es.length - (intOf iv).toNat)
  case atStart => exact ⟨0, [], _, _, Nat.zero_le _, rfl, rfl, hide (BrTo.nil es), o1, X, HB1⟩
  case round =>
    clear o1 X HB1
    obtain ⟨i, xs, ao, cp, hiN, rfl, rfl, hxs, ho, X, HB⟩ := hrel
    obtain ⟨b0, b1⟩ := id X
    have hxl : xs.length ≤ i := hxs.out.len
    by_cases hlt : i < es.length
    · have hlt' : (i : Int) < (es.length : Int) := by omega
      have CC := fun W (h : Edges W a es) => cCutS a p (N : Int) (i : Int) es W h hl
      rw [(cut_at hq.out hlt).1, (cut_at hq.out hlt).2] at CC
      have hE1 := R.nd i hlt
      have e0 : es[i] = es.getD i EdgeV.zero := by simp [List.getD, hlt]
      rw [e0] at hE1
      obtain ⟨⟨ha0, ha1⟩, ⟨hb0, hb1⟩, -⟩ := hE1
      have hBr := fun ls cs (h : Bst N (es.eraseIdx i) (es.getD i EdgeV.zero).a ls cs) => Brg.bst h ⟨hb0, hb1⟩
      obtain ⟨bk, off, rfl, hc⟩ : ∃ bk off, a = some ⟨bk, off, none⟩ ∧ (∀ i, i < es.length → w.cell? ⟨bk, off + i * 4, none⟩ = some (.int .i64 (es.getD i EdgeV.zero).a) ∧ w.cell? ⟨bk, off + i * 4 + 1, none⟩ = some (.int .i64 (es.getD i EdgeV.zero).b)) := by
        rcases id he with h | ⟨bk, off, h1, h2⟩
        · rw [h] at hlt; simp at hlt
        · exact ⟨bk, off, h1, fun i hi => ⟨(h2 i hi).1, (h2 i hi).2.1⟩⟩
      obtain ⟨ca, cb⟩ := hc i hlt
      generalize (es.getD i EdgeV.zero).a = av at *
      generalize (es.getD i EdgeV.zero).b = bv at *
      obtain ⟨t, rfl⟩ : ∃ t : Nat, av = (t : Int) := ⟨av.toNat, by omega⟩
      obtain ⟨u, rfl⟩ : ∃ u : Nat, bv = (u : Int) := ⟨bv.toNat, by omega⟩
      simp only [Int.toNat_natCast] at hBr
      replace hBr := hide hBr
      have htN : t < N := by omega
      have huN : u < N := by omega
      have y0 := ble HB ca
      have y1 := ble HB cb
      have hNE := hide (netB_erase hq.out i)
      clear hc e0
      go_wp2
      go_region_held3 (fun w' => w'.cell? ⟨bk, off + i * 4, none⟩ = some (.int .i64 (t : Int)) ∧ w'.cell? ⟨w.heap.size, 0, none⟩ = some (.int .i64 (N : Int)) ∧ w'.cell? ⟨w.heap.size, 1, none⟩ = some (.slice (some ⟨bk, off, none⟩) es.length p)) (go_keep)
        (first
          | (go_at_call 46; refine (CC _ (he.below HB.drew)).mono ?_; rintro e w7 ⟨a7, c7, rfl, O7, hb7⟩; have b7 := undrew hb7; have B7 := btrans HB b7; have z0 := ble B7 ca; obtain ⟨u0, u1⟩ := X.below b7)
          | (go_at_call 42; refine (cBestS a7 c7 N _ t _ (Edges.own O7) hNE.out htN).mono ?_; rintro e w8 ⟨gC, cC, gK, cK, ls, cs, rfl, hB, T, hb8⟩; have B8 := btrans B7 hb8; have z1 := ble B8 ca; have b8 := btrans b7 hb8; obtain ⟨u2, u3⟩ := X.below b8))
      have X8 := X.below b8
      have ho8 := own_keep ho b8
      have hB2 := hBr.out ls cs hB
      obtain ⟨f0, f1⟩ := T.atC (i := u) huN
      have hub : (u : Int) < (N : Int) := by omega
      have y8 := ble B8 cb
      have hgC := own_blk_lt T.c gC rfl
      have hw7 := B7.size
      have hws := cell_lt X8.1
      clear hBr hB T hb7 hb8 b7 B7 u0 u1 u2 u3 z0 z1 y0 y1 O7 CC b8 X ho HB b0 b1 f1
      obtain ⟨b0, b1⟩ := id X8
      generalize gI ls u = z at *
      have hob := own_from ho8 (Nat.le_refl _)
      have hA := balloc w8 (.cells #[.int .i64 (i : Int)] 3)
      have XA := X8.below hA
      have HA := btrans B8 hA
      have hoA := own_keep ho8 hA
      have hi9 : i < 1000 := by omega
      by_cases hz : z < 0
      · have hxs2 := hide (hxs.out.yes (hB2.2 hz))
        clear hB2 hxs hA X8 ho8 B8
        go_wp2_with (at_builtin; refine wpList_append_own _ rfl _ _ 29 rfl (w.heap.size + 1) 3 i1 (.int .i64 0) 1 8 Try.underlying29 hi1 hy0 hy1 hy2 rfl (by decide) _ _ _ rfl hoA ⟨w8.heap.size, 0, none⟩ 1 1 [.int .i64 (i : Int)] rfl rfl ?c1 ?c2 ?c3 ?c4 ?c5 ?_)
        case c1 => exact cell_one_new _ _ _
        case c2 => intro x hx; simp at hx; subst hx; rfl
        case c3 => unfold maxLen; omega
        case c4 => omega
        case c5 => simp; omega
        intro v5 w5 hown hgrow _
        obtain ⟨a5, c5, rfl⟩ := own_form hown
        have X5 := XA.far hgrow (fun e => by have := hob _ e.symm; omega)
        have HB5 := HA.grown hgrow HA.size (fun j e => by have := hob j e; omega)
        have ho5 : w5.ownsRow (w.heap.size + 1) 3 1 (.slice a5 (xs ++ [(i : Int)]).length c5) (xs ++ [(i : Int)]).length ((xs ++ [(i : Int)]).map (.int .i64)) := by
          rw [List.length_append, List.map_append]; exact hown
        clear hown hgrow hoA XA HA y8 f0 b0 b1
        go_wp2
        go_roundw
        case rel => exact ⟨i + 1, xs ++ [(i : Int)], a5, c5, by omega, by go_num, by simp, hxs2, ho5, X5, HB5⟩
        case measure => simp [intOf]; omega
      · have hxs2 := hide (hxs.out.no (fun h => hz (hB2.1 h)))
        clear hB2 hxs hA XA HA hoA
        go_wp2
        go_roundw
        case rel => exact ⟨i + 1, xs, ao, cp, by omega, by go_num, rfl, hxs2, ho8, X8, B8⟩
        case measure => simp [intOf]; omega
    · obtain rfl : i = es.length := by omega
      have hV := hide (show BrV (N : Int) es xs from .inl ⟨hq.out, hxs.out⟩)
      go_wp2
      go_ret
      exact ⟨ao, cp, xs, rfl, hV.out, own_base ho (by omega), HB⟩
end Go.Proofs.Ytdjambejppanoaa
