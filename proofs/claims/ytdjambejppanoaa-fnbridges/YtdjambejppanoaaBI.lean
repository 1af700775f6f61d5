/- Bridges of the program. -/
import Derived.Test.YtdjambejppanoaaCT
namespace Go.Proofs.Ytdjambejppanoaa
open Go.RowKit
set_option maxRecDepth 20000 in
set_option maxHeartbeats 3200000 in
theorem cBridgesI (a : Option Addr) (p : Nat) (n : Int) (es : List EdgeV) (w : World) (he : Edges w a es) (hl : es.length ≤ 1048576) (hp : es.length ≤ p) (hp2 : p ≤ maxLen) :
    Calls Try.prog 19 #[.agg #[.int .i64 n, .slice a es.length p]] w (IntsAns w (BrV n es)) := by
  obtain ⟨i1, hi1, hy0, hy1, hy2⟩ := info_parts infoInts
  have HB := balloc w (.cells #[.int .i64 n, .slice a es.length p] 26)
  have X := Bx2.new w (.int .i64 n) (.slice a es.length p) 26
  obtain ⟨b0, b1⟩ := id X
  have CN := cNetI a p n es _ (he.below HB) hl
  go_enter Try.func19, Try.ntmps19
  cases q1 : netB n es
  · rw [q1] at CN
    have hV : Hid (BrV n es []) := hide (.inr ⟨q1, rfl⟩)
    go_wp2_with fail
    refine CN.mono ?_
    rintro e w1 ⟨rfl, hb⟩
    have HB1 := btrans HB hb
    clear hb
    go_wp2
    go_ret
    exact .empty hV.out HB1
  rw [q1] at CN
  obtain ⟨R, hN, hE⟩ := net_rg q1
  obtain ⟨N, rfl⟩ : ∃ N : Nat, n = (N : Int) := ⟨n.toNat, by omega⟩
  go_wp2_with fail
  refine CN.mono ?_
  rintro e w1 ⟨rfl, hb⟩
  have HB1 := btrans HB hb
  replace X := X.below hb
  have o1 : w1.ownsRow (w.heap.size + 1) 3 1 (.slice none 0 0) 0 (([] : List Int).map (.int .i64)) := World.ownsRow_nil _ _ _ _
  clear hb CN b0 b1 HB
  obtain ⟨b0, b1⟩ := id X
  have hq := hide q1
  clear q1
  go_wp2
  go_loopw [3, 13] (fun ov iv wr => ∃ (i : Nat) (xs : List Int) (ao : Option Addr) (cp : Nat), i ≤ es.length ∧ iv = .int .i64 i ∧ ov = .slice ao xs.length cp ∧ Hid (BrTo es i xs) ∧ wr.ownsRow (w.heap.size + 1) 3 1 (.slice ao xs.length cp) xs.length (xs.map (.int .i64)) ∧ Bx2 wr w.heap.size (.int .i64 (N : Int)) (.slice a es.length p) ∧ Below w.heap.size w wr) (fun _ iv _ => es.length - (intOf iv).toNat)
  case atStart => exact ⟨0, [], _, _, Nat.zero_le _, rfl, rfl, hide (BrTo.nil es), o1, X, HB1⟩
  case round =>
    clear o1 X HB1 b0 b1
    obtain ⟨i, xs, ao, cp, hiN, rfl, rfl, hxs, ho, X, HB⟩ := hrel
    have hxl : xs.length ≤ i := hxs.out.len
    by_cases hlt : i < es.length
    · have hlt' : (i : Int) < (es.length : Int) := by omega
      have CC := fun W (h : Edges W a es) => cCutI a p (N : Int) (i : Int) es W h hl hp hp2
      rw [(cut_at hq.out hlt).1, (cut_at hq.out hlt).2] at CC
      have hE1 := R.nd i hlt
      have e0 : es[i] = es.getD i EdgeV.zero := by simp [List.getD, hlt]
      rw [e0] at hE1
      obtain ⟨⟨ha0, ha1⟩, ⟨hb0, hb1⟩, -⟩ := hE1
      have hBr := fun rs (h : IsRch (N : Int) (es.eraseIdx i) (es.getD i EdgeV.zero).a rs) => Brg.rch h ⟨hb0, hb1⟩
      obtain ⟨bk, off, rfl, hc⟩ : ∃ bk off, a = some ⟨bk, off, none⟩ ∧ (∀ i, i < es.length → w.cell? ⟨bk, off + i * 4, none⟩ = some (.int .i64 (es.getD i EdgeV.zero).a) ∧ w.cell? ⟨bk, off + i * 4 + 1, none⟩ = some (.int .i64 (es.getD i EdgeV.zero).b) ∧ w.cell? ⟨bk, off + i * 4 + 2, none⟩ = some (.int .i64 (es.getD i EdgeV.zero).l) ∧ w.cell? ⟨bk, off + i * 4 + 3, none⟩ = some (.int .i64 (es.getD i EdgeV.zero).m)) := by
        rcases id he with h | ⟨bk, off, h1, h2⟩
        · rw [h] at hlt; simp at hlt
        · exact ⟨bk, off, h1, h2⟩
      obtain ⟨p0, p1, p2, p3⟩ := hc i hlt
      clear hc e0
      generalize (es.getD i EdgeV.zero).a = av at *
      generalize (es.getD i EdgeV.zero).b = bv at *
      generalize (es.getD i EdgeV.zero).l = l at *
      generalize (es.getD i EdgeV.zero).m = m at *
      obtain ⟨t, rfl⟩ : ∃ t : Nat, av = (t : Int) := ⟨av.toNat, by omega⟩
      obtain ⟨u, rfl⟩ : ∃ u : Nat, bv = (u : Int) := ⟨bv.toNat, by omega⟩
      replace hBr := hide hBr
      have htN : t < N := by omega
      have huN : u < N := by omega
      replace p0 := ble HB p0
      replace p1 := ble HB p1
      replace p2 := ble HB p2
      replace p3 := ble HB p3
      have hNE := hide (netB_erase hq.out i)
      have hal := balloc wr (.cells #[.int .i64 (t : Int), .int .i64 (u : Int), .int .i64 l, .int .i64 m] 41)
      have Z := one_block' wr (.cells #[.int .i64 (t : Int), .int .i64 (u : Int), .int .i64 l, .int .i64 m] 41)
      have HB1 := btrans HB hal
      have X1 := X.below hal
      have ho1 := own_keep ho hal
      have hsz := HB.size
      clear hal HB X ho
      go_upto_region 7 with fail
      clear p0 p1 p2 p3
      generalize wr.alloc (.cells #[.int .i64 (t : Int), .int .i64 (u : Int), .int .i64 l, .int .i64 m] 41) = w2 at *
      generalize wr.heap.size = xb at *
      obtain ⟨b0, b1⟩ := id X1
      obtain ⟨x0, x1, -⟩ := cells3 Z
      go_region_held3 (fun w' => w'.cell? ⟨xb, 0, none⟩ = some (.int .i64 (t : Int)) ∧ w'.cell? ⟨w.heap.size, 0, none⟩ = some (.int .i64 (N : Int)) ∧ w'.cell? ⟨w.heap.size, 1, none⟩ = some (.slice (some ⟨bk, off, none⟩) es.length p)) (go_keep)
        (first
          | (go_at_call 22; refine (CC _ (he.below HB1.drew)).mono ?_; rintro e w7 ⟨a7, c7, rfl, O7, hb7⟩; have b7 := undrew hb7; obtain ⟨u0, u1⟩ := X1.below b7; have z0 := ble b7 x0)
          | (go_at_call 37; refine (cLinesI a7 c7 N _ _ (Edges.own O7) hNE.out).mono ?_; rintro e w8 ⟨mb, mm, rv, D, rfl, hm, L, hb8⟩; have b8 := btrans b7 hb8; obtain ⟨u2, u3⟩ := X1.below b8; have z1 := ble b8 x0)
          | (go_at_call 39; refine (cReachedI mb mm N _ _ rv D t _ L (net_rg hNE.out).1 (by omega) (net_rg hNE.out).2.2 htN).mono ?_; rintro e w9 ⟨a9, c9, rs, rfl, hI, O9, hb9⟩; have b9 := btrans b8 hb9; obtain ⟨u4, u5⟩ := X1.below b9; have z2 := ble b9 x0))
      have hB2 := hBr.out rs hI
      have X9 := X1.below b9
      have ho9 := own_keep ho1 b9
      have B9 := btrans HB1 b9
      have y1 := ble b9 x1
      have hrl : rs.length ≤ 1000 := (RchV.small (n := (N : Int)) (.inl ⟨hNE.out, inB_yes (by omega) (by omega), hI⟩))
      have hrs := Ints.own O9 rfl
      clear hBr hI hb7 hb8 hb9 b7 b8 b9 u0 u1 u2 u3 u4 u5 z0 z1 z2 O7 O9 CC X1 ho1 HB1 b0 b1 L Z x0 x1
      obtain ⟨b0, b1⟩ := id X9
      have hws := cell_lt X9.1
      have hob := own_from ho9 (Nat.le_refl _)
      have hA := balloc w9 (.cells #[.int .i64 (i : Int)] 3)
      have XA := X9.below hA
      have HA := btrans B9 hA
      have hoA := own_keep ho9 hA
      have hi9 : i < 1000 := by omega
      have CI := cContainsInts a9 c9 rs (u : Int) w9 hrs (by omega)
      go_wp2_with fail
      refine CI.mono ?_
      rintro e w10 ⟨rfl, hw⟩
      subst w10
      by_cases hz : (u : Int) ∈ rs
      · have hxs2 := hide (hxs.out.no (fun h => hB2.1 h hz))
        have hzd : decide ((u : Int) ∈ rs) = true := by simpa using hz
        clear hB2 hxs hA XA HA hoA hz CI
        rw [hzd]
        go_wp2
        go_roundw
        case rel => exact ⟨i + 1, xs, ao, cp, by omega, by go_num, rfl, hxs2, ho9, X9, B9⟩
        case measure => simp [intOf]; omega
      · have hxs2 := hide (hxs.out.yes (hB2.2 hz))
        have hzd : decide ((u : Int) ∈ rs) = false := by simpa using hz
        clear hB2 hxs hA X9 ho9 B9 hz CI
        rw [hzd]
        go_wp2_with (at_builtin; refine wpList_append_own _ rfl _ _ 29 rfl (w.heap.size + 1) 3 i1 (.int .i64 0) 1 8 Try.underlying29 hi1 hy0 hy1 hy2 rfl (by decide) _ _ _ rfl hoA ⟨w9.heap.size, 0, none⟩ 1 1 [.int .i64 (i : Int)] rfl rfl ?c1 ?c2 ?c3 ?c4 ?c5 ?_)
        case c1 => exact cell_one_new _ _ _
        case c2 => intro x hx; simp at hx; subst hx; rfl
        case c3 => unfold maxLen; omega
        case c4 => omega
        case c5 => simp; omega
        intro v5 w5 hown hgrow _
        obtain ⟨a5, c5, rfl⟩ := own_form hown
        have X5 := XA.far hgrow (fun e => by have := hob _ e.symm; omega)
        have HB5 := HA.grown hgrow HA.size (fun j e => by have := hob j e; omega)
        have ho5 : w5.ownsRow (w.heap.size + 1) 3 1 (.slice a5 (xs ++ [(i : Int)]).length c5) (xs ++ [(i : Int)]).length ((xs ++ [(i : Int)]).map (.int .i64)) := by
          rw [List.length_append, List.map_append]; exact hown
        clear hown hgrow hoA XA HA y1 b0 b1
        go_wp2
        go_roundw
        case rel => exact ⟨i + 1, xs ++ [(i : Int)], a5, c5, by omega, by go_num, by simp, hxs2, ho5, X5, HB5⟩
        case measure => simp [intOf]; omega
    · obtain rfl : i = es.length := by omega
      have hV := hide (show BrV (N : Int) es xs from .inl ⟨hq.out, hxs.out⟩)
      obtain ⟨b0, b1⟩ := id X
      go_wp2
      go_ret
      exact ⟨ao, cp, xs, rfl, hV.out, own_base ho (by omega), HB⟩
end Go.Proofs.Ytdjambejppanoaa
