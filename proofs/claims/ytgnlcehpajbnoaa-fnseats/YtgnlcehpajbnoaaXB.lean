/- The walk of FnSeats. -/
import Derived.Test.YtgnlcehpajbnoaaXS
import Derived.Deep.RegionHeld3
import Derived.BigQuiet
namespace Go.Proofs.Ytgnlcehpajbnoaa
open Go.RowKit
theorem cell_far {w w' : World} {tb b o : Nat} {v : Value} (hg : w.grownBy w' (some tb)) (h : w.cell? ⟨b, o, none⟩ = some v) (hne : b ≠ tb) : w'.cell? ⟨b, o, none⟩ = some v := by
  have hb := hg.block b (cell_lt h) (by simpa using hne)
  simp only [World.cell?] at h ⊢
  rw [hb]; exact h
theorem Bks.far {w w' : World} {tb : Nat} {a : Option Addr} {es : List BkV} (h : Bks w a es) (hg : w.grownBy w' (some tb)) (hne : ∀ x, a = some x → x.block ≠ tb) : Bks w' a es := by
  rcases h with h | ⟨b, off, rfl, hc⟩
  · exact .inl h
  · have hb : b ≠ tb := hne _ rfl
    refine .inr ⟨b, off, rfl, fun i hi => ?_⟩
    obtain ⟨p0, p1, p2, p3⟩ := hc i hi
    exact ⟨cell_far hg p0 hb, cell_far hg p1 hb, cell_far hg p2 hb, cell_far hg p3 hb⟩
theorem Bks.under {w w' : World} {B : Nat} {a : Option Addr} {es : List BkV} (h : Bks w a es) (hb : Below B w w') (hB : w.heap.size ≤ B) : Bks w' a es := h.below (hb.mono hB)
theorem own_ne {w : World} {B e sz n c : Nat} {a : Option Addr} {xs : List Value} (h : w.ownsRow B e sz (.slice a n c) n xs) {tb : Nat} (ht : w.heap.size ≤ tb) : ∀ x, a = some x → x.block ≠ tb := by
  rintro x rfl e
  have := own_blk_lt h x.block rfl
  omega
theorem own_ge {w : World} {B e sz n c : Nat} {a : Option Addr} {xs : List Value} (h : w.ownsRow B e sz (.slice a n c) n xs) {tb : Nat} (ht : tb < B) : ∀ x, a = some x → x.block ≠ tb := by
  rintro x rfl e
  have := own_from h (Nat.le_refl _) x.block rfl
  omega
/-- What the law's round holds: the next train, and the sale. -/
structure Sv (wr : World) (tb nb sb : Nat) (S P : Int) (ns : List BkV) (na : Option Addr) (nc : Nat) (k i n f : Int) (W : World) : Prop where
  b : Below wr.heap.size wr W
  nx : W.heap[nb]? = some (.cells #[.int .i64 S, .int .i64 P, .slice na ns.length nc] 26 (0, 0))
  x : W.heap[sb]? = some (.cells #[.int .i64 k, .int .i64 i, .int .i64 n, .int .i64 f] 35 (0, 0))
  bn : Bks W na ns
  ne : ∀ z, na = some z → z.block ≠ tb
theorem Sv.below {wr : World} {tb nb sb : Nat} {S P : Int} {ns : List BkV} {na : Option Addr} {nc : Nat} {k i n f : Int} {W W' : World} (h : Sv wr tb nb sb S P ns na nc k i n f W) (hb : Below W.heap.size W W') : Sv wr tb nb sb S P ns na nc k i n f W' :=
  ⟨btrans h.b hb, blk_keep hb h.nx, blk_keep hb h.x, h.bn.below hb, h.ne⟩
theorem set3_grown (w : World) (q : Nat) (x y z : Value) : w.grownBy (((w.setCell ⟨q, 0, none⟩ x).setCell ⟨q, 1, none⟩ y).setCell ⟨q, 2, none⟩ z) (some q) := gtrans (gtrans (grown_set _ _ _ _) (grown_set _ _ _ _)) (grown_set _ _ _ _)
theorem Sv.put {wr : World} {tb nb sb : Nat} {S P : Int} {ns ms : List BkV} {na : Option Addr} {nc g ch : Nat} {k i n f : Int} {W W2 : World} (h : Sv wr tb nb sb S P ns na nc k i n f W) (hb : Below W.heap.size W W2) (ho : W2.ownsRow W.heap.size 78 4 (.slice (some ⟨g, 0, none⟩) ms.length ch) ms.length (flatBks ms)) (h1 : wr.heap.size ≤ nb) (h2 : sb ≠ nb) (ht : tb < wr.heap.size) :
    Sv wr tb nb sb S P ms (some ⟨g, 0, none⟩) ch k i n f (((W2.setCell ⟨nb, 0, none⟩ (.int .i64 S)).setCell ⟨nb, 1, none⟩ (.int .i64 P)).setCell ⟨nb, 2, none⟩ (.slice (some ⟨g, 0, none⟩) ms.length ch)) := by
  have hn := lt_of_block h.nx
  have hg := own_from ho (Nat.le_refl _) g rfl
  have hsz := h.b.size
  refine ⟨below_set h1 (below_set h1 (below_set h1 (btrans h.b hb))), blk_set (i := 2) (blk_set (i := 1) (blk_set (i := 0) (blk_keep hb h.nx))), ?_, (Bks.own ho).far (set3_grown _ _ _ _ _) ?_, ?_⟩
  · exact far_blk (set3_grown _ _ _ _ _) (blk_keep hb h.x) (fun j hj => by simp at hj; omega)
  · rintro z hz; injection hz with hz; subst hz; show g ≠ nb; omega
  · rintro z hz; injection hz with hz; subst hz; show g ≠ tb; omega
/-- What the law's loop holds: the train as it is sold so far. -/
structure Hd (w5 : World) (tb : Nat) (S P : Int) (hs : List BkV) (va : Option Addr) (vc : Nat) (wr : World) : Prop where
  g : w5.grownBy wr (some tb)
  t : wr.heap[tb]? = some (.cells #[.int .i64 S, .int .i64 P, .slice va hs.length vc] 26 (0, 0))
  bt : Bks wr va hs
  ne : ∀ z, va = some z → z.block ≠ tb
theorem Hd.next {w5 wr W : World} {tb nb sb : Nat} {S P : Int} {hs ns : List BkV} {va na : Option Addr} {vc nc : Nat} {k i n f : Int} (h : Hd w5 tb S P hs va vc wr) (s : Sv wr tb nb sb S P ns na nc k i n f W) :
    Hd w5 tb S P ns na nc (((W.setCell ⟨tb, 0, none⟩ (.int .i64 S)).setCell ⟨tb, 1, none⟩ (.int .i64 P)).setCell ⟨tb, 2, none⟩ (.slice na ns.length nc)) :=
  ⟨gtrans (gtrans h.g (gofr _ s.b)) (set3_grown _ _ _ _ _), blk_set (i := 2) (blk_set (i := 1) (blk_set (i := 0) (blk_keep s.b h.t))), s.bn.far (set3_grown _ _ _ _ _) s.ne, s.ne⟩


set_option maxRecDepth 100000 in
set_option maxHeartbeats 12800000 in
theorem walkSeats (a : Option Addr) (cap : Nat) (bs : List Int) (w : World) (hz : Bytes w a bs) (hm : bs.length ≤ maxLen) :
    Calls Try.prog 3 #[.slice a bs.length cap] w fun e w' => e = .returned (.bool true) ∧ Below w.heap.size w w' := by
  by_cases hbig : 1048576 < bs.length
  · have hd : decide (1048576 < bs.length) = true := by simp [hbig]
    go_enter Try.func3, Try.ntmps3
    go_wp2_with fail
    refine (cbig a cap bs.length _ hm).mono ?_
    rintro e w1 ⟨rfl, hw⟩
    subst w1
    rw [hd]
    go_wp2
    go_ret
    exact ⟨rfl, Below.refl _ _⟩
  have hd : decide (1048576 < bs.length) = false := by simp; omega
  have hl : bs.length ≤ 1048576 := by omega
  go_enter Try.func3, Try.ntmps3
  go_wp2_with fail
  refine (cbig a cap bs.length _ hm).mono ?_
  rintro e w1 ⟨rfl, hw⟩
  subst w1
  rw [hd]
  clear hd hbig hm
  go_wp2_with fail
  refine (cDrawT cap a bs _ hz hl).mono ?_
  rintro e w1 ⟨S, P, hs, v, l, v2, rfl, hT, hll, O, O2, HB⟩
  obtain ⟨ha, hcp, rfl⟩ := own_form O
  obtain ⟨sa, sc, rfl⟩ := own_form O2
  have hbx := balloc w1 (.cells #[.int .i64 S, .int .i64 P, .slice ha hs.length hcp] 26)
  have T0 := heap_alloc_new w1 (.cells #[.int .i64 S, .int .i64 P, .slice ha hs.length hcp] 26)
  have HW := btrans HB hbx
  have BI := Bks.own (own_keep O hbx)
  have SI := Sas.own (own_keep O2 hbx)
  have hne := own_ne O (Nat.le_refl _)
  have sne := own_ne O2 (Nat.le_refl _)
  have hhl : hs.length ≤ 1048576 := by have := hT.len; omega
  have hwt := HB.size
  replace hT := hide hT
  clear O O2 hbx HB
  go_wp2_with fail
  generalize w1.alloc (.cells #[.int .i64 S, .int .i64 P, .slice ha hs.length hcp] 26) = wB at *
  generalize w1.heap.size = tb at *
  have CP := cPlayI S P ha hcp hs sa sc l _ BI hhl SI (by omega)
  have hA : playA S P hs l = playV S P hs l := by unfold playA; rw [trainB_iff.2 hT.out, decide_eq_true (show l.length ≤ 200 by omega)]; rfl
  rw [hA] at CP
  clear hA
  refine CP.mono ?_
  rintro e w2 ⟨lgb, lc, v, rfl, OL, OT, hb⟩
  clear CP
  obtain ⟨ta, tc, rfl⟩ := own_form OT
  have htl := lt_of_block T0
  have lne := own_ge OL htl
  have tne := own_ge OT htl
  have hbx := balloc w2 (.cells #[.int .i64 S, .int .i64 P, .slice (some ⟨lgb, 0, none⟩) (playV S P hs l).1.length lc] 26)
  have L0 := heap_alloc_new w2 (.cells #[.int .i64 S, .int .i64 P, .slice (some ⟨lgb, 0, none⟩) (playV S P hs l).1.length lc] 26)
  have hb2 := btrans hb hbx
  replace HW := btrans HW hb2
  have BL := Bks.own (own_keep OL hbx)
  have IT := Ints.own (own_keep OT hbx) rfl
  replace BI := BI.below hb2
  replace SI := SI.below hb2
  replace T0 := blk_keep hb2 T0
  have hlb : tb < w2.heap.size := Nat.lt_of_lt_of_le htl hb.size
  have hlen2 : (playV S P hs l).2.length = l.length := playV_len S P hs l
  have hlq : ((((playV S P hs l).2.length : Nat) : Int) != ((l.length : Nat) : Int)) = false := by rw [bne_eq_false_iff_eq, hlen2]
  obtain ⟨⟨t0, t1, t2⟩, -⟩ := blk3 T0
  clear OL OT hb hbx hb2
  go_wp2_with fail
  generalize w2.alloc (.cells #[.int .i64 S, .int .i64 P, .slice (some ⟨lgb, 0, none⟩) (playV S P hs l).1.length lc] 26) = w3 at *
  generalize w2.heap.size = lb at *
  have CT := cTrainI S P ha hcp hs _ BI hhl
  rw [trainB_iff.2 hT.out] at CT
  refine CT.mono ?_
  rintro e w5 ⟨rfl, hb⟩
  replace HW := btrans HW hb
  replace BI := BI.below hb
  replace SI := SI.below hb
  replace BL := BL.below hb
  replace IT := IT.below hb
  replace T0 := blk_keep hb T0
  replace L0 := blk_keep hb L0
  clear CT hb t0 t1 t2
  have hlne : lb ≠ tb := by omega
  have HH : Hd w5 tb S P (playV S P hs (l.take 0)).1 ha hcp w5 := ⟨⟨rfl, rfl, rfl, Nat.le_refl _, fun _ _ _ => rfl⟩, T0, BI, hne⟩
  have HP : Hid (∀ i, i < l.length → (playV S P hs l).2.getD i 0 = (stepV S P (playV S P hs (l.take i)).1 (l.getD i SaV.zero)).2) := hide (fun i hi => by have := play_at (S := S) (P := P) (hs := hs) (l := l) (i := i) (j := l.length) hi (Nat.le_refl _); rw [List.take_length] at this; exact this)
  have HQ : Hid (∀ i, i < l.length → (playV S P hs (l.take (i + 1))).1 = (stepV S P (playV S P hs (l.take i)).1 (l.getD i SaV.zero)).1) := hide (fun i hi => by rw [playV_take hi]; rfl)
  have HR : Hid (∀ i, Tr S P (playV S P hs (l.take i)).1) := hide (fun i => playV_tr hT.out _)
  have HL : Hid ((playV S P hs (l.take l.length)).1 = (playV S P hs l).1) := hide (by rw [List.take_length])
  clear BI T0 hne
  go_wp2
  go_loopw [7] (fun ii wr => ∃ (i : Nat) (va : Option Addr) (vc : Nat), i ≤ l.length ∧ ii = .int .i64 i ∧ Hd w5 tb S P (playV S P hs (l.take i)).1 va vc wr) (fun ii _ => l.length - (intOf ii).toNat)
  case atStart => exact ⟨0, ha, hcp, Nat.zero_le _, rfl, HH⟩
  case round =>
    clear HH
    obtain ⟨i, va, vc, hi1, rfl, HD⟩ := hrel
    have hTi := HR.out i
    have hhi : (playV S P hs (l.take i)).1.length ≤ 1048576 := by have := hTi.len; omega
    by_cases hlt : i < l.length
    · have hY := HP.out i hlt
      have hNx := hide (HQ.out i hlt)
      rcases SI with h | ⟨sg, so, rfl, hsc⟩
      · simp [h] at hlt
      rcases IT with h | ⟨tg, tof, rfl, htc⟩
      · rw [h] at hlen2; simp at hlen2; omega
      obtain ⟨s0, s1, s2, s3⟩ := hsc i hlt
      have hsg : sg ≠ tb := sne _ rfl
      have htg : tg ≠ tb := tne _ rfl
      replace s0 := cell_far HD.g s0 hsg
      replace s1 := cell_far HD.g s1 hsg
      replace s2 := cell_far HD.g s2 hsg
      replace s3 := cell_far HD.g s3 hsg
      have YC := cell_far HD.g (htc i (by omega)) htg
      rw [hY] at YC
      clear hsc htc hY HP HQ HR HL sne tne BL L0
      generalize (playV S P hs (l.take i)).1 = hi at *
      generalize l.getD i SaV.zero = xi at *
      obtain ⟨k, id, n, f⟩ := xi
      dsimp only at *
      have i0 : (0 : Int) ≤ i := by omega
      have i1 : (i : Int) < l.length := by omega
      have i2 : (i : Int) < (playV S P hs l).2.length := by omega
      obtain ⟨b0, b1⟩ := blocks2 wr (.cells #[.int .i64 k, .int .i64 id, .int .i64 n, .int .i64 f] 35) (.cells #[.int .i64 S, .int .i64 P, .slice va hi.length vc] 26)
      have hAA := btrans (balloc wr (.cells #[.int .i64 k, .int .i64 id, .int .i64 n, .int .i64 f] 35)) (balloc _ (.cells #[.int .i64 S, .int .i64 P, .slice va hi.length vc] 26))
      have SV : Sv wr tb (wr.heap.size + 1) wr.heap.size S P hi va vc k id n f ((wr.alloc (.cells #[.int .i64 k, .int .i64 id, .int .i64 n, .int .i64 f] 35)).alloc (.cells #[.int .i64 S, .int .i64 P, .slice va hi.length vc] 26)) := ⟨hAA, b1, b0, HD.bt.below hAA, HD.ne⟩
      have htb := lt_of_block HD.t
      clear b0 b1 hAA
      obtain ⟨⟨t0, t1, t2⟩, a0, a1, a2⟩ := blk3 HD.t
      have hhn := hhi
      have hTn := hide hTi
      replace hlen2 := hide hlen2
      by_cases hk0 : k = 0
      · have hE : stepV S P hi ⟨k, id, n, f⟩ = bookA S P hi id n f := by unfold stepV bookA; rw [if_pos hk0, trainB_iff.2 hTi]; rfl
        rw [hE] at YC hNx
        clear hE
        subst hk0
        go_wp2_with fail
        generalize ((wr.alloc (.cells #[.int .i64 0, .int .i64 id, .int .i64 n, .int .i64 f] 35)).alloc (.cells #[.int .i64 S, .int .i64 P, .slice va hi.length vc] 26)) = W at *
        clear t0 t1 t2 a0 a1 a2
        refine (cFreeI S P va vc hi n f _ (HD.bt.below SV.b) hhi).mono ?_
        rintro e w6 ⟨vf, rfl, oF, hb⟩
        obtain ⟨fa, fc, rfl⟩ := own_form oF
        have hSz := SV.b.size
        have hnW := lt_of_block SV.nx
        have hSz6 := hb.size
        replace SV := SV.below hb
        clear hb s0 s1 s2 s3
        obtain ⟨⟨t0, t1, t2⟩, a0, a1, a2⟩ := blk3 (blk_keep SV.b HD.t)
        obtain ⟨⟨n0, n1, n2⟩, e0, e1, e2⟩ := blk3 SV.nx
        obtain ⟨⟨x0, x1, x2, x3⟩, -⟩ := blk4 SV.x
        have y0 := ble SV.b YC
        have CB := cBookI S P va vc hi id n f _ (HD.bt.below SV.b) hhi
        have hS := sold hTi id n f
        generalize bookA S P hi id n f = BA at *
        obtain ⟨ms, x⟩ := BA
        dsimp only at CB hS YC hNx
        go_wp2_with fail
        refine CB.mono ?_
        rintro e w7 ⟨g, ch, rfl, o7, hb⟩
        have SVn := SV.put hb o7 (by omega) (by omega) htb
        replace oF := own_keep oF hb
        have oN := own_far oF (set3_grown w7 (wr.heap.size + 1) (.int .i64 S) (.int .i64 P) (.slice (some ⟨g, 0, none⟩) ms.length ch)) (fun q hq e => by have := own_from oF (Nat.le_refl _) q hq; simp at e; omega)
        replace SV := SV.below hb
        clear hb o7 CB oF
        clear t0 t1 t2 a0 a1 a2 n0 n1 n2 e0 e1 e2 x0 x1 x2 x3 y0
        obtain ⟨⟨t0, t1, t2⟩, a0, a1, a2⟩ := blk3 (blk_keep SV.b HD.t)
        obtain ⟨⟨n0, n1, n2⟩, e0, e1, e2⟩ := blk3 SV.nx
        obtain ⟨⟨x0, x1, x2, x3⟩, -⟩ := blk4 SV.x
        have y0 := ble SV.b YC
        rcases hS with ⟨hx, hn⟩ | hS
        · subst hx
          have hn2 := hn.symm
          clear hn
          subst hn2
          clear oN
          go_upto_region 30 with fail
          generalize (((w7.setCell ⟨wr.heap.size + 1, 0, none⟩ (.int .i64 S)).setCell ⟨wr.heap.size + 1, 1, none⟩ (.int .i64 P)).setCell ⟨wr.heap.size + 1, 2, none⟩ (.slice (some ⟨g, 0, none⟩) hi.length ch)) = W8 at *
          clear SV
          have SV := SVn
          clear SVn
          clear t0 t1 t2 a0 a1 a2 n0 n1 n2 e0 e1 e2 x0 x1 x2 x3 y0
          obtain ⟨⟨t0, t1, t2⟩, a0, a1, a2⟩ := blk3 (blk_keep SV.b HD.t)
          obtain ⟨⟨n0, n1, n2⟩, e0, e1, e2⟩ := blk3 SV.nx
          obtain ⟨⟨x0, x1, x2, x3⟩, -⟩ := blk4 SV.x
          have y0 := ble SV.b YC
          have CT := cTrainI S P (some ⟨g, 0, none⟩) ch hi _ SV.bn hhn
          rw [trainB_iff.2 hTn.out] at CT
          go_wp2_with fail
          refine CT.mono ?_
          rintro e wt ⟨rfl, hb⟩
          replace SV := SV.below hb
          clear hb CT
          clear t0 t1 t2 a0 a1 a2 n0 n1 n2 e0 e1 e2 x0 x1 x2 x3 y0
          obtain ⟨⟨t0, t1, t2⟩, a0, a1, a2⟩ := blk3 (blk_keep SV.b HD.t)
          obtain ⟨⟨n0, n1, n2⟩, e0, e1, e2⟩ := blk3 SV.nx
          obtain ⟨⟨x0, x1, x2, x3⟩, -⟩ := blk4 SV.x
          have y0 := ble SV.b YC
          go_wp2_with fail
          refine (cSameTr (some ⟨g, 0, none⟩) va ch vc S P hi _ SV.bn (HD.bt.below SV.b) hhi).mono ?_
          rintro e wu ⟨rfl, hb⟩
          replace SV := SV.below hb
          clear hb
          clear t0 t1 t2 a0 a1 a2 n0 n1 n2 e0 e1 e2 x0 x1 x2 x3 y0
          obtain ⟨⟨t0, t1, t2⟩, a0, a1, a2⟩ := blk3 (blk_keep SV.b HD.t)
          obtain ⟨⟨n0, n1, n2⟩, e0, e1, e2⟩ := blk3 SV.nx
          obtain ⟨⟨x0, x1, x2, x3⟩, -⟩ := blk4 SV.x
          have y0 := ble SV.b YC
          have HN := HD.next SV
          clear SV HD
          go_wp2
          go_roundw
          case rel => exact ⟨i + 1, (some ⟨g, 0, none⟩), ch, by omega, by go_num, by rw [hNx.out]; exact HN⟩
          case measure => simp [intOf]; omega

        · have hx0 := hS.ge
          have hx1 := hS.le
          have hTn2 := hide hS.tr
          have hhn2 : ms.length ≤ 1048576 := by have := hTn2.out.len; omega
          clear hTn hhn
          have hTn := hTn2
          have hhn := hhn2
          clear hTn2 hhn2
          replace hS := hide hS
          go_wp2_with fail
          generalize (((w7.setCell ⟨wr.heap.size + 1, 0, none⟩ (.int .i64 S)).setCell ⟨wr.heap.size + 1, 1, none⟩ (.int .i64 P)).setCell ⟨wr.heap.size + 1, 2, none⟩ (.slice (some ⟨g, 0, none⟩) ms.length ch)) = W8 at *
          have oF := oN
          clear SV oN
          have SV := SVn
          clear SVn
          clear t0 t1 t2 a0 a1 a2 n0 n1 n2 e0 e1 e2 x0 x1 x2 x3 y0
          have CU := cUnbookI S P (some ⟨g, 0, none⟩) ch ms id _ SV.bn hhn
          rw [hS.out.back] at CU
          refine CU.mono ?_
          rintro e wa ⟨ga, gc, rfl, oa, hb⟩
          (try dsimp only at oa)
          replace SV := SV.below hb
          replace oF := own_keep oF hb
          clear hb
          have ba := Bks.own oa
          have hbA := balloc wa (.cells #[.int .i64 S, .int .i64 P, .slice (some ⟨ga, 0, none⟩) hi.length gc] 26)
          have GB := heap_alloc_new wa (.cells #[.int .i64 S, .int .i64 P, .slice (some ⟨ga, 0, none⟩) hi.length gc] 26)
          replace SV := SV.below hbA
          replace oF := own_keep oF hbA
          replace ba := ba.below hbA
          clear hbA oa CU
          obtain ⟨⟨t0, t1, t2⟩, a0, a1, a2⟩ := blk3 (blk_keep SV.b HD.t)
          obtain ⟨⟨n0, n1, n2⟩, e0, e1, e2⟩ := blk3 SV.nx
          obtain ⟨⟨x0, x1, x2, x3⟩, -⟩ := blk4 SV.x
          have y0 := ble SV.b YC
          obtain ⟨⟨u0, u1, u2⟩, -⟩ := blk3 GB
          go_wp2_with fail
          generalize wa.alloc (.cells #[.int .i64 S, .int .i64 P, .slice (some ⟨ga, 0, none⟩) hi.length gc] 26) = wb at *
          generalize wa.heap.size = gb at *
          refine (cSameTr (some ⟨ga, 0, none⟩) va gc vc S P hi _ ba (HD.bt.below SV.b) hhi).mono ?_
          rintro e wc ⟨rfl, hb⟩
          replace SV := SV.below hb
          replace oF := own_keep oF hb
          clear hb
          clear GB ba u0 u1 u2
          clear t0 t1 t2 a0 a1 a2 n0 n1 n2 e0 e1 e2 x0 x1 x2 x3 y0
          obtain ⟨⟨t0, t1, t2⟩, a0, a1, a2⟩ := blk3 (blk_keep SV.b HD.t)
          obtain ⟨⟨n0, n1, n2⟩, e0, e1, e2⟩ := blk3 SV.nx
          obtain ⟨⟨x0, x1, x2, x3⟩, -⟩ := blk4 SV.x
          have y0 := ble SV.b YC
          go_wp2_with fail
          refine (cWithinL fa fc _ x _ (Ints.own oF rfl) (freeL_len _ _ _ _ _)).mono ?_
          rintro e wd ⟨rfl, hw⟩
          subst wd
          rw [hS.out.mem]
          go_wp2_with fail
          refine (cFreeI S P (some ⟨g, 0, none⟩) ch ms n f _ SV.bn hhn).mono ?_
          rintro e wd ⟨v9, rfl, o9, hb⟩
          obtain ⟨fa2, fc2, rfl⟩ := own_form o9
          replace SV := SV.below hb
          replace oF := own_keep oF hb
          clear hb
          clear t0 t1 t2 a0 a1 a2 n0 n1 n2 e0 e1 e2 x0 x1 x2 x3 y0
          obtain ⟨⟨t0, t1, t2⟩, a0, a1, a2⟩ := blk3 (blk_keep SV.b HD.t)
          obtain ⟨⟨n0, n1, n2⟩, e0, e1, e2⟩ := blk3 SV.nx
          obtain ⟨⟨x0, x1, x2, x3⟩, -⟩ := blk4 SV.x
          have y0 := ble SV.b YC
          go_wp2_with fail
          refine (cWithinL fa2 fc2 _ x _ (Ints.own o9 rfl) (freeL_len _ _ _ _ _)).mono ?_
          rintro e we ⟨rfl, hw⟩
          subst we
          rw [hS.out.gone]
          clear o9
          have hLe := hide hS.out.least
          have IFr := Ints.own oF rfl
          have hFl := freeL_len S P hi n f
          clear hS oF
          generalize freeL S P hi n f = F at *
          clear t0 t1 t2 a0 a1 a2 n0 n1 n2 e0 e1 e2 x0 x1 x2 x3 y0
          go_wp2
          generalize wr = wo at *
          go_loopw [14] (fun ii wq => ∃ j : Nat, j ≤ F.length ∧ ii = .int .i64 j ∧ Below wd.heap.size wd wq) (fun ii _ => F.length - (intOf ii).toNat)
          case atStart => exact ⟨0, Nat.zero_le _, rfl, Below.refl _ _⟩
          case round =>
            obtain ⟨j, hj, rfl, hbq⟩ := hrel
            replace SV := SV.below hbq
            by_cases hjl : j < F.length
            · rcases IFr with h | ⟨fg, fo, rfl, hfc⟩
              · simp [h] at hjl
              have cj := ble hbq (hfc j hjl)
              have hmem : F.getD j 0 ∈ F := by simp [List.getD, hjl]
              have hle := hLe.out _ hmem
              clear hfc hmem hLe
              generalize F.getD j 0 = sj at *
              obtain ⟨⟨t0, t1, t2⟩, a0, a1, a2⟩ := blk3 (blk_keep SV.b HD.t)
              obtain ⟨⟨n0, n1, n2⟩, e0, e1, e2⟩ := blk3 SV.nx
              obtain ⟨⟨x0, x1, x2, x3⟩, -⟩ := blk4 SV.x
              have y0 := ble SV.b YC
              have CH1 : ∀ w', Below wo.heap.size wo w' → Calls Try.prog 21 #[.agg #[.int .i64 S, .int .i64 P, .slice va hi.length vc], .int .i64 sj, .int .i64 n, .int .i64 f] w' (fun e w2 => e = .returned (.int .i64 (holeF S P hi sj n f)) ∧ Below w'.heap.size w' w2) := fun w' h => cHoleI S P va vc hi sj n f w' (HD.bt.below h) hhi
              have CH2 : ∀ w', Below wo.heap.size wo w' → Calls Try.prog 21 #[.agg #[.int .i64 S, .int .i64 P, .slice va hi.length vc], .int .i64 x, .int .i64 n, .int .i64 f] w' (fun e w2 => e = .returned (.int .i64 (holeF S P hi x n f)) ∧ Below w'.heap.size w' w2) := fun w' h => cHoleI S P va vc hi x n f w' (HD.bt.below h) hhi
              generalize holeF S P hi sj n f = h1 at *
              generalize holeF S P hi x n f = h2 at *
              have hDq : Below wo.heap.size wo wr.drew := SV.b.drew
              have hqd : Below wr.heap.size wr wr.drew := (Below.refl _ _).drew
              have j0 : (0 : Int) ≤ j := by omega
              have j1 : (j : Int) < F.length := by omega
              go_wp2_with fail
              go_region_held3 (fun w' => w'.cell? ⟨tb, 0, none⟩ = some (.int .i64 S) ∧ w'.cell? ⟨tb, 1, none⟩ = some (.int .i64 P) ∧ w'.cell? ⟨tb, 2, none⟩ = some (.slice va hi.length vc) ∧ w'.cell? ⟨wo.heap.size, 2, none⟩ = some (.int .i64 n) ∧ w'.cell? ⟨wo.heap.size, 3, none⟩ = some (.int .i64 f) ∧ w'.cell? ⟨fg, fo + j, none⟩ = some (.int .i64 sj)) (go_keep) (first
                | (go_at_call 21; with_reducible refine (CH2 _ by1).mono ?_; rintro e wy ⟨rfl, hby⟩; have byy := btrans bz1 hby; obtain ⟨⟨c0, c1, c2⟩, -⟩ := blk3 (blk_keep (btrans by1 hby) HD.t); obtain ⟨⟨c3, c4, c5, c6⟩, -⟩ := blk4 (blk_keep byy SV.x); have cjy := ble byy cj)
                | (go_at_call 21; with_reducible refine (CH1 _ hDq).mono ?_; rintro e wz ⟨rfl, hbz⟩; have by1 := btrans hDq hbz; have bz1 := btrans hqd hbz; obtain ⟨⟨d0, d1, d2⟩, -⟩ := blk3 (blk_keep by1 HD.t); obtain ⟨⟨d3, d4, d5, d6⟩, -⟩ := blk4 (blk_keep bz1 SV.x); have cjz := ble bz1 cj))
              clear CH1 CH2
              go_wp2
              go_roundw
              case rel => exact ⟨j + 1, by omega, by go_num, btrans hbq byy⟩
              case measure => simp [intOf]; omega
            · obtain rfl : j = F.length := by omega
              clear IFr hLe
              obtain ⟨⟨t0, t1, t2⟩, a0, a1, a2⟩ := blk3 (blk_keep SV.b HD.t)
              obtain ⟨⟨n0, n1, n2⟩, e0, e1, e2⟩ := blk3 SV.nx
              obtain ⟨⟨x0, x1, x2, x3⟩, -⟩ := blk4 SV.x
              have y0 := ble SV.b YC
              go_upto_region 30 with fail
              have CT := cTrainI S P (some ⟨g, 0, none⟩) ch ms _ SV.bn hhn
              rw [trainB_iff.2 hTn.out] at CT
              go_wp2_with fail
              refine CT.mono ?_
              rintro e wt ⟨rfl, hb⟩
              replace SV := SV.below hb
              clear hb CT
              clear t0 t1 t2 a0 a1 a2 n0 n1 n2 e0 e1 e2 x0 x1 x2 x3 y0
              obtain ⟨⟨t0, t1, t2⟩, a0, a1, a2⟩ := blk3 (blk_keep SV.b HD.t)
              obtain ⟨⟨n0, n1, n2⟩, e0, e1, e2⟩ := blk3 SV.nx
              obtain ⟨⟨x0, x1, x2, x3⟩, -⟩ := blk4 SV.x
              have y0 := ble SV.b YC
              have HN := HD.next SV
              clear SV HD
              go_wp2
              go_roundw
              case rel => exact ⟨i + 1, (some ⟨g, 0, none⟩), ch, by omega, by go_num, by rw [hNx.out]; exact HN⟩
              case measure => simp [intOf]; omega
      · by_cases hk1 : k = 1
        · have hE : stepV S P hi ⟨k, id, n, f⟩ = (unbV hi id, if hasI hi id then 0 else -1) := by unfold stepV; rw [if_neg hk0, if_pos hk1]
          rw [hE] at YC hNx
          clear hE hk0
          subst hk1
          have CU := cUnbookI S P va vc hi id _ (HD.bt.below SV.b) hhi
          rw [unb_tr hTi] at CU
          go_wp2_with fail
          generalize ((wr.alloc (.cells #[.int .i64 1, .int .i64 id, .int .i64 n, .int .i64 f] 35)).alloc (.cells #[.int .i64 S, .int .i64 P, .slice va hi.length vc] 26)) = W at *
          clear t0 t1 t2 a0 a1 a2
          refine CU.mono ?_
          rintro e w7 ⟨g, ch, rfl, o7, hb⟩
          (try dsimp only at o7)
          clear CU s0 s1 s2 s3
          have hSz := SV.b.size
          have SVb := SV.below hb
          have SVn := SV.put hb o7 (by omega) (by omega) htb
          replace SV := SVb
          clear hb o7 SVb
          obtain ⟨⟨t0, t1, t2⟩, a0, a1, a2⟩ := blk3 (blk_keep SV.b HD.t)
          obtain ⟨⟨n0, n1, n2⟩, e0, e1, e2⟩ := blk3 SV.nx
          obtain ⟨⟨x0, x1, x2, x3⟩, -⟩ := blk4 SV.x
          have y0 := ble SV.b YC
          have hTn2 := hide (hTi.out id)
          have hhn2 : (unbV hi id).length ≤ 1048576 := by have := hTn2.out.len; omega
          clear hTn hhn
          have hTn := hTn2
          have hhn := hhn2
          clear hTn2 hhn2
          cases hH : hasI hi id
          · rw [hH] at YC
            replace YC : wr.cell? ⟨tg, tof + i, none⟩ = some (.int .i64 (-1)) := YC
            replace hNx : Hid ((playV S P hs (l.take (i + 1))).1 = unbV hi id) := hNx
            have hu := unbV_no hH
            generalize unbV hi id = us at *
            have hu2 := hu.symm
            clear hu
            subst hu2
            go_upto_region 30 with fail
            generalize (((w7.setCell ⟨wr.heap.size + 1, 0, none⟩ (.int .i64 S)).setCell ⟨wr.heap.size + 1, 1, none⟩ (.int .i64 P)).setCell ⟨wr.heap.size + 1, 2, none⟩ (.slice (some ⟨g, 0, none⟩) hi.length ch)) = W8 at *
            clear SV
            have SV := SVn
            clear SVn
            clear t0 t1 t2 a0 a1 a2 n0 n1 n2 e0 e1 e2 x0 x1 x2 x3 y0
            obtain ⟨⟨t0, t1, t2⟩, a0, a1, a2⟩ := blk3 (blk_keep SV.b HD.t)
            obtain ⟨⟨n0, n1, n2⟩, e0, e1, e2⟩ := blk3 SV.nx
            obtain ⟨⟨x0, x1, x2, x3⟩, -⟩ := blk4 SV.x
            have y0 := ble SV.b YC
            have CT := cTrainI S P (some ⟨g, 0, none⟩) ch hi _ SV.bn hhn
            rw [trainB_iff.2 hTn.out] at CT
            go_wp2_with fail
            refine CT.mono ?_
            rintro e wt ⟨rfl, hb⟩
            replace SV := SV.below hb
            clear hb CT
            clear t0 t1 t2 a0 a1 a2 n0 n1 n2 e0 e1 e2 x0 x1 x2 x3 y0
            obtain ⟨⟨t0, t1, t2⟩, a0, a1, a2⟩ := blk3 (blk_keep SV.b HD.t)
            obtain ⟨⟨n0, n1, n2⟩, e0, e1, e2⟩ := blk3 SV.nx
            obtain ⟨⟨x0, x1, x2, x3⟩, -⟩ := blk4 SV.x
            have y0 := ble SV.b YC
            go_wp2_with fail
            refine (cSameTr (some ⟨g, 0, none⟩) va ch vc S P hi _ SV.bn (HD.bt.below SV.b) hhi).mono ?_
            rintro e wu ⟨rfl, hb⟩
            replace SV := SV.below hb
            clear hb
            clear t0 t1 t2 a0 a1 a2 n0 n1 n2 e0 e1 e2 x0 x1 x2 x3 y0
            obtain ⟨⟨t0, t1, t2⟩, a0, a1, a2⟩ := blk3 (blk_keep SV.b HD.t)
            obtain ⟨⟨n0, n1, n2⟩, e0, e1, e2⟩ := blk3 SV.nx
            obtain ⟨⟨x0, x1, x2, x3⟩, -⟩ := blk4 SV.x
            have y0 := ble SV.b YC
            have HN := HD.next SV
            clear SV HD
            go_wp2
            go_roundw
            case rel => exact ⟨i + 1, (some ⟨g, 0, none⟩), ch, by omega, by go_num, by rw [hNx.out]; exact HN⟩
            case measure => simp [intOf]; omega

          · rw [hH] at YC
            replace YC : wr.cell? ⟨tg, tof + i, none⟩ = some (.int .i64 0) := YC
            replace hNx : Hid ((playV S P hs (l.take (i + 1))).1 = unbV hi id) := hNx
            generalize unbV hi id = us at *
            go_upto_region 30 with fail
            generalize (((w7.setCell ⟨wr.heap.size + 1, 0, none⟩ (.int .i64 S)).setCell ⟨wr.heap.size + 1, 1, none⟩ (.int .i64 P)).setCell ⟨wr.heap.size + 1, 2, none⟩ (.slice (some ⟨g, 0, none⟩) us.length ch)) = W8 at *
            clear SV
            have SV := SVn
            clear SVn
            clear t0 t1 t2 a0 a1 a2 n0 n1 n2 e0 e1 e2 x0 x1 x2 x3 y0
            obtain ⟨⟨t0, t1, t2⟩, a0, a1, a2⟩ := blk3 (blk_keep SV.b HD.t)
            obtain ⟨⟨n0, n1, n2⟩, e0, e1, e2⟩ := blk3 SV.nx
            obtain ⟨⟨x0, x1, x2, x3⟩, -⟩ := blk4 SV.x
            have y0 := ble SV.b YC
            have CT := cTrainI S P (some ⟨g, 0, none⟩) ch us _ SV.bn hhn
            rw [trainB_iff.2 hTn.out] at CT
            go_wp2_with fail
            refine CT.mono ?_
            rintro e wt ⟨rfl, hb⟩
            replace SV := SV.below hb
            clear hb CT
            clear t0 t1 t2 a0 a1 a2 n0 n1 n2 e0 e1 e2 x0 x1 x2 x3 y0
            obtain ⟨⟨t0, t1, t2⟩, a0, a1, a2⟩ := blk3 (blk_keep SV.b HD.t)
            obtain ⟨⟨n0, n1, n2⟩, e0, e1, e2⟩ := blk3 SV.nx
            obtain ⟨⟨x0, x1, x2, x3⟩, -⟩ := blk4 SV.x
            have y0 := ble SV.b YC
            have HN := HD.next SV
            clear SV HD
            go_wp2
            go_roundw
            case rel => exact ⟨i + 1, (some ⟨g, 0, none⟩), ch, by omega, by go_num, by rw [hNx.out]; exact HN⟩
            case measure => simp [intOf]; omega
        · have hE : stepV S P hi ⟨k, id, n, f⟩ = (hi, -1) := by unfold stepV; rw [if_neg hk0, if_neg hk1]
          rw [hE] at YC hNx
          clear hE
          dsimp only at YC hNx
          have y0 := ble SV.b YC
          go_upto_region 30 with fail
          clear s0 s1 s2 s3
          generalize ((wr.alloc (.cells #[.int .i64 k, .int .i64 id, .int .i64 n, .int .i64 f] 35)).alloc (.cells #[.int .i64 S, .int .i64 P, .slice va hi.length vc] 26)) = W at *
          clear t0 t1 t2 a0 a1 a2
          clear y0
          obtain ⟨⟨t0, t1, t2⟩, a0, a1, a2⟩ := blk3 (blk_keep SV.b HD.t)
          obtain ⟨⟨n0, n1, n2⟩, e0, e1, e2⟩ := blk3 SV.nx
          obtain ⟨⟨x0, x1, x2, x3⟩, -⟩ := blk4 SV.x
          have y0 := ble SV.b YC
          have CT := cTrainI S P va vc hi _ SV.bn hhn
          rw [trainB_iff.2 hTn.out] at CT
          go_wp2_with fail
          refine CT.mono ?_
          rintro e wt ⟨rfl, hb⟩
          replace SV := SV.below hb
          clear hb CT
          clear t0 t1 t2 a0 a1 a2 n0 n1 n2 e0 e1 e2 x0 x1 x2 x3 y0
          obtain ⟨⟨t0, t1, t2⟩, a0, a1, a2⟩ := blk3 (blk_keep SV.b HD.t)
          obtain ⟨⟨n0, n1, n2⟩, e0, e1, e2⟩ := blk3 SV.nx
          obtain ⟨⟨x0, x1, x2, x3⟩, -⟩ := blk4 SV.x
          have y0 := ble SV.b YC
          go_wp2_with fail
          refine (cSameTr va va vc vc S P hi _ SV.bn (HD.bt.below SV.b) hhi).mono ?_
          rintro e wu ⟨rfl, hb⟩
          replace SV := SV.below hb
          clear hb
          clear t0 t1 t2 a0 a1 a2 n0 n1 n2 e0 e1 e2 x0 x1 x2 x3 y0
          obtain ⟨⟨t0, t1, t2⟩, a0, a1, a2⟩ := blk3 (blk_keep SV.b HD.t)
          obtain ⟨⟨n0, n1, n2⟩, e0, e1, e2⟩ := blk3 SV.nx
          obtain ⟨⟨x0, x1, x2, x3⟩, -⟩ := blk4 SV.x
          have y0 := ble SV.b YC
          have HN := HD.next SV
          clear SV HD
          go_wp2
          go_roundw
          case rel => exact ⟨i + 1, va, vc, by omega, by go_num, by rw [hNx.out]; exact HN⟩
          case measure => simp [intOf]; omega
    · obtain rfl : i = l.length := by omega
      have hbl := BL.far HD.g lne
      have hLL := HL.out
      rw [hLL] at HD hhi
      obtain ⟨⟨t0, t1, t2⟩, -⟩ := blk3 HD.t
      obtain ⟨⟨l0, l1, l2⟩, -⟩ := blk3 (far_blk HD.g L0 (fun j hj => by simp at hj; omega))
      have CS := cSameTr va (some ⟨lgb, 0, none⟩) vc lc S P (playV S P hs l).1 _ HD.bt hbl hhi
      have hBW : Below w.heap.size w wr := HW.grown HD.g HW.size (fun k hk => by simp at hk; omega)
      clear HP HQ HR HL
      go_wp2_with fail
      refine CS.mono ?_
      rintro e w9 ⟨rfl, hb⟩
      go_wp2
      go_ret
      exact ⟨rfl, btrans hBW hb⟩

end Go.Proofs.Ytgnlcehpajbnoaa
