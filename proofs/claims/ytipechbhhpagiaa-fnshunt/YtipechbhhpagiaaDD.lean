/- DrawRight of sidings. -/
import Derived.Test.YtipechbhhpagiaaDC
namespace Go.Proofs.Ytipechbhhpagiaa
open Go.RowKit
def DrawnR (w : World) (cb : Nat) (a : Option Addr) (cap : Nat) (bs : List Int) (e : Ending) (w' : World) : Prop :=
  ∃ rm rws rv v vs, e = .returned (.agg #[rv, v]) ∧ SidP rm rws ∧ rws.length ≤ 4 ∧ SidO w.heap.size w' rv v vs rm rws ∧ Cur w' cb a cap bs ∧ w.grownBy w' (some cb)
set_option maxRecDepth 20000 in
set_option maxHeartbeats 12800000 in
theorem cDrawR (cb cap : Nat) (a : Option Addr) (bs : List Int) (w : World) (hc : Cur w cb a cap bs) (hl : bs.length ≤ 1048576) :
    Calls Try.prog 49 #[.pointer (some ⟨cb, 0, none⟩)] w (DrawnR w cb a cap bs) := by
  obtain ⟨i0, hi0, hz0, hz1, hz2⟩ := info_parts infoInts
  obtain ⟨i1, hi1, hy0, hy1, hy2⟩ := info_parts infoIntS
  have hcl := hc.lt (.inl rfl)
  have hOn : ∀ k, OnCur cb a bs k → k < w.heap.size := fun k hk => hc.lt hk
  have b1 := balloc w (.cells #[.slice none 0 0, .slice none 0 0] 27)
  have b2 := balloc (w.alloc (.cells #[.slice none 0 0, .slice none 0 0] 27)) (.cells #[.slice none 0 0, .slice none 0 0] 27)
  have k2 := heap_alloc_new (w.alloc (.cells #[.slice none 0 0, .slice none 0 0] 27)) (.cells #[.slice none 0 0, .slice none 0 0] 27)
  rw [sz1] at k2
  have S0 : StR w cb a cap bs ((w.alloc (.cells #[.slice none 0 0, .slice none 0 0] 27)).alloc (.cells #[.slice none 0 0, .slice none 0 0] 27)) (.slice none 0 0) (.slice none 0 0) [] [] [] :=
    ⟨⟨RowI.nil _ _, TabR.nil _ _ _, fun j hj => by simp at hj⟩, World.ownsRow_nil _ _ _ _, k2, blk_keep b2 (heap_alloc_new w _), (hc.below b1).below b2, gtrans (gofr _ b1) (gofr _ b2)⟩
  clear b1 b2 k2 hc
  have C := S0.cur
  go_enter Try.func49, Try.ntmps49
  go_wp2_with fail
  refine (cbelow cb cap a bs 50 _ C hl (by omega) (by omega)).mono ?_
  rintro e w1 ⟨g1, rfl, g10, g11, C', G'⟩
  replace S0 := S0.far hcl G' C'
  clear C C' G'
  have C := S0.cur
  go_wp2_with fail
  refine (cbelow cb cap a bs 4 _ C hl (by omega) (by omega)).mono ?_
  rintro e w2 ⟨g2, rfl, g20, g21, C', G'⟩
  replace S0 := S0.far hcl G' C'
  clear C C' G'
  have hn0 : 1 ≤ 1 + g2 ∧ 1 + g2 ≤ 4 := by omega
  go_wp2
  generalize 1 + g2 = n at *
  clear g20 g21
  go_loopw [4, 5, 6, 7, 8] (fun wg ii _ _ _ wr => ∃ (W I : Int) (rv v : Value) (vs : List Value) (rm : List Int) (rws : List (List Int)), wg = .int .i64 W ∧ ii = .int .i64 I ∧ 0 ≤ I ∧ Hid ((rws.length : Int) + I = n) ∧ Hid (Rg rm rws W) ∧ StR w cb a cap bs wr rv v vs rm rws) (fun _ ii _ _ _ _ => (intOf ii).toNat)
  case atStart => exact ⟨1 + g1, n, _, _, [], [], [], rfl, rfl, by omega, hide (by simp), hide ⟨⟨by simp, fun x hx => by simp at hx, by omega, by simp; omega⟩, rfl, fun i hi => by simp at hi, by simp⟩, S0⟩
  case round =>
    clear S0
    obtain ⟨W, I, rv, v, vs, rm, rws, rfl, rfl, I0, hLI, hRg, hS⟩ := hrel
    have hI4 : I ≤ 4 := by have := hLI.out; omega
    have hn4 : rws.length ≤ 4 := by have := hLI.out; omega
    have hn1 : I = 0 → 1 ≤ rws.length := fun h => by have := hLI.out; omega
    have hrl : rm.length ≤ 4 := by have := hRg.out.len; omega
    by_cases hI : 0 < I
    · have C := hS.cur
      go_wp2_with fail
      refine (cbelow cb cap a bs 9 _ C hl (by omega) (by omega)).mono ?_
      rintro e wa ⟨y, rfl, y0, y1, C', G'⟩
      replace hS := hS.far hcl G' C'
      clear C C' G'
      have hr0 : 1 ≤ 1 + y ∧ 1 + y ≤ 9 := by omega
      have A1 := balloc wa (.cells #[] 3)
      have C1 := hS.cur.below A1
      have O0 : (wa.alloc (.cells #[] 3)).ownsRow wa.heap.size 3 1 (.slice (some ⟨wa.heap.size, 0, none⟩) 0 0) 0 (enc []) := World.ownsRow_made wa #[] 0 (Nat.le_refl _) (by unfold maxLen; omega) (by simp)
      have hcw : cb < wa.heap.size := hS.cur.lt (.inl rfl)
      have hOw : ∀ k, OnCur cb a bs k → k < wa.heap.size := fun k hk => hS.cur.lt hk
      obtain ⟨r, hr⟩ : ∃ r, 1 + y = r := ⟨_, rfl⟩
      rw [hr] at hr0
      go_wp2_with fail
      refine (cbelow cb cap a bs (r + 1) _ C1 hl (by omega) (by omega)).mono ?_
      rintro e wb ⟨n2, rfl, n20, n21, C2, G2⟩
      have OA := own_far O0 G2 (fun k hk e => by have := own_from O0 (Nat.le_refl _) k hk; simp at e; omega)
      have GA := gtrans (gofr (some cb) A1) G2
      have hWb : 1 ≤ W ∧ W ≤ 500 := by have h1 := hRg.out.rs.w1; have h2 := hRg.out.rs.w2; have h3 := hRg.out.few; omega
      have hF : Hid (Rs (rws.flatten ++ []) W) := hide (by simpa using hRg.out.rs)
      have hFl : rws.flatten.length ≤ 36 := by have := hRg.out.few; omega
      generalize hFd : rws.flatten = F at hF hFl
      replace hFd := hide hFd
      clear A1 C1 O0 G2 y0 y1 hr
      go_wp2
      go_loopw [4, 7, 8] (fun wg o kk wr2 => ∃ (ms : List Int) (V K : Int), wg = .int .i64 V ∧ kk = .int .i64 K ∧ 0 ≤ K ∧ Hid ((ms.length : Int) + K = n2) ∧ Hid (Rs (F ++ ms) V) ∧ wr2.ownsRow wa.heap.size 3 1 o ms.length (enc ms) ∧ Cur wr2 cb a cap bs ∧ wa.grownBy wr2 (some cb)) (fun _ _ kk _ => (intOf kk).toNat)
      case atStart => exact ⟨[], W, n2, rfl, rfl, n20, hide (by simp), hF, OA, C2, GA⟩
      case round =>
        clear OA GA C2 hF
        obtain ⟨ms, V, K, rfl, rfl, K0, hLK, hV, O, C, hG⟩ := hrel
        obtain ⟨go, co, rfl⟩ := own_form O
        have hml : ms.length ≤ 9 := by have := hLK.out; omega
        have hmr : (ms.length : Int) ≤ r := by have := hLK.out; omega
        have hK4 : K ≤ 9 := by have := hLK.out; omega
        have hVb : 1 ≤ V ∧ V ≤ 500 := by have h1 := hV.out.w1; have h2 := hV.out.w2; simp only [List.length_append] at h2; omega
        by_cases hK : 0 < K
        · have hszg := hG.size
          clear hS
          go_wp2_with (at_builtin; refine wpList_append_own _ rfl _ _ 24 rfl wa.heap.size 3 i0 _ 1 8 Try.underlying24 hi0 hz0 hz1 hz2 rfl (by decide) _ _ _ rfl (O.alloc _) ⟨wr.heap.size, 0, none⟩ 1 1 [.int .i64 V] rfl rfl (World.news_of_block (heap_alloc_new wr _)) (fun u hu => by simp at hu; subst hu; rfl) (by unfold maxLen; omega) (by omega) (by simp; omega) ?_)
          intro v5 w5 hown hgrow _
          have hfrom := own_from O (Nat.le_refl _)
          have C5 : Cur w5 cb a cap bs := (C.below (balloc wr (.cells #[.int .i64 V] 3))).grow (B := wa.heap.size) hOw hgrow hfrom
          have hG5 : wa.grownBy w5 (some cb) := grown_far (gtrans hG (gofr _ (balloc wr (.cells #[.int .i64 V] 3)))) hgrow hfrom
          have O5 : w5.ownsRow wa.heap.size 3 1 v5 (ms ++ [V]).length (enc (ms ++ [V])) := by rw [List.length_append]; simpa [enc] using hown
          clear hown hgrow O C hG hfrom
          have C := C5
          go_wp2_with fail
          refine (cbelow cb cap a bs 9 _ C hl (by omega) (by omega)).mono ?_
          rintro e wd ⟨q, rfl, q0, q1, C', G'⟩
          replace O5 := own_far O5 G' (fun k hk e => by have := own_from O5 (Nat.le_refl _) k hk; simp at e; omega)
          replace hG5 := gtrans hG5 G'
          clear C C5 G'
          have hV2 : Hid (Rs (F ++ (ms ++ [V])) (V + 1 + q)) := hide (by rw [← List.append_assoc]; exact hV.out.snoc q0 (by omega))
          have hL2 : Hid (((ms ++ [V]).length : Int) + (K - 1) = n2) := hide (by have := hLK.out; simp; omega)
          clear hV hLK
          go_wp2
          go_roundw
          case rel => exact ⟨ms ++ [V], V + 1 + q, K - 1, rfl, by go_num, by omega, hL2, hV2, O5, C', hG5⟩
          case measure => simp [intOf]; omega
        · obtain rfl : K = 0 := by omega
          have hlo : ∀ k, SidB rv v vs k → k < wa.heap.size := fun k hk => (hS.sid.blk k hk).2
          have hRg2 : Hid (Rg (rm ++ [r]) (rws ++ [ms]) V) := hide (hRg.out.snoc (by rw [hFd.out]; exact hV.out) hr0.1 hr0.2 hmr hn4)
          have hLI2 : Hid (((rws ++ [ms]).length : Int) + (I - 1) = n) := hide (by have := hLI.out; simp; omega)
          have hwz := lt_of_block hS.box
          replace hS := hS.far hcl hG C
          have hrf := own_from O (Nat.le_refl _)
          have hrt := fun k hk => (own_type O k hk).2.1
          have hgs := hG.size
          clear hV hLK hRg hLI hG C
          obtain ⟨ra, rc, rfl⟩ := own_form hS.own
          obtain ⟨ta, tc, rfl⟩ := own_form hS.sid.tab.own
          obtain ⟨⟨c0, c1⟩, -⟩ := blk2 hS.box
          have hS1 := hS.below hcl (balloc wr (.cells #[.int .i64 r] 3))
          clear hS
          go_wp2_with (at_builtin; refine wpList_append_own_at _ rfl _ _ 24 rfl w.heap.size 3 i0 (.int .i64 0) 1 8 Try.underlying24 hi0 hz0 hz1 hz2 rfl (by decide) _ _ _ rfl hS1.own ⟨wr.heap.size, 0, none⟩ 1 1 [.int .i64 r] rfl rfl ?x2 ?x3 ?x4 ?x5 ?x6 ?_)
          case x3 => rfl
          case x4 => unfold maxLen; omega
          case x5 => omega
          case x6 => omega
          intro v5 w5 hown hgrow _ hwh
          obtain ⟨ra5, rc5, rfl⟩ := own_form hown
          have hO5 : w5.ownsRow w.heap.size 3 1 (.slice ra5 (rm.length + 1) rc5) (rm ++ [r]).length (enc (rm ++ [r])) := by rw [List.length_append]; simpa [enc] using hown
          obtain ⟨hS2, K5⟩ := hS1.room1 hOn hO5 hgrow (by rw [sz1]; exact hwh)
          obtain ⟨⟨d0, d1⟩, f0, f1⟩ := blk2 K5
          have hnR : ∀ k, (Value.slice go ms.length co).ownBlock = some k → some k ≠ (Value.slice ra rm.length rc).ownBlock := fun k hk e => by have h1 := hrf k hk; have h2 := hlo k (.inl e.symm); omega
          have O5 : w5.ownsRow wa.heap.size 3 1 (.slice go ms.length co) ms.length (enc ms) := own_far (own_keep O (balloc wr (.cells #[.int .i64 r] 3))) hgrow hnR
          have O6 : (w5.setCell ⟨w.heap.size + 1, 0, none⟩ (.slice ra5 (rm.length + 1) rc5)).ownsRow wa.heap.size 3 1 (.slice go ms.length co) ms.length (enc ms) := own_set O5 (fun k hk => by have h1 := hrf k hk; omega)
          have hne5 : ∀ k, (Value.slice go ms.length co).ownBlock = some k → (Value.slice ra5 (rm.length + 1) rc5).ownBlock ≠ some k := fun k hk e => by
            have h1 := hrf k hk
            have h2 := hrt k hk
            rcases hwh with q | q
            · rw [q] at e; have := hlo k (.inl e); omega
            · rw [q] at e; have := Option.some.inj e; omega
          have hs5 : w.heap.size ≤ w5.heap.size := by have := hgrow.size; rw [sz1] at this; omega
          have hs6 : (w5.setCell ⟨w.heap.size + 1, 0, none⟩ (.slice ra5 (rm.length + 1) rc5)).heap.size = w5.heap.size := by simp
          obtain ⟨⟨c0', c1'⟩, -⟩ := blk2 hS2.box
          have hS3 := hS2.below hcl (balloc _ (.cells #[.slice go ms.length co] 24))
          have hR3 : RowI ((w5.setCell ⟨w.heap.size + 1, 0, none⟩ (.slice ra5 (rm.length + 1) rc5)).alloc (.cells #[.slice go ms.length co] 24)) w.heap.size (.slice go ms.length co) ms := (RowI.own (own_keep O6 (balloc _ (.cells #[.slice go ms.length co] 24)))).base (by omega)
          clear hS1 hown hgrow hwh O O5 O6 hrt hO5 hS2 K5 c0 c1
          have hnb := heap_alloc_new (w5.setCell ⟨w.heap.size + 1, 0, none⟩ (.slice ra5 (rm.length + 1) rc5)) (.cells #[.slice go ms.length co] 24)
          rw [hs6] at hnb
          go_wp2_with (at_builtin; refine wpList_append_own_at _ rfl _ _ 25 rfl w.heap.size 24 i1 (.slice none 0 0) 1 24 Try.underlying25 hi1 hy0 hy1 hy2 rfl (by decide) _ _ _ rfl hS3.sid.tab.own ⟨w5.heap.size, 0, none⟩ 1 1 [.slice go ms.length co] rfl rfl (World.news_of_block hnb) ?z3 ?z4 ?z5 ?z6 ?_)
          case z3 => first | rfl | (intro u hu; simp at hu; subst hu; rfl)
          case z4 => unfold maxLen; omega
          case z5 => omega
          case z6 => first | omega | (rw [sz1, hs6]; omega)
          intro v7 w7 hown hgrow _ hwh
          obtain ⟨ra7, rc7, rfl⟩ := own_form hown
          obtain ⟨hS4, K7⟩ := hS3.row1 hOn hown hgrow hR3 (fun k hk => ⟨hne5 k hk, fun j hj e => by have h1 := hrf k hk; have h2 := hlo k (.inr (.inr ⟨j, hj, e⟩)); omega⟩)
          obtain ⟨⟨d0, d1⟩, f0, f1⟩ := blk2 K7
          clear hown hgrow hwh hS3 hR3 K7
          go_wp2
          go_roundw
          case rel => exact ⟨V, I - 1, _, _, _, _, _, rfl, by go_num, by omega, hLI2, hRg2, hS4⟩
          case measure => simp [intOf]; omega
    · obtain rfl : I = 0 := by omega
      have hP : Hid (SidP rm rws) := hide (hRg.out.sid (hn1 rfl) hn4)
      obtain ⟨ra, rc, rfl⟩ := own_form hS.own
      obtain ⟨ta, tc, rfl⟩ := own_form hS.sid.tab.own
      obtain ⟨⟨c0, c1⟩, -⟩ := blk2 hS.box
      obtain ⟨⟨r0, r1⟩, f0, f1⟩ := blk2 hS.res
      have hSV := hS.sid.box (p := .slice ra rm.length rc) (q := .slice ta rws.length tc) hS.res
      have KV := box_set (p := .slice ra rm.length rc) (q := .slice ta rws.length tc) hS.res
      have CV : Cur ((wr.setCell ⟨w.heap.size, 0, none⟩ (.slice ra rm.length rc)).setCell ⟨w.heap.size, 1, none⟩ (.slice ta rws.length tc)) cb a cap bs := hS.cur.keep (fun k hk => by have := hOn k hk; rw [heap_setCell (by omega), heap_setCell (by omega)])
      have GV : w.grownBy ((wr.setCell ⟨w.heap.size, 0, none⟩ (.slice ra rm.length rc)).setCell ⟨w.heap.size, 1, none⟩ (.slice ta rws.length tc)) (some cb) := grown_far (grown_far hS.gr (grown_set _ w.heap.size 0 _) (fun k hk => by cases hk; exact Nat.le_refl _)) (grown_set _ w.heap.size 1 _) (fun k hk => by cases hk; exact Nat.le_refl _)
      obtain ⟨⟨v0, v1⟩, -⟩ := blk2 KV
      clear hS KV hLI hRg
      go_wp2
      generalize (wr.setCell ⟨w.heap.size, 0, none⟩ (.slice ra rm.length rc)).setCell ⟨w.heap.size, 1, none⟩ (.slice ta rws.length tc) = V at *
      refine bodyPost_ret (v := .agg #[.slice ra rm.length rc, .slice ta rws.length tc]) (by simp [results, Try.results49, v0, v1, go_sem]) rfl ?_
      exact ⟨_, _, _, _, _, rfl, hP.out, hn4, hSV, CV, GV⟩
end Go.Proofs.Ytipechbhhpagiaa
