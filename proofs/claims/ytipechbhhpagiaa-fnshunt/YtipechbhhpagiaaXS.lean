/- The walk of FnShunt. -/
import Derived.Test.YtipechbhhpagiaaXT
import Derived.Deep.RegionHeld3
import Derived.BigQuiet
namespace Go.Proofs.Ytipechbhhpagiaa
open Go.RowKit
theorem shsat {w : World} {B lb lo lc : Nat} {l : List ShV} {k : Nat} (h : w.ownsRow B 37 3 (.slice (some ⟨lb, lo, none⟩) l.length lc) l.length (flatShs l)) (hk : k < l.length) :
    w.cell? ⟨lb, lo + k * 3, none⟩ = some (.int .i64 (l.getD k ShV.zero).f) ∧ w.cell? ⟨lb, lo + k * 3 + 1, none⟩ = some (.int .i64 (l.getD k ShV.zero).t) ∧ w.cell? ⟨lb, lo + k * 3 + 2, none⟩ = some (.int .i64 (l.getD k ShV.zero).m) := by
  rcases Shs.own h with q | ⟨b, off, e, q⟩
  · simp [q] at hk
  · simp only [Option.some.injEq, Addr.mk.injEq] at e
    obtain ⟨rfl, rfl, -⟩ := e
    exact q k hk

theorem tabAt {e B g o n c : Nat} {w : World} {vs : List Value} {xss : List (List Int)} (h : TabR e B w (.slice (some ⟨g, o, none⟩) n c) vs xss) {k : Nat} (hk : k < xss.length) :
    ∃ a d, w.cell? ⟨g, o + k, none⟩ = some (.slice a (rwA xss k).length d) ∧ Ints w a (rwA xss k) := by
  have hl := h.len
  have R := h.rowsW
  obtain ⟨ai, ci, h1, h2, -⟩ := R.each k (by omega)
  rcases R.cell with q | ⟨b, off, e1, q⟩
  · simp [q] at hk
  · simp only [Option.some.injEq, Addr.mk.injEq] at e1
    obtain ⟨rfl, rfl, -⟩ := e1
    have := q k (by omega)
    rw [h1] at this
    exact ⟨ai, ci, this, h2⟩

set_option maxRecDepth 20000 in
set_option maxHeartbeats 25600000 in
theorem walkShuntD (a : Option Addr) (cap : Nat) (bs : List Int) (w : World) (hz : Bytes w a bs) (hn : bs.length ≤ maxLen) :
    Calls Try.prog 3 #[.slice a bs.length cap] w fun e w' => e = .returned (.bool true) ∧ Below w.heap.size w w' := by
  go_enter Try.func3, Try.ntmps3
  go_wp2_with fail
  refine (cbig a cap bs.length _ hn).mono ?_
  rintro e w1 ⟨rfl, hw⟩
  subst w1
  by_cases hB : 1048576 < bs.length
  · rw [decide_eq_true hB]
    go_wp2
    go_ret
    exact ⟨rfl, Below.refl _ _⟩
  rw [decide_eq_false hB]
  have hl : bs.length ≤ 1048576 := by omega
  clear hB
  go_wp2_with fail
  refine (cDrawY cap a bs _ hz hl).mono ?_
  rintro e w1 ⟨rm, rws, rv, v, vs, l, lv, rfl, hP, hn4, hll, S1, O1, B1⟩
  obtain ⟨ra, rc, ta, tc, rfl, rfl, -⟩ := S1.arg
  obtain ⟨la, lc, rfl⟩ := own_form O1
  have b2 := balloc w1 (.cells #[.slice ra rm.length rc, .slice ta rws.length tc] 27)
  have KA := heap_alloc_new w1 (.cells #[.slice ra rm.length rc, .slice ta rws.length tc] 27)
  obtain ⟨⟨p0, p1⟩, -⟩ := blk2 KA
  have S2 := S1.below b2
  have O2 := own_keep O1 b2
  have B2 := btrans B1 b2
  have hAw := B1.size
  have CP := cPlayO _ _ _ _ _ vs rm rws l _ S2 O2 hP hll
  clear S1 O1 b2 B1 hz
  go_wp2_with fail
  refine CP.1.mono ?_
  clear CP p0 p1
  generalize w1.alloc (.cells #[.slice ra rm.length rc, .slice ta rws.length tc] 27) = W2 at *
  rintro e w3 ⟨rvl, vl, vsl, cv, rfl, SL3, OC3, -, b3⟩
  obtain ⟨ral, rcl, tal, tcl, rfl, hvl, -⟩ := SL3.arg
  rw [playR_len] at hvl
  obtain ⟨ca, cc, hcv⟩ := own_form OC3
  rw [playC_len] at hcv
  subst hvl hcv
  have hcl : Hid ((playC rm rws l).length = l.length) := hide playC_len
  have hrl : Hid ((playR rm rws l).length = rws.length) := hide playR_len
  generalize hrwl : playR rm rws l = rwl at *
  generalize hcs : playC rm rws l = cs at *
  replace hrwl := hide hrwl
  replace hcs := hide hcs
  have b4 := balloc w3 (.cells #[.slice ral rm.length rcl, .slice tal rws.length tcl] 27)
  have KL := heap_alloc_new w3 (.cells #[.slice ral rm.length rcl, .slice tal rws.length tcl] 27)
  have S4 := (S2.below b3).below b4
  have SL4 := (SL3.base (B' := w.heap.size) B2.size).below b4
  have O4 := own_keep (own_keep O2 b3) b4
  have OC4 := own_keep (ownsb OC3 (B' := w.heap.size) B2.size) b4
  have KA4 := blk_keep b4 (blk_keep b3 KA)
  have hA3 := lt_of_block (blk_keep b3 KA)
  have B4 := btrans (btrans B2 b3) b4
  obtain ⟨⟨p0, p1⟩, -⟩ := blk2 KA4
  have CSI := cSidO _ _ _ vs rm rws _ S4 hP
  clear S2 O2 B2 KA SL3 OC3 b3 b4
  go_wp2_with fail
  refine CSI.mono ?_
  clear CSI p0 p1
  generalize w3.alloc (.cells #[.slice ral rm.length rcl, .slice tal rws.length tcl] 27) = W4 at *
  rintro e w5 ⟨rfl, b5⟩
  have H5 : HdS w w1.heap.size w3.heap.size (.slice ra rm.length rc) (.slice ta rws.length tc) vs (.slice ral rm.length rcl) (.slice tal rws.length tcl) vsl rm rws rwl (.slice ca l.length cc) cs (.slice la l.length lc) l w5 := HdS.below ⟨S4, SL4, KA4, KL, OC4, O4, B4⟩ b5
  clear S4 SL4 KA4 KL OC4 O4 B4 b5
  obtain ⟨⟨p0, p1⟩, -⟩ := blk2 H5.kA
  obtain ⟨⟨-, q1⟩, -⟩ := blk2 H5.kL
  have hL5 := lt_of_block H5.kL
  have hA5 := lt_of_block H5.kA
  have hw5 := H5.bel.size
  have b6 := balloc w5 (.cells #[.slice ra rm.length rc, .slice ta rws.length tc] 27)
  have H6 := H5.below b6
  have N6 : NowS w w5.heap.size (.slice ra rm.length rc) (.slice ta rws.length tc) vs rm (playR rm rws (l.take 0)) (w5.alloc (.cells #[.slice ra rm.length rc, .slice ta rws.length tc] 27)) := ⟨by simpa [playR] using H6.sid, heap_alloc_new w5 _⟩
  clear H5 b6
  go_wp2
  generalize w5.alloc (.cells #[.slice ra rm.length rc, .slice ta rws.length tc] 27) = W6 at *
  clear p0 p1 q1
  have hAN : w1.heap.size ≠ w5.heap.size := by omega
  have hLN : w3.heap.size ≠ w5.heap.size := by omega
  have hwN : w.heap.size ≤ w5.heap.size := by omega
  clear hL5 hA5 hw5 hA3 hAw
  generalize w1.heap.size = A at *
  generalize w3.heap.size = L at *
  generalize w5.heap.size = N at *
  go_loopw [8, 9, 10, 11, 12] (fun i _ _ _ _ wr => ∃ (k : Nat) (ran : Option Addr) (rcn : Nat) (tan : Option Addr) (tcn : Nat) (vsn : List Value), k ≤ l.length ∧ i = .int .i64 k ∧ HdS w A L (.slice ra rm.length rc) (.slice ta rws.length tc) vs (.slice ral rm.length rcl) (.slice tal rws.length tcl) vsl rm rws rwl (.slice ca l.length cc) cs (.slice la l.length lc) l wr ∧ NowS w N (.slice ran rm.length rcn) (.slice tan rws.length tcn) vsn rm (playR rm rws (l.take k)) wr) (fun i _ _ _ _ _ => l.length - (intOf i).toNat)
  case atStart => exact ⟨0, _, _, _, _, vs, by omega, rfl, H6, N6⟩
  case round =>
    clear H6 N6
    obtain ⟨k, ran, rcn, tan, tcn, vsn, hk, rfl, H, NW⟩ := hrel
    by_cases hlt : k < l.length
    · obtain ⟨lb, lo, rfl⟩ : ∃ b off, la = some ⟨b, off, none⟩ := by
        rcases Shs.own H.list with q | ⟨b, off, q, -⟩
        · simp [q] at hlt
        · exact ⟨b, off, q⟩
      have hbd : Below wr.heap.size wr wr.drew := bdraw (Below.refl _ _) 1
      have Hd := H.below hbd
      have Nd := NW.below hbd
      have hPk := hide (hP.play (xs := l.take k))
      have hnx := hide (play_next (room := rm) (rows := rws) hlt)
      have hcode := hide (play_code (room := rm) (rows := rws) hlt)
      rw [hcs.out] at hcode
      obtain ⟨d2, d3, d4⟩ := shsat Hd.list hlt
      obtain ⟨⟨d0, d1⟩, -⟩ := blk2 Nd.kN
      have hrkl : Hid ((playR rm rws (l.take k)).length = rws.length) := hide playR_len
      obtain ⟨x, hxk⟩ : ∃ x, l.getD k ShV.zero = x := ⟨_, rfl⟩
      rw [hxk] at d2 d3 d4 hcode hnx
      replace hxk := hide hxk
      generalize playR rm rws (l.take k) = rk at *
      obtain ⟨cd, hcd⟩ : ∃ cd, codeS rm rk x = cd := ⟨_, rfl⟩
      have CO := fun w9 h => cOneO w.heap.size (.slice ran rm.length rcn) (.slice tan rws.length tcn) vsn rm rk x w9 h hPk.out
      rw [hcd] at CO hcode
      replace hcd := hide hcd
      unfold ShV.val at CO
      have hl8 : Hid ((leftS rm rk x).length = rws.length) := hide (by rw [leftS_len]; exact hrkl.out)
      have hsd : w.heap.size ≤ wr.drew.heap.size := Hd.bel.size
      have Sd := Nd.sid
      clear H NW hbd
      go_wp2_with fail
      refine wp_region_held_drew (S := (fun w' => w'.cell? ⟨N, 0, none⟩ = some (.slice ran rm.length rcn) ∧ w'.cell? ⟨N, 1, none⟩ = some (.slice tan rws.length tcn) ∧ w'.cell? ⟨lb, lo + k * 3, none⟩ = some (.int .i64 x.f) ∧ w'.cell? ⟨lb, lo + k * 3 + 1, none⟩ = some (.int .i64 x.t) ∧ w'.cell? ⟨lb, lo + k * 3 + 2, none⟩ = some (.int .i64 x.m))) (by kernel_rfl) ?_ (fun hHeld => ?_)
      · exact ⟨d0, d1, d2, d3, d4⟩
      have B0 : Below wr.drew.heap.size wr.drew wr.drew := Below.refl _ _
      generalize wr.drew = wd at *
      refine wpAnyH_take (i := 0) (v := .agg #[.slice ran rm.length rcn, .slice tan rws.length tcn]) rfl (by kernel_rfl) (by kernel_rfl) (by kernel_rfl) (fun _ _ _ h => h) (Or.inl ⟨by kernel_rfl, fun w hS => by (obtain ⟨hS0, hS1, hS2, hS3, hS4⟩ := hS; go_simp)⟩) hHeld ?_
      change wpAnyH _ _ _ _ _ _ _ { tmps := List.toArray (_ :: _ :: _ :: _ :: _ :: _ :: _ :: _ :: _ :: _ :: _ :: _ :: _ :: _ :: _ :: _ :: _ :: _ :: _ :: _ :: _ :: _ :: _ :: _ :: _ :: _ :: _ :: _ :: _ :: _ :: _ :: _ :: _ :: _ :: _ :: _ :: _ :: _ :: _ :: _ :: _ :: _ :: _ :: _ :: _ :: _ :: _ :: _ :: _ :: _ :: _ :: _ :: _ :: _ :: _ :: _ :: _ :: _ :: _ :: _ :: .agg #[.slice ran rm.length rcn, .slice tan rws.length tcn] :: _ :: _ :: _ :: _ :: _ :: _ :: _ :: _ :: _ :: _ :: _ :: _ :: _ :: _ :: _ :: _ :: _ :: _ :: _ :: _ :: _ :: _ :: _ :: _ :: _ :: _ :: _ :: _ :: _ :: _ :: _ :: _ :: _ :: _ :: _ :: _ :: _ :: _ :: _ :: _ :: _ :: _ :: _ :: _ :: _ :: _ :: _ :: _ :: _ :: _ :: _ :: _ :: _ :: _ :: _ :: _ :: _ :: _ :: _ :: _ :: _ :: _ :: _ :: _ :: _ :: _ :: _ :: _ :: _ :: _ :: _ :: _ :: _ :: _ :: _ :: _ :: _ :: _ :: _ :: _ :: _ :: _ :: _ :: _ :: _ :: _ :: _ :: _ :: _ :: _ :: _ :: _ :: _ :: _ :: _ :: _ :: _ :: _ :: _ :: _ :: _ :: _ :: _ :: _ :: _ :: _ :: _ :: _ :: _ :: _ :: _ :: _ :: _ :: _ :: _ :: _ :: _ :: _ :: _ :: _ :: _ :: _ :: _ :: []), defers := [] } _
      refine wpAnyH_take (i := 1) (v := .slice (some ⟨lb, lo, none⟩) l.length lc) rfl (by kernel_rfl) (by kernel_rfl) (by kernel_rfl) (fun _ _ _ h => h) (Or.inl ⟨by kernel_rfl, fun w hS => by go_simp⟩) hHeld ?_
      change wpAnyH _ _ _ _ _ _ _ { tmps := List.toArray (_ :: _ :: _ :: _ :: _ :: _ :: _ :: _ :: _ :: _ :: _ :: _ :: _ :: _ :: _ :: _ :: _ :: _ :: _ :: _ :: _ :: _ :: _ :: _ :: _ :: _ :: _ :: _ :: _ :: _ :: _ :: _ :: _ :: _ :: _ :: _ :: _ :: _ :: _ :: _ :: _ :: _ :: _ :: _ :: _ :: _ :: _ :: _ :: _ :: _ :: _ :: _ :: _ :: _ :: _ :: _ :: _ :: _ :: _ :: _ :: .agg #[.slice ran rm.length rcn, .slice tan rws.length tcn] :: .slice (some ⟨lb, lo, none⟩) l.length lc :: _ :: _ :: _ :: _ :: _ :: _ :: _ :: _ :: _ :: _ :: _ :: _ :: _ :: _ :: _ :: _ :: _ :: _ :: _ :: _ :: _ :: _ :: _ :: _ :: _ :: _ :: _ :: _ :: _ :: _ :: _ :: _ :: _ :: _ :: _ :: _ :: _ :: _ :: _ :: _ :: _ :: _ :: _ :: _ :: _ :: _ :: _ :: _ :: _ :: _ :: _ :: _ :: _ :: _ :: _ :: _ :: _ :: _ :: _ :: _ :: _ :: _ :: _ :: _ :: _ :: _ :: _ :: _ :: _ :: _ :: _ :: _ :: _ :: _ :: _ :: _ :: _ :: _ :: _ :: _ :: _ :: _ :: _ :: _ :: _ :: _ :: _ :: _ :: _ :: _ :: _ :: _ :: _ :: _ :: _ :: _ :: _ :: _ :: _ :: _ :: _ :: _ :: _ :: _ :: _ :: _ :: _ :: _ :: _ :: _ :: _ :: _ :: _ :: _ :: _ :: _ :: _ :: _ :: _ :: _ :: _ :: _ :: []), defers := [] } _
      refine wpAnyH_take (i := 2) (v := .int .i64 k) rfl (by kernel_rfl) (by kernel_rfl) (by kernel_rfl) (fun _ _ _ h => h) (Or.inl ⟨by kernel_rfl, fun w hS => by go_simp⟩) hHeld ?_
      change wpAnyH _ _ _ _ _ _ _ { tmps := List.toArray (_ :: _ :: _ :: _ :: _ :: _ :: _ :: _ :: _ :: _ :: _ :: _ :: _ :: _ :: _ :: _ :: _ :: _ :: _ :: _ :: _ :: _ :: _ :: _ :: _ :: _ :: _ :: _ :: _ :: _ :: _ :: _ :: _ :: _ :: _ :: _ :: _ :: _ :: _ :: _ :: _ :: _ :: _ :: _ :: _ :: _ :: _ :: _ :: _ :: _ :: _ :: _ :: _ :: _ :: _ :: _ :: _ :: _ :: _ :: _ :: .agg #[.slice ran rm.length rcn, .slice tan rws.length tcn] :: .slice (some ⟨lb, lo, none⟩) l.length lc :: .int .i64 k :: _ :: _ :: _ :: _ :: _ :: _ :: _ :: _ :: _ :: _ :: _ :: _ :: _ :: _ :: _ :: _ :: _ :: _ :: _ :: _ :: _ :: _ :: _ :: _ :: _ :: _ :: _ :: _ :: _ :: _ :: _ :: _ :: _ :: _ :: _ :: _ :: _ :: _ :: _ :: _ :: _ :: _ :: _ :: _ :: _ :: _ :: _ :: _ :: _ :: _ :: _ :: _ :: _ :: _ :: _ :: _ :: _ :: _ :: _ :: _ :: _ :: _ :: _ :: _ :: _ :: _ :: _ :: _ :: _ :: _ :: _ :: _ :: _ :: _ :: _ :: _ :: _ :: _ :: _ :: _ :: _ :: _ :: _ :: _ :: _ :: _ :: _ :: _ :: _ :: _ :: _ :: _ :: _ :: _ :: _ :: _ :: _ :: _ :: _ :: _ :: _ :: _ :: _ :: _ :: _ :: _ :: _ :: _ :: _ :: _ :: _ :: _ :: _ :: _ :: _ :: _ :: _ :: _ :: _ :: _ :: _ :: []), defers := [] } _
      refine wpAnyH_take (i := 3) (v := .pointer (some ⟨lb, lo + k * 3, none⟩)) rfl (by kernel_rfl) (by kernel_rfl) (by kernel_rfl) (fun _ _ _ h => h) (Or.inl ⟨by kernel_rfl, fun w hS => by go_simp⟩) hHeld ?_
      change wpAnyH _ _ _ _ _ _ _ { tmps := List.toArray (_ :: _ :: _ :: _ :: _ :: _ :: _ :: _ :: _ :: _ :: _ :: _ :: _ :: _ :: _ :: _ :: _ :: _ :: _ :: _ :: _ :: _ :: _ :: _ :: _ :: _ :: _ :: _ :: _ :: _ :: _ :: _ :: _ :: _ :: _ :: _ :: _ :: _ :: _ :: _ :: _ :: _ :: _ :: _ :: _ :: _ :: _ :: _ :: _ :: _ :: _ :: _ :: _ :: _ :: _ :: _ :: _ :: _ :: _ :: _ :: .agg #[.slice ran rm.length rcn, .slice tan rws.length tcn] :: .slice (some ⟨lb, lo, none⟩) l.length lc :: .int .i64 k :: .pointer (some ⟨lb, lo + k * 3, none⟩) :: _ :: _ :: _ :: _ :: _ :: _ :: _ :: _ :: _ :: _ :: _ :: _ :: _ :: _ :: _ :: _ :: _ :: _ :: _ :: _ :: _ :: _ :: _ :: _ :: _ :: _ :: _ :: _ :: _ :: _ :: _ :: _ :: _ :: _ :: _ :: _ :: _ :: _ :: _ :: _ :: _ :: _ :: _ :: _ :: _ :: _ :: _ :: _ :: _ :: _ :: _ :: _ :: _ :: _ :: _ :: _ :: _ :: _ :: _ :: _ :: _ :: _ :: _ :: _ :: _ :: _ :: _ :: _ :: _ :: _ :: _ :: _ :: _ :: _ :: _ :: _ :: _ :: _ :: _ :: _ :: _ :: _ :: _ :: _ :: _ :: _ :: _ :: _ :: _ :: _ :: _ :: _ :: _ :: _ :: _ :: _ :: _ :: _ :: _ :: _ :: _ :: _ :: _ :: _ :: _ :: _ :: _ :: _ :: _ :: _ :: _ :: _ :: _ :: _ :: _ :: _ :: _ :: _ :: _ :: _ :: []), defers := [] } _
      refine wpAnyH_take (i := 4) (v := .agg #[.int .i64 x.f, .int .i64 x.t, .int .i64 x.m]) rfl (by kernel_rfl) (by kernel_rfl) (by kernel_rfl) (fun _ _ _ h => h) (Or.inl ⟨by kernel_rfl, fun w hS => by (obtain ⟨hS0, hS1, hS2, hS3, hS4⟩ := hS; go_simp)⟩) hHeld ?_
      change wpAnyH _ _ _ _ _ _ _ { tmps := List.toArray (_ :: _ :: _ :: _ :: _ :: _ :: _ :: _ :: _ :: _ :: _ :: _ :: _ :: _ :: _ :: _ :: _ :: _ :: _ :: _ :: _ :: _ :: _ :: _ :: _ :: _ :: _ :: _ :: _ :: _ :: _ :: _ :: _ :: _ :: _ :: _ :: _ :: _ :: _ :: _ :: _ :: _ :: _ :: _ :: _ :: _ :: _ :: _ :: _ :: _ :: _ :: _ :: _ :: _ :: _ :: _ :: _ :: _ :: _ :: _ :: .agg #[.slice ran rm.length rcn, .slice tan rws.length tcn] :: .slice (some ⟨lb, lo, none⟩) l.length lc :: .int .i64 k :: .pointer (some ⟨lb, lo + k * 3, none⟩) :: .agg #[.int .i64 x.f, .int .i64 x.t, .int .i64 x.m] :: _ :: _ :: _ :: _ :: _ :: _ :: _ :: _ :: _ :: _ :: _ :: _ :: _ :: _ :: _ :: _ :: _ :: _ :: _ :: _ :: _ :: _ :: _ :: _ :: _ :: _ :: _ :: _ :: _ :: _ :: _ :: _ :: _ :: _ :: _ :: _ :: _ :: _ :: _ :: _ :: _ :: _ :: _ :: _ :: _ :: _ :: _ :: _ :: _ :: _ :: _ :: _ :: _ :: _ :: _ :: _ :: _ :: _ :: _ :: _ :: _ :: _ :: _ :: _ :: _ :: _ :: _ :: _ :: _ :: _ :: _ :: _ :: _ :: _ :: _ :: _ :: _ :: _ :: _ :: _ :: _ :: _ :: _ :: _ :: _ :: _ :: _ :: _ :: _ :: _ :: _ :: _ :: _ :: _ :: _ :: _ :: _ :: _ :: _ :: _ :: _ :: _ :: _ :: _ :: _ :: _ :: _ :: _ :: _ :: _ :: _ :: _ :: _ :: _ :: _ :: _ :: _ :: _ :: _ :: []), defers := [] } _
      refine wpAnyH_ready (rs := [5, 9]) (by kernel_rfl) (by simp) ?_
      refine (AllReadyH.cons rfl (fun KK hK => ?_) (AllReadyH.cons rfl (fun KK hK => ?_) AllReadyH.nil))
      · skip
        go_simp
        refine (CO _ (Sd.below B0)).mono ?_
        rintro e w8 ⟨rv8, v8, vs8, rfl, S8, hb8⟩
        have B8 := btrans B0 hb8
        have lo8 := B0.size
        obtain ⟨ra8, rc8, a8, c8, rfl, hv8, -⟩ := S8.arg
        rw [hl8.out] at hv8
        subst hv8
        clear hb8
        go_wp2_with fail
        clear hHeld
        refine hK.out _ _ (by obtain ⟨⟨k0, k1⟩, -⟩ := blk2 (blk_keep B8 Nd.kN); exact ⟨k0, k1, ble B8 d2, ble B8 d3, ble B8 d4⟩) (fun hHeld => ?_)
        clear hK KK
        change wpAnyH _ _ _ _ _ _ _ { tmps := List.toArray (_ :: _ :: _ :: _ :: _ :: _ :: _ :: _ :: _ :: _ :: _ :: _ :: _ :: _ :: _ :: _ :: _ :: _ :: _ :: _ :: _ :: _ :: _ :: _ :: _ :: _ :: _ :: _ :: _ :: _ :: _ :: _ :: _ :: _ :: _ :: _ :: _ :: _ :: _ :: _ :: _ :: _ :: _ :: _ :: _ :: _ :: _ :: _ :: _ :: _ :: _ :: _ :: _ :: _ :: _ :: _ :: _ :: _ :: _ :: _ :: .agg #[.slice ran rm.length rcn, .slice tan rws.length tcn] :: .slice (some ⟨lb, lo, none⟩) l.length lc :: .int .i64 k :: .pointer (some ⟨lb, lo + k * 3, none⟩) :: .agg #[.int .i64 x.f, .int .i64 x.t, .int .i64 x.m] :: .tuple #[.agg #[.slice ra8 rm.length rc8, .slice a8 rws.length c8], .int .i64 cd] :: _ :: _ :: _ :: _ :: _ :: _ :: _ :: _ :: _ :: _ :: _ :: _ :: _ :: _ :: _ :: _ :: _ :: _ :: _ :: _ :: _ :: _ :: _ :: _ :: _ :: _ :: _ :: _ :: _ :: _ :: _ :: _ :: _ :: _ :: _ :: _ :: _ :: _ :: _ :: _ :: _ :: _ :: _ :: _ :: _ :: _ :: _ :: _ :: _ :: _ :: _ :: _ :: _ :: _ :: _ :: _ :: _ :: _ :: _ :: _ :: _ :: _ :: _ :: _ :: _ :: _ :: _ :: _ :: _ :: _ :: _ :: _ :: _ :: _ :: _ :: _ :: _ :: _ :: _ :: _ :: _ :: _ :: _ :: _ :: _ :: _ :: _ :: _ :: _ :: _ :: _ :: _ :: _ :: _ :: _ :: _ :: _ :: _ :: _ :: _ :: _ :: _ :: _ :: _ :: _ :: _ :: _ :: _ :: _ :: _ :: _ :: _ :: _ :: _ :: _ :: _ :: _ :: _ :: []), defers := [] } _
        refine wpAnyH_take (i := 6) (v := .tuple #[.agg #[.slice ra8 rm.length rc8, .slice a8 rws.length c8], .int .i64 cd]) rfl (by kernel_rfl) (by kernel_rfl) (by kernel_rfl) (fun _ _ _ h => h) (Or.inl ⟨by kernel_rfl, fun w hS => by go_simp⟩) hHeld ?_
        change wpAnyH _ _ _ _ _ _ _ { tmps := List.toArray (_ :: _ :: _ :: _ :: _ :: _ :: _ :: _ :: _ :: _ :: _ :: _ :: _ :: _ :: _ :: _ :: _ :: _ :: _ :: _ :: _ :: _ :: _ :: _ :: _ :: _ :: _ :: _ :: _ :: _ :: _ :: _ :: _ :: _ :: _ :: _ :: _ :: _ :: _ :: _ :: _ :: _ :: _ :: _ :: _ :: _ :: _ :: _ :: _ :: _ :: _ :: _ :: _ :: _ :: _ :: _ :: _ :: _ :: _ :: .tuple #[.agg #[.slice ra8 rm.length rc8, .slice a8 rws.length c8], .int .i64 cd] :: .agg #[.slice ran rm.length rcn, .slice tan rws.length tcn] :: .slice (some ⟨lb, lo, none⟩) l.length lc :: .int .i64 k :: .pointer (some ⟨lb, lo + k * 3, none⟩) :: .agg #[.int .i64 x.f, .int .i64 x.t, .int .i64 x.m] :: .tuple #[.agg #[.slice ra8 rm.length rc8, .slice a8 rws.length c8], .int .i64 cd] :: _ :: _ :: _ :: _ :: _ :: _ :: _ :: _ :: _ :: _ :: _ :: _ :: _ :: _ :: _ :: _ :: _ :: _ :: _ :: _ :: _ :: _ :: _ :: _ :: _ :: _ :: _ :: _ :: _ :: _ :: _ :: _ :: _ :: _ :: _ :: _ :: _ :: _ :: _ :: _ :: _ :: _ :: _ :: _ :: _ :: _ :: _ :: _ :: _ :: _ :: _ :: _ :: _ :: _ :: _ :: _ :: _ :: _ :: _ :: _ :: _ :: _ :: _ :: _ :: _ :: _ :: _ :: _ :: _ :: _ :: _ :: _ :: _ :: _ :: _ :: _ :: _ :: _ :: _ :: _ :: _ :: _ :: _ :: _ :: _ :: _ :: _ :: _ :: _ :: _ :: _ :: _ :: _ :: _ :: _ :: _ :: _ :: _ :: _ :: _ :: _ :: _ :: _ :: _ :: _ :: _ :: _ :: _ :: _ :: _ :: _ :: _ :: _ :: _ :: _ :: _ :: _ :: _ :: []), defers := [] } _
        refine wpAnyH_take (i := 7) (v := .agg #[.slice ra8 rm.length rc8, .slice a8 rws.length c8]) rfl (by kernel_rfl) (by kernel_rfl) (by kernel_rfl) (fun _ _ _ h => h) (Or.inl ⟨by kernel_rfl, fun w hS => by go_simp⟩) hHeld ?_
        change wpAnyH _ _ _ _ _ _ _ { tmps := List.toArray (_ :: _ :: _ :: _ :: _ :: _ :: _ :: _ :: _ :: _ :: _ :: _ :: _ :: _ :: _ :: _ :: _ :: _ :: _ :: _ :: _ :: _ :: _ :: _ :: _ :: _ :: _ :: _ :: _ :: _ :: _ :: _ :: _ :: _ :: _ :: _ :: _ :: _ :: _ :: _ :: _ :: _ :: _ :: _ :: _ :: _ :: _ :: _ :: _ :: _ :: _ :: _ :: _ :: _ :: _ :: _ :: _ :: _ :: _ :: .tuple #[.agg #[.slice ra8 rm.length rc8, .slice a8 rws.length c8], .int .i64 cd] :: .agg #[.slice ran rm.length rcn, .slice tan rws.length tcn] :: .slice (some ⟨lb, lo, none⟩) l.length lc :: .int .i64 k :: .pointer (some ⟨lb, lo + k * 3, none⟩) :: .agg #[.int .i64 x.f, .int .i64 x.t, .int .i64 x.m] :: .tuple #[.agg #[.slice ra8 rm.length rc8, .slice a8 rws.length c8], .int .i64 cd] :: .agg #[.slice ra8 rm.length rc8, .slice a8 rws.length c8] :: _ :: _ :: _ :: _ :: _ :: _ :: _ :: _ :: _ :: _ :: _ :: _ :: _ :: _ :: _ :: _ :: _ :: _ :: _ :: _ :: _ :: _ :: _ :: _ :: _ :: _ :: _ :: _ :: _ :: _ :: _ :: _ :: _ :: _ :: _ :: _ :: _ :: _ :: _ :: _ :: _ :: _ :: _ :: _ :: _ :: _ :: _ :: _ :: _ :: _ :: _ :: _ :: _ :: _ :: _ :: _ :: _ :: _ :: _ :: _ :: _ :: _ :: _ :: _ :: _ :: _ :: _ :: _ :: _ :: _ :: _ :: _ :: _ :: _ :: _ :: _ :: _ :: _ :: _ :: _ :: _ :: _ :: _ :: _ :: _ :: _ :: _ :: _ :: _ :: _ :: _ :: _ :: _ :: _ :: _ :: _ :: _ :: _ :: _ :: _ :: _ :: _ :: _ :: _ :: _ :: _ :: _ :: _ :: _ :: _ :: _ :: _ :: _ :: _ :: _ :: _ :: _ :: []), defers := [] } _
        refine wpAnyH_take (i := 8) (v := .int .i64 cd) rfl (by kernel_rfl) (by kernel_rfl) (by kernel_rfl) (fun _ _ _ h => h) (Or.inl ⟨by kernel_rfl, fun w hS => by go_simp⟩) hHeld ?_
        change wpAnyH _ _ _ _ _ _ _ { tmps := List.toArray (_ :: _ :: _ :: _ :: _ :: _ :: _ :: _ :: _ :: _ :: _ :: _ :: _ :: _ :: _ :: _ :: _ :: _ :: _ :: _ :: _ :: _ :: _ :: _ :: _ :: _ :: _ :: _ :: _ :: _ :: _ :: _ :: _ :: _ :: _ :: _ :: _ :: _ :: _ :: _ :: _ :: _ :: _ :: _ :: _ :: _ :: _ :: _ :: _ :: _ :: _ :: _ :: _ :: _ :: _ :: _ :: _ :: _ :: _ :: .tuple #[.agg #[.slice ra8 rm.length rc8, .slice a8 rws.length c8], .int .i64 cd] :: .agg #[.slice ran rm.length rcn, .slice tan rws.length tcn] :: .slice (some ⟨lb, lo, none⟩) l.length lc :: .int .i64 k :: .pointer (some ⟨lb, lo + k * 3, none⟩) :: .agg #[.int .i64 x.f, .int .i64 x.t, .int .i64 x.m] :: .tuple #[.agg #[.slice ra8 rm.length rc8, .slice a8 rws.length c8], .int .i64 cd] :: .agg #[.slice ra8 rm.length rc8, .slice a8 rws.length c8] :: .int .i64 cd :: _ :: _ :: _ :: _ :: _ :: _ :: _ :: _ :: _ :: _ :: _ :: _ :: _ :: _ :: _ :: _ :: _ :: _ :: _ :: _ :: _ :: _ :: _ :: _ :: _ :: _ :: _ :: _ :: _ :: _ :: _ :: _ :: _ :: _ :: _ :: _ :: _ :: _ :: _ :: _ :: _ :: _ :: _ :: _ :: _ :: _ :: _ :: _ :: _ :: _ :: _ :: _ :: _ :: _ :: _ :: _ :: _ :: _ :: _ :: _ :: _ :: _ :: _ :: _ :: _ :: _ :: _ :: _ :: _ :: _ :: _ :: _ :: _ :: _ :: _ :: _ :: _ :: _ :: _ :: _ :: _ :: _ :: _ :: _ :: _ :: _ :: _ :: _ :: _ :: _ :: _ :: _ :: _ :: _ :: _ :: _ :: _ :: _ :: _ :: _ :: _ :: _ :: _ :: _ :: _ :: _ :: _ :: _ :: _ :: _ :: _ :: _ :: _ :: _ :: _ :: _ :: []), defers := [] } _
        refine wpAnyH_ready (rs := [9]) (by kernel_rfl) (by simp) ?_
        refine (AllReadyH.cons rfl (fun KK hK => ?_) AllReadyH.nil)
        go_simp
        have Ba := btrans B8 (balloc w8 (.cells #[.slice none 0 0, .slice none 0 0] 27))
        have zB : (w8.alloc (.cells #[.slice none 0 0, .slice none 0 0] 27)).heap[w8.heap.size]? = some (.cells #[.slice none 0 0, .slice none 0 0] 27 (0, 0)) := heap_alloc_new w8 _
        have zlo : wd.heap.size ≤ w8.heap.size := B8.size
        clear hHeld
        refine hK.out _ _ (by obtain ⟨⟨k0, k1⟩, -⟩ := blk2 (blk_keep Ba Nd.kN); exact ⟨k0, k1, ble Ba d2, ble Ba d3, ble Ba d4⟩) (fun hHeld => ?_)
        clear hK KK
        change wpAnyH _ _ _ _ _ _ _ { tmps := List.toArray (_ :: _ :: _ :: _ :: _ :: _ :: _ :: _ :: _ :: .pointer (some ⟨w8.heap.size, 0, none⟩) :: _ :: _ :: _ :: _ :: _ :: _ :: _ :: _ :: _ :: _ :: _ :: _ :: _ :: _ :: _ :: _ :: _ :: _ :: _ :: _ :: _ :: _ :: _ :: _ :: _ :: _ :: _ :: _ :: _ :: _ :: _ :: _ :: _ :: _ :: _ :: _ :: _ :: _ :: _ :: _ :: _ :: _ :: _ :: _ :: _ :: _ :: _ :: _ :: _ :: .tuple #[.agg #[.slice ra8 rm.length rc8, .slice a8 rws.length c8], .int .i64 cd] :: .agg #[.slice ran rm.length rcn, .slice tan rws.length tcn] :: .slice (some ⟨lb, lo, none⟩) l.length lc :: .int .i64 k :: .pointer (some ⟨lb, lo + k * 3, none⟩) :: .agg #[.int .i64 x.f, .int .i64 x.t, .int .i64 x.m] :: .tuple #[.agg #[.slice ra8 rm.length rc8, .slice a8 rws.length c8], .int .i64 cd] :: .agg #[.slice ra8 rm.length rc8, .slice a8 rws.length c8] :: .int .i64 cd :: _ :: _ :: _ :: _ :: _ :: _ :: _ :: _ :: _ :: _ :: _ :: _ :: _ :: _ :: _ :: _ :: _ :: _ :: _ :: _ :: _ :: _ :: _ :: _ :: _ :: _ :: _ :: _ :: _ :: _ :: _ :: _ :: _ :: _ :: _ :: _ :: _ :: _ :: _ :: _ :: _ :: _ :: _ :: _ :: _ :: _ :: _ :: _ :: _ :: _ :: _ :: _ :: _ :: _ :: _ :: _ :: _ :: _ :: _ :: _ :: _ :: _ :: _ :: _ :: _ :: _ :: _ :: _ :: _ :: _ :: _ :: _ :: _ :: _ :: _ :: _ :: _ :: _ :: _ :: _ :: _ :: _ :: _ :: _ :: _ :: _ :: _ :: _ :: _ :: _ :: _ :: _ :: _ :: _ :: _ :: _ :: _ :: _ :: _ :: _ :: _ :: _ :: _ :: _ :: _ :: _ :: _ :: _ :: _ :: _ :: _ :: _ :: _ :: _ :: _ :: _ :: []), defers := [] } _
        refine wpAnyH_ready (rs := [10]) (by kernel_rfl) (by simp) ?_
        refine (AllReadyH.cons rfl (fun KK hK => ?_) AllReadyH.nil)
        have Bs := btrans B8 (balloc w8 (.cells #[.slice ra8 rm.length rc8, .slice a8 rws.length c8] 27))
        have Kn := heap_alloc_new w8 (.cells #[.slice ra8 rm.length rc8, .slice a8 rws.length c8] 27)
        have Sn := S8.below (balloc w8 (.cells #[.slice ra8 rm.length rc8, .slice a8 rws.length c8] 27))
        go_simp
        clear hHeld
        refine hK.out _ _ (by obtain ⟨⟨k0, k1⟩, -⟩ := blk2 (blk_keep Bs Nd.kN); exact ⟨k0, k1, ble Bs d2, ble Bs d3, ble Bs d4⟩) (fun hHeld => ?_)
        clear hK KK
        change wpAnyH _ _ _ _ _ _ _ { tmps := List.toArray (_ :: _ :: _ :: _ :: _ :: _ :: _ :: _ :: _ :: .pointer (some ⟨w8.heap.size, 0, none⟩) :: _ :: _ :: _ :: _ :: _ :: _ :: _ :: _ :: _ :: _ :: _ :: _ :: _ :: _ :: _ :: _ :: _ :: _ :: _ :: _ :: _ :: _ :: _ :: _ :: _ :: _ :: _ :: _ :: _ :: _ :: _ :: _ :: _ :: _ :: _ :: _ :: _ :: _ :: _ :: _ :: _ :: _ :: _ :: _ :: _ :: _ :: _ :: _ :: _ :: .tuple #[.agg #[.slice ra8 rm.length rc8, .slice a8 rws.length c8], .int .i64 cd] :: .agg #[.slice ran rm.length rcn, .slice tan rws.length tcn] :: .slice (some ⟨lb, lo, none⟩) l.length lc :: .int .i64 k :: .pointer (some ⟨lb, lo + k * 3, none⟩) :: .agg #[.int .i64 x.f, .int .i64 x.t, .int .i64 x.m] :: .tuple #[.agg #[.slice ra8 rm.length rc8, .slice a8 rws.length c8], .int .i64 cd] :: .agg #[.slice ra8 rm.length rc8, .slice a8 rws.length c8] :: .int .i64 cd :: _ :: _ :: _ :: _ :: _ :: _ :: _ :: _ :: _ :: _ :: _ :: _ :: _ :: _ :: _ :: _ :: _ :: _ :: _ :: _ :: _ :: _ :: _ :: _ :: _ :: _ :: _ :: _ :: _ :: _ :: _ :: _ :: _ :: _ :: _ :: _ :: _ :: _ :: _ :: _ :: _ :: _ :: _ :: _ :: _ :: _ :: _ :: _ :: _ :: _ :: _ :: _ :: _ :: _ :: _ :: _ :: _ :: _ :: _ :: _ :: _ :: _ :: _ :: _ :: _ :: _ :: _ :: _ :: _ :: _ :: _ :: _ :: _ :: _ :: _ :: _ :: _ :: _ :: _ :: _ :: _ :: _ :: _ :: _ :: _ :: _ :: _ :: _ :: _ :: _ :: _ :: _ :: _ :: _ :: _ :: _ :: _ :: _ :: _ :: _ :: _ :: _ :: _ :: _ :: _ :: _ :: _ :: _ :: _ :: _ :: _ :: _ :: _ :: _ :: _ :: _ :: []), defers := [] } _
        refine wpAnyH_take (i := 11) (v := .int .i64 cd) rfl (by kernel_rfl) (by kernel_rfl) (by kernel_rfl) (fun _ _ _ h => h) (Or.inl ⟨by kernel_rfl, fun w hS => by go_simp⟩) hHeld ?_
        change wpAnyH _ _ _ _ _ _ _ { tmps := List.toArray (_ :: _ :: _ :: _ :: _ :: _ :: _ :: _ :: _ :: .pointer (some ⟨w8.heap.size, 0, none⟩) :: .int .i64 cd :: _ :: _ :: _ :: _ :: _ :: _ :: _ :: _ :: _ :: _ :: _ :: _ :: _ :: _ :: _ :: _ :: _ :: _ :: _ :: _ :: _ :: _ :: _ :: _ :: _ :: _ :: _ :: _ :: _ :: _ :: _ :: _ :: _ :: _ :: _ :: _ :: _ :: _ :: _ :: _ :: _ :: _ :: _ :: _ :: _ :: _ :: _ :: _ :: .tuple #[.agg #[.slice ra8 rm.length rc8, .slice a8 rws.length c8], .int .i64 cd] :: .agg #[.slice ran rm.length rcn, .slice tan rws.length tcn] :: .slice (some ⟨lb, lo, none⟩) l.length lc :: .int .i64 k :: .pointer (some ⟨lb, lo + k * 3, none⟩) :: .agg #[.int .i64 x.f, .int .i64 x.t, .int .i64 x.m] :: .tuple #[.agg #[.slice ra8 rm.length rc8, .slice a8 rws.length c8], .int .i64 cd] :: .agg #[.slice ra8 rm.length rc8, .slice a8 rws.length c8] :: .int .i64 cd :: _ :: _ :: _ :: _ :: _ :: _ :: _ :: _ :: _ :: _ :: _ :: _ :: _ :: _ :: _ :: _ :: _ :: _ :: _ :: _ :: _ :: _ :: _ :: _ :: _ :: _ :: _ :: _ :: _ :: _ :: _ :: _ :: _ :: _ :: _ :: _ :: _ :: _ :: _ :: _ :: _ :: _ :: _ :: _ :: _ :: _ :: _ :: _ :: _ :: _ :: _ :: _ :: _ :: _ :: _ :: _ :: _ :: _ :: _ :: _ :: _ :: _ :: _ :: _ :: _ :: _ :: _ :: _ :: _ :: _ :: _ :: _ :: _ :: _ :: _ :: _ :: _ :: _ :: _ :: _ :: _ :: _ :: _ :: _ :: _ :: _ :: _ :: _ :: _ :: _ :: _ :: _ :: _ :: _ :: _ :: _ :: _ :: _ :: _ :: _ :: _ :: _ :: _ :: _ :: _ :: _ :: _ :: _ :: _ :: _ :: _ :: _ :: _ :: _ :: _ :: _ :: []), defers := [] } _
        refine wpAnyH_done (by kernel_rfl) ?_ _
        generalize w8.alloc (.cells #[.slice ra8 rm.length rc8, .slice a8 rws.length c8] 27) = wn at *
        have hbM : wd.heap.size ≤ w8.heap.size := by first | exact Nat.le_refl _ | exact zlo
        have hMN : N < w8.heap.size := by have := lt_of_block Nd.kN; omega
        have Hn := Hd.below Bs
        have Nn := Nd.below Bs
        have Sn2 := Sn.base (B' := w.heap.size) (by omega)
        clear CO B8 Bs Hd Nd Sd S8 Sn d0 d1 d2 d3 d4 lo8 Ba zB zlo
        generalize w8.heap.size = M at *
        obtain ⟨gc, oc, rfl, hcc⟩ : ∃ g off, ca = some ⟨g, off, none⟩ ∧ ∀ i, i < cs.length → wn.cell? ⟨g, off + i, none⟩ = some (.int .i64 (cs.getD i 0)) := by
          rcases Ints.own (n := l.length) (by have := Hn.codes; rw [hcl.out] at this; exact this) hcl.out with q | q
          · have := hcl.out; rw [q] at this; simp at this; omega
          · exact q
        have c9 := hcc k (by have := hcl.out; omega)
        rw [hcode.out] at c9
        obtain ⟨⟨m0, m1⟩, -⟩ := blk2 Kn
        have CSI := cSidO _ _ _ vs8 rm (leftS rm rk x) wn Sn2 (hPk.out.left x)
        clear hcc
        go_wp2_with fail
        refine CSI.mono ?_
        rintro e wp ⟨rfl, bp⟩
        have Hp := Hn.below bp
        have Np := Nn.below bp
        have Kp := blk_keep bp Kn
        have Sp := Sn2.below bp
        clear CSI Hn Nn Kn Sn2 bp c9 m0 m1
        by_cases h0 : cd = 0
        · subst h0
          have hun := hide (undo_done hPk.out hcd.out)
          have be : Below wp.heap.size wp wp.drew := bdraw (Below.refl _ _) 1
          have He := Hp.below be
          have Ne := Np.below be
          have Ke := blk_keep be Kp
          have Se := Sp.below be
          obtain ⟨⟨d0, d1⟩, -⟩ := blk2 Ke
          obtain ⟨d2, d3, d4⟩ := shsat He.list hlt
          rw [hxk.out] at d2 d3 d4
          have Sd := Se
          have CU := fun w => cUndoI x w
          have CO := fun w9 h => cOneO w.heap.size (.slice ra8 rm.length rc8) (.slice a8 rws.length c8) vs8 rm (leftS rm rk x) (undoS x) w9 h (hPk.out.left x)
          rw [hun.out.1] at CO
          simp only [undo_val] at CU CO
          unfold ShV.val at CU
          have hl8b : Hid ((leftS rm (leftS rm rk x) (undoS x)).length = rws.length) := hide (by rw [leftS_len, leftS_len]; exact hrkl.out)
          clear Hp Np Kp Sp be
          go_wp2_with fail
          refine wp_region_held_drew (S := (fun w' => w'.cell? ⟨M, 0, none⟩ = some (.slice ra8 rm.length rc8) ∧ w'.cell? ⟨M, 1, none⟩ = some (.slice a8 rws.length c8) ∧ w'.cell? ⟨lb, lo + k * 3, none⟩ = some (.int .i64 x.f) ∧ w'.cell? ⟨lb, lo + k * 3 + 1, none⟩ = some (.int .i64 x.t) ∧ w'.cell? ⟨lb, lo + k * 3 + 2, none⟩ = some (.int .i64 x.m))) (by kernel_rfl) ?_ (fun hHeld => ?_)
          · exact ⟨d0, d1, d2, d3, d4⟩
          have B0 : Below wp.drew.heap.size wp.drew wp.drew := Below.refl _ _
          generalize wp.drew = we at *
          refine wpAnyH_take (i := 0) (v := .agg #[.slice ra8 rm.length rc8, .slice a8 rws.length c8]) rfl (by kernel_rfl) (by kernel_rfl) (by kernel_rfl) (fun _ _ _ h => h) (Or.inl ⟨by kernel_rfl, fun w hS => by (obtain ⟨hS0, hS1, hS2, hS3, hS4⟩ := hS; go_simp)⟩) hHeld ?_
          change wpAnyH _ _ _ _ _ _ _ { tmps := List.toArray (_ :: _ :: _ :: _ :: _ :: _ :: _ :: _ :: _ :: _ :: _ :: _ :: _ :: _ :: _ :: _ :: _ :: _ :: _ :: _ :: _ :: _ :: _ :: _ :: _ :: _ :: _ :: _ :: _ :: _ :: _ :: _ :: _ :: _ :: _ :: _ :: _ :: _ :: _ :: _ :: _ :: _ :: _ :: _ :: _ :: _ :: _ :: _ :: _ :: _ :: _ :: _ :: _ :: _ :: _ :: _ :: _ :: _ :: _ :: _ :: _ :: _ :: _ :: _ :: _ :: _ :: _ :: _ :: _ :: _ :: _ :: _ :: _ :: _ :: _ :: _ :: _ :: _ :: _ :: _ :: _ :: _ :: .agg #[.slice ra8 rm.length rc8, .slice a8 rws.length c8] :: _ :: _ :: _ :: _ :: _ :: _ :: _ :: _ :: _ :: _ :: _ :: _ :: _ :: _ :: _ :: _ :: _ :: _ :: _ :: _ :: _ :: _ :: _ :: _ :: _ :: _ :: _ :: _ :: _ :: _ :: _ :: _ :: _ :: _ :: _ :: _ :: _ :: _ :: _ :: _ :: _ :: _ :: _ :: _ :: _ :: _ :: _ :: _ :: _ :: _ :: _ :: _ :: _ :: _ :: _ :: _ :: _ :: _ :: _ :: _ :: _ :: _ :: _ :: _ :: _ :: _ :: _ :: _ :: _ :: _ :: _ :: _ :: _ :: _ :: _ :: _ :: _ :: _ :: _ :: _ :: _ :: _ :: _ :: _ :: _ :: _ :: _ :: _ :: _ :: _ :: _ :: _ :: _ :: _ :: _ :: _ :: _ :: _ :: _ :: _ :: _ :: []), defers := [] } _
          refine wpAnyH_take (i := 1) (v := .slice (some ⟨lb, lo, none⟩) l.length lc) rfl (by kernel_rfl) (by kernel_rfl) (by kernel_rfl) (fun _ _ _ h => h) (Or.inl ⟨by kernel_rfl, fun w hS => by go_simp⟩) hHeld ?_
          change wpAnyH _ _ _ _ _ _ _ { tmps := List.toArray (_ :: _ :: _ :: _ :: _ :: _ :: _ :: _ :: _ :: _ :: _ :: _ :: _ :: _ :: _ :: _ :: _ :: _ :: _ :: _ :: _ :: _ :: _ :: _ :: _ :: _ :: _ :: _ :: _ :: _ :: _ :: _ :: _ :: _ :: _ :: _ :: _ :: _ :: _ :: _ :: _ :: _ :: _ :: _ :: _ :: _ :: _ :: _ :: _ :: _ :: _ :: _ :: _ :: _ :: _ :: _ :: _ :: _ :: _ :: _ :: _ :: _ :: _ :: _ :: _ :: _ :: _ :: _ :: _ :: _ :: _ :: _ :: _ :: _ :: _ :: _ :: _ :: _ :: _ :: _ :: _ :: _ :: .agg #[.slice ra8 rm.length rc8, .slice a8 rws.length c8] :: .slice (some ⟨lb, lo, none⟩) l.length lc :: _ :: _ :: _ :: _ :: _ :: _ :: _ :: _ :: _ :: _ :: _ :: _ :: _ :: _ :: _ :: _ :: _ :: _ :: _ :: _ :: _ :: _ :: _ :: _ :: _ :: _ :: _ :: _ :: _ :: _ :: _ :: _ :: _ :: _ :: _ :: _ :: _ :: _ :: _ :: _ :: _ :: _ :: _ :: _ :: _ :: _ :: _ :: _ :: _ :: _ :: _ :: _ :: _ :: _ :: _ :: _ :: _ :: _ :: _ :: _ :: _ :: _ :: _ :: _ :: _ :: _ :: _ :: _ :: _ :: _ :: _ :: _ :: _ :: _ :: _ :: _ :: _ :: _ :: _ :: _ :: _ :: _ :: _ :: _ :: _ :: _ :: _ :: _ :: _ :: _ :: _ :: _ :: _ :: _ :: _ :: _ :: _ :: _ :: _ :: _ :: []), defers := [] } _
          refine wpAnyH_take (i := 2) (v := .int .i64 k) rfl (by kernel_rfl) (by kernel_rfl) (by kernel_rfl) (fun _ _ _ h => h) (Or.inl ⟨by kernel_rfl, fun w hS => by go_simp⟩) hHeld ?_
          change wpAnyH _ _ _ _ _ _ _ { tmps := List.toArray (_ :: _ :: _ :: _ :: _ :: _ :: _ :: _ :: _ :: _ :: _ :: _ :: _ :: _ :: _ :: _ :: _ :: _ :: _ :: _ :: _ :: _ :: _ :: _ :: _ :: _ :: _ :: _ :: _ :: _ :: _ :: _ :: _ :: _ :: _ :: _ :: _ :: _ :: _ :: _ :: _ :: _ :: _ :: _ :: _ :: _ :: _ :: _ :: _ :: _ :: _ :: _ :: _ :: _ :: _ :: _ :: _ :: _ :: _ :: _ :: _ :: _ :: _ :: _ :: _ :: _ :: _ :: _ :: _ :: _ :: _ :: _ :: _ :: _ :: _ :: _ :: _ :: _ :: _ :: _ :: _ :: _ :: .agg #[.slice ra8 rm.length rc8, .slice a8 rws.length c8] :: .slice (some ⟨lb, lo, none⟩) l.length lc :: .int .i64 k :: _ :: _ :: _ :: _ :: _ :: _ :: _ :: _ :: _ :: _ :: _ :: _ :: _ :: _ :: _ :: _ :: _ :: _ :: _ :: _ :: _ :: _ :: _ :: _ :: _ :: _ :: _ :: _ :: _ :: _ :: _ :: _ :: _ :: _ :: _ :: _ :: _ :: _ :: _ :: _ :: _ :: _ :: _ :: _ :: _ :: _ :: _ :: _ :: _ :: _ :: _ :: _ :: _ :: _ :: _ :: _ :: _ :: _ :: _ :: _ :: _ :: _ :: _ :: _ :: _ :: _ :: _ :: _ :: _ :: _ :: _ :: _ :: _ :: _ :: _ :: _ :: _ :: _ :: _ :: _ :: _ :: _ :: _ :: _ :: _ :: _ :: _ :: _ :: _ :: _ :: _ :: _ :: _ :: _ :: _ :: _ :: _ :: _ :: _ :: []), defers := [] } _
          refine wpAnyH_take (i := 3) (v := .pointer (some ⟨lb, lo + k * 3, none⟩)) rfl (by kernel_rfl) (by kernel_rfl) (by kernel_rfl) (fun _ _ _ h => h) (Or.inl ⟨by kernel_rfl, fun w hS => by go_simp⟩) hHeld ?_
          change wpAnyH _ _ _ _ _ _ _ { tmps := List.toArray (_ :: _ :: _ :: _ :: _ :: _ :: _ :: _ :: _ :: _ :: _ :: _ :: _ :: _ :: _ :: _ :: _ :: _ :: _ :: _ :: _ :: _ :: _ :: _ :: _ :: _ :: _ :: _ :: _ :: _ :: _ :: _ :: _ :: _ :: _ :: _ :: _ :: _ :: _ :: _ :: _ :: _ :: _ :: _ :: _ :: _ :: _ :: _ :: _ :: _ :: _ :: _ :: _ :: _ :: _ :: _ :: _ :: _ :: _ :: _ :: _ :: _ :: _ :: _ :: _ :: _ :: _ :: _ :: _ :: _ :: _ :: _ :: _ :: _ :: _ :: _ :: _ :: _ :: _ :: _ :: _ :: _ :: .agg #[.slice ra8 rm.length rc8, .slice a8 rws.length c8] :: .slice (some ⟨lb, lo, none⟩) l.length lc :: .int .i64 k :: .pointer (some ⟨lb, lo + k * 3, none⟩) :: _ :: _ :: _ :: _ :: _ :: _ :: _ :: _ :: _ :: _ :: _ :: _ :: _ :: _ :: _ :: _ :: _ :: _ :: _ :: _ :: _ :: _ :: _ :: _ :: _ :: _ :: _ :: _ :: _ :: _ :: _ :: _ :: _ :: _ :: _ :: _ :: _ :: _ :: _ :: _ :: _ :: _ :: _ :: _ :: _ :: _ :: _ :: _ :: _ :: _ :: _ :: _ :: _ :: _ :: _ :: _ :: _ :: _ :: _ :: _ :: _ :: _ :: _ :: _ :: _ :: _ :: _ :: _ :: _ :: _ :: _ :: _ :: _ :: _ :: _ :: _ :: _ :: _ :: _ :: _ :: _ :: _ :: _ :: _ :: _ :: _ :: _ :: _ :: _ :: _ :: _ :: _ :: _ :: _ :: _ :: _ :: _ :: _ :: []), defers := [] } _
          refine wpAnyH_take (i := 4) (v := .agg #[.int .i64 x.f, .int .i64 x.t, .int .i64 x.m]) rfl (by kernel_rfl) (by kernel_rfl) (by kernel_rfl) (fun _ _ _ h => h) (Or.inl ⟨by kernel_rfl, fun w hS => by (obtain ⟨hS0, hS1, hS2, hS3, hS4⟩ := hS; go_simp)⟩) hHeld ?_
          change wpAnyH _ _ _ _ _ _ _ { tmps := List.toArray (_ :: _ :: _ :: _ :: _ :: _ :: _ :: _ :: _ :: _ :: _ :: _ :: _ :: _ :: _ :: _ :: _ :: _ :: _ :: _ :: _ :: _ :: _ :: _ :: _ :: _ :: _ :: _ :: _ :: _ :: _ :: _ :: _ :: _ :: _ :: _ :: _ :: _ :: _ :: _ :: _ :: _ :: _ :: _ :: _ :: _ :: _ :: _ :: _ :: _ :: _ :: _ :: _ :: _ :: _ :: _ :: _ :: _ :: _ :: _ :: _ :: _ :: _ :: _ :: _ :: _ :: _ :: _ :: _ :: _ :: _ :: _ :: _ :: _ :: _ :: _ :: _ :: _ :: _ :: _ :: _ :: _ :: .agg #[.slice ra8 rm.length rc8, .slice a8 rws.length c8] :: .slice (some ⟨lb, lo, none⟩) l.length lc :: .int .i64 k :: .pointer (some ⟨lb, lo + k * 3, none⟩) :: .agg #[.int .i64 x.f, .int .i64 x.t, .int .i64 x.m] :: _ :: _ :: _ :: _ :: _ :: _ :: _ :: _ :: _ :: _ :: _ :: _ :: _ :: _ :: _ :: _ :: _ :: _ :: _ :: _ :: _ :: _ :: _ :: _ :: _ :: _ :: _ :: _ :: _ :: _ :: _ :: _ :: _ :: _ :: _ :: _ :: _ :: _ :: _ :: _ :: _ :: _ :: _ :: _ :: _ :: _ :: _ :: _ :: _ :: _ :: _ :: _ :: _ :: _ :: _ :: _ :: _ :: _ :: _ :: _ :: _ :: _ :: _ :: _ :: _ :: _ :: _ :: _ :: _ :: _ :: _ :: _ :: _ :: _ :: _ :: _ :: _ :: _ :: _ :: _ :: _ :: _ :: _ :: _ :: _ :: _ :: _ :: _ :: _ :: _ :: _ :: _ :: _ :: _ :: _ :: _ :: _ :: []), defers := [] } _
          refine wpAnyH_ready (rs := [5, 10]) (by kernel_rfl) (by simp) ?_
          refine (AllReadyH.cons rfl (fun KK hK => ?_) (AllReadyH.cons rfl (fun KK hK => ?_) AllReadyH.nil))
          · skip
            go_simp
            refine (CU _).mono ?_
            rintro e w7 ⟨rfl, hb7⟩
            have B7 := btrans B0 hb7
            clear hb7
            go_wp2_with fail
            clear hHeld
            refine hK.out _ _ (by obtain ⟨⟨k0, k1⟩, -⟩ := blk2 (blk_keep B7 Ke); exact ⟨k0, k1, ble B7 d2, ble B7 d3, ble B7 d4⟩) (fun hHeld => ?_)
            clear hK KK
            change wpAnyH _ _ _ _ _ _ _ { tmps := List.toArray (_ :: _ :: _ :: _ :: _ :: _ :: _ :: _ :: _ :: _ :: _ :: _ :: _ :: _ :: _ :: _ :: _ :: _ :: _ :: _ :: _ :: _ :: _ :: _ :: _ :: _ :: _ :: _ :: _ :: _ :: _ :: _ :: _ :: _ :: _ :: _ :: _ :: _ :: _ :: _ :: _ :: _ :: _ :: _ :: _ :: _ :: _ :: _ :: _ :: _ :: _ :: _ :: _ :: _ :: _ :: _ :: _ :: _ :: _ :: _ :: _ :: _ :: _ :: _ :: _ :: _ :: _ :: _ :: _ :: _ :: _ :: _ :: _ :: _ :: _ :: _ :: _ :: _ :: _ :: _ :: _ :: _ :: .agg #[.slice ra8 rm.length rc8, .slice a8 rws.length c8] :: .slice (some ⟨lb, lo, none⟩) l.length lc :: .int .i64 k :: .pointer (some ⟨lb, lo + k * 3, none⟩) :: .agg #[.int .i64 x.f, .int .i64 x.t, .int .i64 x.m] :: .agg #[.int .i64 x.t, .int .i64 x.f, .int .i64 x.m] :: _ :: _ :: _ :: _ :: _ :: _ :: _ :: _ :: _ :: _ :: _ :: _ :: _ :: _ :: _ :: _ :: _ :: _ :: _ :: _ :: _ :: _ :: _ :: _ :: _ :: _ :: _ :: _ :: _ :: _ :: _ :: _ :: _ :: _ :: _ :: _ :: _ :: _ :: _ :: _ :: _ :: _ :: _ :: _ :: _ :: _ :: _ :: _ :: _ :: _ :: _ :: _ :: _ :: _ :: _ :: _ :: _ :: _ :: _ :: _ :: _ :: _ :: _ :: _ :: _ :: _ :: _ :: _ :: _ :: _ :: _ :: _ :: _ :: _ :: _ :: _ :: _ :: _ :: _ :: _ :: _ :: _ :: _ :: _ :: _ :: _ :: _ :: _ :: _ :: _ :: _ :: _ :: _ :: _ :: _ :: _ :: []), defers := [] } _
            refine wpAnyH_ready (rs := [6, 10]) (by kernel_rfl) (by simp) ?_
            refine (AllReadyH.cons rfl (fun KK hK => ?_) (AllReadyH.cons rfl (fun KK hK => ?_) AllReadyH.nil))
            · skip
              go_simp
              refine (CO _ (Sd.below B7)).mono ?_
              rintro e w9 ⟨rv8, v8, vs8b, rfl, S8b, hb8⟩
              have B8 := btrans B7 hb8
              have lo8 := B7.size
              obtain ⟨ra9, rc9, a9, c9, rfl, hv8, -⟩ := S8b.arg
              rw [hl8b.out] at hv8
              subst hv8
              clear hb8
              go_wp2_with fail
              clear hHeld
              refine hK.out _ _ (by obtain ⟨⟨k0, k1⟩, -⟩ := blk2 (blk_keep B8 Ke); exact ⟨k0, k1, ble B8 d2, ble B8 d3, ble B8 d4⟩) (fun hHeld => ?_)
              clear hK KK
              change wpAnyH _ _ _ _ _ _ _ { tmps := List.toArray (_ :: _ :: _ :: _ :: _ :: _ :: _ :: _ :: _ :: _ :: _ :: _ :: _ :: _ :: _ :: _ :: _ :: _ :: _ :: _ :: _ :: _ :: _ :: _ :: _ :: _ :: _ :: _ :: _ :: _ :: _ :: _ :: _ :: _ :: _ :: _ :: _ :: _ :: _ :: _ :: _ :: _ :: _ :: _ :: _ :: _ :: _ :: _ :: _ :: _ :: _ :: _ :: _ :: _ :: _ :: _ :: _ :: _ :: _ :: _ :: _ :: _ :: _ :: _ :: _ :: _ :: _ :: _ :: _ :: _ :: _ :: _ :: _ :: _ :: _ :: _ :: _ :: _ :: _ :: _ :: _ :: _ :: .agg #[.slice ra8 rm.length rc8, .slice a8 rws.length c8] :: .slice (some ⟨lb, lo, none⟩) l.length lc :: .int .i64 k :: .pointer (some ⟨lb, lo + k * 3, none⟩) :: .agg #[.int .i64 x.f, .int .i64 x.t, .int .i64 x.m] :: .agg #[.int .i64 x.t, .int .i64 x.f, .int .i64 x.m] :: .tuple #[.agg #[.slice ra9 rm.length rc9, .slice a9 rws.length c9], .int .i64 0] :: _ :: _ :: _ :: _ :: _ :: _ :: _ :: _ :: _ :: _ :: _ :: _ :: _ :: _ :: _ :: _ :: _ :: _ :: _ :: _ :: _ :: _ :: _ :: _ :: _ :: _ :: _ :: _ :: _ :: _ :: _ :: _ :: _ :: _ :: _ :: _ :: _ :: _ :: _ :: _ :: _ :: _ :: _ :: _ :: _ :: _ :: _ :: _ :: _ :: _ :: _ :: _ :: _ :: _ :: _ :: _ :: _ :: _ :: _ :: _ :: _ :: _ :: _ :: _ :: _ :: _ :: _ :: _ :: _ :: _ :: _ :: _ :: _ :: _ :: _ :: _ :: _ :: _ :: _ :: _ :: _ :: _ :: _ :: _ :: _ :: _ :: _ :: _ :: _ :: _ :: _ :: _ :: _ :: _ :: _ :: []), defers := [] } _
              refine wpAnyH_take (i := 7) (v := .tuple #[.agg #[.slice ra9 rm.length rc9, .slice a9 rws.length c9], .int .i64 0]) rfl (by kernel_rfl) (by kernel_rfl) (by kernel_rfl) (fun _ _ _ h => h) (Or.inl ⟨by kernel_rfl, fun w hS => by go_simp⟩) hHeld ?_
              change wpAnyH _ _ _ _ _ _ _ { tmps := List.toArray (_ :: _ :: _ :: _ :: _ :: _ :: _ :: _ :: _ :: _ :: _ :: _ :: _ :: _ :: _ :: _ :: _ :: _ :: _ :: _ :: _ :: _ :: _ :: _ :: _ :: _ :: _ :: _ :: _ :: _ :: _ :: _ :: _ :: _ :: _ :: _ :: _ :: _ :: _ :: _ :: _ :: _ :: _ :: _ :: _ :: _ :: _ :: _ :: _ :: _ :: _ :: _ :: _ :: _ :: _ :: _ :: _ :: _ :: _ :: _ :: _ :: _ :: _ :: _ :: _ :: _ :: _ :: _ :: _ :: _ :: _ :: _ :: _ :: _ :: _ :: _ :: _ :: _ :: _ :: _ :: _ :: .tuple #[.agg #[.slice ra9 rm.length rc9, .slice a9 rws.length c9], .int .i64 0] :: .agg #[.slice ra8 rm.length rc8, .slice a8 rws.length c8] :: .slice (some ⟨lb, lo, none⟩) l.length lc :: .int .i64 k :: .pointer (some ⟨lb, lo + k * 3, none⟩) :: .agg #[.int .i64 x.f, .int .i64 x.t, .int .i64 x.m] :: .agg #[.int .i64 x.t, .int .i64 x.f, .int .i64 x.m] :: .tuple #[.agg #[.slice ra9 rm.length rc9, .slice a9 rws.length c9], .int .i64 0] :: _ :: _ :: _ :: _ :: _ :: _ :: _ :: _ :: _ :: _ :: _ :: _ :: _ :: _ :: _ :: _ :: _ :: _ :: _ :: _ :: _ :: _ :: _ :: _ :: _ :: _ :: _ :: _ :: _ :: _ :: _ :: _ :: _ :: _ :: _ :: _ :: _ :: _ :: _ :: _ :: _ :: _ :: _ :: _ :: _ :: _ :: _ :: _ :: _ :: _ :: _ :: _ :: _ :: _ :: _ :: _ :: _ :: _ :: _ :: _ :: _ :: _ :: _ :: _ :: _ :: _ :: _ :: _ :: _ :: _ :: _ :: _ :: _ :: _ :: _ :: _ :: _ :: _ :: _ :: _ :: _ :: _ :: _ :: _ :: _ :: _ :: _ :: _ :: _ :: _ :: _ :: _ :: _ :: _ :: _ :: []), defers := [] } _
              refine wpAnyH_take (i := 8) (v := .agg #[.slice ra9 rm.length rc9, .slice a9 rws.length c9]) rfl (by kernel_rfl) (by kernel_rfl) (by kernel_rfl) (fun _ _ _ h => h) (Or.inl ⟨by kernel_rfl, fun w hS => by go_simp⟩) hHeld ?_
              change wpAnyH _ _ _ _ _ _ _ { tmps := List.toArray (_ :: _ :: _ :: _ :: _ :: _ :: _ :: _ :: _ :: _ :: _ :: _ :: _ :: _ :: _ :: _ :: _ :: _ :: _ :: _ :: _ :: _ :: _ :: _ :: _ :: _ :: _ :: _ :: _ :: _ :: _ :: _ :: _ :: _ :: _ :: _ :: _ :: _ :: _ :: _ :: _ :: _ :: _ :: _ :: _ :: _ :: _ :: _ :: _ :: _ :: _ :: _ :: _ :: _ :: _ :: _ :: _ :: _ :: _ :: _ :: _ :: _ :: _ :: _ :: _ :: _ :: _ :: _ :: _ :: _ :: _ :: _ :: _ :: _ :: _ :: _ :: _ :: _ :: _ :: _ :: _ :: .tuple #[.agg #[.slice ra9 rm.length rc9, .slice a9 rws.length c9], .int .i64 0] :: .agg #[.slice ra8 rm.length rc8, .slice a8 rws.length c8] :: .slice (some ⟨lb, lo, none⟩) l.length lc :: .int .i64 k :: .pointer (some ⟨lb, lo + k * 3, none⟩) :: .agg #[.int .i64 x.f, .int .i64 x.t, .int .i64 x.m] :: .agg #[.int .i64 x.t, .int .i64 x.f, .int .i64 x.m] :: .tuple #[.agg #[.slice ra9 rm.length rc9, .slice a9 rws.length c9], .int .i64 0] :: .agg #[.slice ra9 rm.length rc9, .slice a9 rws.length c9] :: _ :: _ :: _ :: _ :: _ :: _ :: _ :: _ :: _ :: _ :: _ :: _ :: _ :: _ :: _ :: _ :: _ :: _ :: _ :: _ :: _ :: _ :: _ :: _ :: _ :: _ :: _ :: _ :: _ :: _ :: _ :: _ :: _ :: _ :: _ :: _ :: _ :: _ :: _ :: _ :: _ :: _ :: _ :: _ :: _ :: _ :: _ :: _ :: _ :: _ :: _ :: _ :: _ :: _ :: _ :: _ :: _ :: _ :: _ :: _ :: _ :: _ :: _ :: _ :: _ :: _ :: _ :: _ :: _ :: _ :: _ :: _ :: _ :: _ :: _ :: _ :: _ :: _ :: _ :: _ :: _ :: _ :: _ :: _ :: _ :: _ :: _ :: _ :: _ :: _ :: _ :: _ :: _ :: _ :: []), defers := [] } _
              refine wpAnyH_take (i := 9) (v := .int .i64 0) rfl (by kernel_rfl) (by kernel_rfl) (by kernel_rfl) (fun _ _ _ h => h) (Or.inl ⟨by kernel_rfl, fun w hS => by go_simp⟩) hHeld ?_
              change wpAnyH _ _ _ _ _ _ _ { tmps := List.toArray (_ :: _ :: _ :: _ :: _ :: _ :: _ :: _ :: _ :: _ :: _ :: _ :: _ :: _ :: _ :: _ :: _ :: _ :: _ :: _ :: _ :: _ :: _ :: _ :: _ :: _ :: _ :: _ :: _ :: _ :: _ :: _ :: _ :: _ :: _ :: _ :: _ :: _ :: _ :: _ :: _ :: _ :: _ :: _ :: _ :: _ :: _ :: _ :: _ :: _ :: _ :: _ :: _ :: _ :: _ :: _ :: _ :: _ :: _ :: _ :: _ :: _ :: _ :: _ :: _ :: _ :: _ :: _ :: _ :: _ :: _ :: _ :: _ :: _ :: _ :: _ :: _ :: _ :: _ :: _ :: _ :: .tuple #[.agg #[.slice ra9 rm.length rc9, .slice a9 rws.length c9], .int .i64 0] :: .agg #[.slice ra8 rm.length rc8, .slice a8 rws.length c8] :: .slice (some ⟨lb, lo, none⟩) l.length lc :: .int .i64 k :: .pointer (some ⟨lb, lo + k * 3, none⟩) :: .agg #[.int .i64 x.f, .int .i64 x.t, .int .i64 x.m] :: .agg #[.int .i64 x.t, .int .i64 x.f, .int .i64 x.m] :: .tuple #[.agg #[.slice ra9 rm.length rc9, .slice a9 rws.length c9], .int .i64 0] :: .agg #[.slice ra9 rm.length rc9, .slice a9 rws.length c9] :: .int .i64 0 :: _ :: _ :: _ :: _ :: _ :: _ :: _ :: _ :: _ :: _ :: _ :: _ :: _ :: _ :: _ :: _ :: _ :: _ :: _ :: _ :: _ :: _ :: _ :: _ :: _ :: _ :: _ :: _ :: _ :: _ :: _ :: _ :: _ :: _ :: _ :: _ :: _ :: _ :: _ :: _ :: _ :: _ :: _ :: _ :: _ :: _ :: _ :: _ :: _ :: _ :: _ :: _ :: _ :: _ :: _ :: _ :: _ :: _ :: _ :: _ :: _ :: _ :: _ :: _ :: _ :: _ :: _ :: _ :: _ :: _ :: _ :: _ :: _ :: _ :: _ :: _ :: _ :: _ :: _ :: _ :: _ :: _ :: _ :: _ :: _ :: _ :: _ :: _ :: _ :: _ :: _ :: _ :: _ :: []), defers := [] } _
              refine wpAnyH_ready (rs := [10]) (by kernel_rfl) (by simp) ?_
              refine (AllReadyH.cons rfl (fun KK hK => ?_) AllReadyH.nil)
              go_simp
              have Ba := btrans B8 (balloc w9 (.cells #[.slice none 0 0, .slice none 0 0] 27))
              have zB : (w9.alloc (.cells #[.slice none 0 0, .slice none 0 0] 27)).heap[w9.heap.size]? = some (.cells #[.slice none 0 0, .slice none 0 0] 27 (0, 0)) := heap_alloc_new w9 _
              have zlo : we.heap.size ≤ w9.heap.size := B8.size
              clear hHeld
              refine hK.out _ _ (by obtain ⟨⟨k0, k1⟩, -⟩ := blk2 (blk_keep Ba Ke); exact ⟨k0, k1, ble Ba d2, ble Ba d3, ble Ba d4⟩) (fun hHeld => ?_)
              clear hK KK
              change wpAnyH _ _ _ _ _ _ _ { tmps := List.toArray (_ :: _ :: _ :: _ :: _ :: _ :: _ :: _ :: _ :: _ :: _ :: .pointer (some ⟨w9.heap.size, 0, none⟩) :: _ :: _ :: _ :: _ :: _ :: _ :: _ :: _ :: _ :: _ :: _ :: _ :: _ :: _ :: _ :: _ :: _ :: _ :: _ :: _ :: _ :: _ :: _ :: _ :: _ :: _ :: _ :: _ :: _ :: _ :: _ :: _ :: _ :: _ :: _ :: _ :: _ :: _ :: _ :: _ :: _ :: _ :: _ :: _ :: _ :: _ :: _ :: _ :: _ :: _ :: _ :: _ :: _ :: _ :: _ :: _ :: _ :: _ :: _ :: _ :: _ :: _ :: _ :: _ :: _ :: _ :: _ :: _ :: _ :: .tuple #[.agg #[.slice ra9 rm.length rc9, .slice a9 rws.length c9], .int .i64 0] :: .agg #[.slice ra8 rm.length rc8, .slice a8 rws.length c8] :: .slice (some ⟨lb, lo, none⟩) l.length lc :: .int .i64 k :: .pointer (some ⟨lb, lo + k * 3, none⟩) :: .agg #[.int .i64 x.f, .int .i64 x.t, .int .i64 x.m] :: .agg #[.int .i64 x.t, .int .i64 x.f, .int .i64 x.m] :: .tuple #[.agg #[.slice ra9 rm.length rc9, .slice a9 rws.length c9], .int .i64 0] :: .agg #[.slice ra9 rm.length rc9, .slice a9 rws.length c9] :: .int .i64 0 :: _ :: _ :: _ :: _ :: _ :: _ :: _ :: _ :: _ :: _ :: _ :: _ :: _ :: _ :: _ :: _ :: _ :: _ :: _ :: _ :: _ :: _ :: _ :: _ :: _ :: _ :: _ :: _ :: _ :: _ :: _ :: _ :: _ :: _ :: _ :: _ :: _ :: _ :: _ :: _ :: _ :: _ :: _ :: _ :: _ :: _ :: _ :: _ :: _ :: _ :: _ :: _ :: _ :: _ :: _ :: _ :: _ :: _ :: _ :: _ :: _ :: _ :: _ :: _ :: _ :: _ :: _ :: _ :: _ :: _ :: _ :: _ :: _ :: _ :: _ :: _ :: _ :: _ :: _ :: _ :: _ :: _ :: _ :: _ :: _ :: _ :: _ :: _ :: _ :: _ :: _ :: _ :: _ :: []), defers := [] } _
              refine wpAnyH_ready (rs := [11]) (by kernel_rfl) (by simp) ?_
              refine (AllReadyH.cons rfl (fun KK hK => ?_) AllReadyH.nil)
              have Bs := btrans B8 (balloc w9 (.cells #[.slice ra9 rm.length rc9, .slice a9 rws.length c9] 27))
              have Kn := heap_alloc_new w9 (.cells #[.slice ra9 rm.length rc9, .slice a9 rws.length c9] 27)
              have Sn := S8b.below (balloc w9 (.cells #[.slice ra9 rm.length rc9, .slice a9 rws.length c9] 27))
              go_simp
              clear hHeld
              refine hK.out _ _ (by obtain ⟨⟨k0, k1⟩, -⟩ := blk2 (blk_keep Bs Ke); exact ⟨k0, k1, ble Bs d2, ble Bs d3, ble Bs d4⟩) (fun hHeld => ?_)
              clear hK KK
              change wpAnyH _ _ _ _ _ _ _ { tmps := List.toArray (_ :: _ :: _ :: _ :: _ :: _ :: _ :: _ :: _ :: _ :: _ :: .pointer (some ⟨w9.heap.size, 0, none⟩) :: _ :: _ :: _ :: _ :: _ :: _ :: _ :: _ :: _ :: _ :: _ :: _ :: _ :: _ :: _ :: _ :: _ :: _ :: _ :: _ :: _ :: _ :: _ :: _ :: _ :: _ :: _ :: _ :: _ :: _ :: _ :: _ :: _ :: _ :: _ :: _ :: _ :: _ :: _ :: _ :: _ :: _ :: _ :: _ :: _ :: _ :: _ :: _ :: _ :: _ :: _ :: _ :: _ :: _ :: _ :: _ :: _ :: _ :: _ :: _ :: _ :: _ :: _ :: _ :: _ :: _ :: _ :: _ :: _ :: .tuple #[.agg #[.slice ra9 rm.length rc9, .slice a9 rws.length c9], .int .i64 0] :: .agg #[.slice ra8 rm.length rc8, .slice a8 rws.length c8] :: .slice (some ⟨lb, lo, none⟩) l.length lc :: .int .i64 k :: .pointer (some ⟨lb, lo + k * 3, none⟩) :: .agg #[.int .i64 x.f, .int .i64 x.t, .int .i64 x.m] :: .agg #[.int .i64 x.t, .int .i64 x.f, .int .i64 x.m] :: .tuple #[.agg #[.slice ra9 rm.length rc9, .slice a9 rws.length c9], .int .i64 0] :: .agg #[.slice ra9 rm.length rc9, .slice a9 rws.length c9] :: .int .i64 0 :: _ :: _ :: _ :: _ :: _ :: _ :: _ :: _ :: _ :: _ :: _ :: _ :: _ :: _ :: _ :: _ :: _ :: _ :: _ :: _ :: _ :: _ :: _ :: _ :: _ :: _ :: _ :: _ :: _ :: _ :: _ :: _ :: _ :: _ :: _ :: _ :: _ :: _ :: _ :: _ :: _ :: _ :: _ :: _ :: _ :: _ :: _ :: _ :: _ :: _ :: _ :: _ :: _ :: _ :: _ :: _ :: _ :: _ :: _ :: _ :: _ :: _ :: _ :: _ :: _ :: _ :: _ :: _ :: _ :: _ :: _ :: _ :: _ :: _ :: _ :: _ :: _ :: _ :: _ :: _ :: _ :: _ :: _ :: _ :: _ :: _ :: _ :: _ :: _ :: _ :: _ :: _ :: _ :: []), defers := [] } _
              refine wpAnyH_take (i := 12) (v := .int .i64 0) rfl (by kernel_rfl) (by kernel_rfl) (by kernel_rfl) (fun _ _ _ h => h) (Or.inl ⟨by kernel_rfl, fun w hS => by go_simp⟩) hHeld ?_
              change wpAnyH _ _ _ _ _ _ _ { tmps := List.toArray (_ :: _ :: _ :: _ :: _ :: _ :: _ :: _ :: _ :: _ :: _ :: .pointer (some ⟨w9.heap.size, 0, none⟩) :: .int .i64 0 :: _ :: _ :: _ :: _ :: _ :: _ :: _ :: _ :: _ :: _ :: _ :: _ :: _ :: _ :: _ :: _ :: _ :: _ :: _ :: _ :: _ :: _ :: _ :: _ :: _ :: _ :: _ :: _ :: _ :: _ :: _ :: _ :: _ :: _ :: _ :: _ :: _ :: _ :: _ :: _ :: _ :: _ :: _ :: _ :: _ :: _ :: _ :: _ :: _ :: _ :: _ :: _ :: _ :: _ :: _ :: _ :: _ :: _ :: _ :: _ :: _ :: _ :: _ :: _ :: _ :: _ :: _ :: _ :: .tuple #[.agg #[.slice ra9 rm.length rc9, .slice a9 rws.length c9], .int .i64 0] :: .agg #[.slice ra8 rm.length rc8, .slice a8 rws.length c8] :: .slice (some ⟨lb, lo, none⟩) l.length lc :: .int .i64 k :: .pointer (some ⟨lb, lo + k * 3, none⟩) :: .agg #[.int .i64 x.f, .int .i64 x.t, .int .i64 x.m] :: .agg #[.int .i64 x.t, .int .i64 x.f, .int .i64 x.m] :: .tuple #[.agg #[.slice ra9 rm.length rc9, .slice a9 rws.length c9], .int .i64 0] :: .agg #[.slice ra9 rm.length rc9, .slice a9 rws.length c9] :: .int .i64 0 :: _ :: _ :: _ :: _ :: _ :: _ :: _ :: _ :: _ :: _ :: _ :: _ :: _ :: _ :: _ :: _ :: _ :: _ :: _ :: _ :: _ :: _ :: _ :: _ :: _ :: _ :: _ :: _ :: _ :: _ :: _ :: _ :: _ :: _ :: _ :: _ :: _ :: _ :: _ :: _ :: _ :: _ :: _ :: _ :: _ :: _ :: _ :: _ :: _ :: _ :: _ :: _ :: _ :: _ :: _ :: _ :: _ :: _ :: _ :: _ :: _ :: _ :: _ :: _ :: _ :: _ :: _ :: _ :: _ :: _ :: _ :: _ :: _ :: _ :: _ :: _ :: _ :: _ :: _ :: _ :: _ :: _ :: _ :: _ :: _ :: _ :: _ :: _ :: _ :: _ :: _ :: _ :: _ :: []), defers := [] } _
              refine wpAnyH_done (by kernel_rfl) ?_ _
              generalize w9.alloc (.cells #[.slice ra9 rm.length rc9, .slice a9 rws.length c9] 27) = wf at *
              have Hf := He.below Bs
              have Nf := Ne.below Bs
              have Kf := blk_keep Bs Ke
              have Sf := Se.below Bs
              clear Bs B8 lo8 Ba zB zlo
              generalize w9.heap.size = Q at *
              obtain ⟨⟨b0, b1⟩, -⟩ := blk2 Kn
              obtain ⟨⟨n0, n1⟩, -⟩ := blk2 Nf.kN
              rw [hun.out.2.1] at Sn
              have CY := cYardO _ _ _ _ _ _ vs8b vsn rm rk rk _ Sn Nf.sid hPk.out hPk.out (fun i => .inl rfl)
              rw [decide_eq_true rfl] at CY
              clear CO CU S8b He Ne Ke Se d0 d1 d2 d3 d4
              go_wp2_with fail
              refine CY.mono ?_
              rintro e wg ⟨rfl, bg⟩
              have Hg := Hf.below bg
              have Ng := Nf.below bg
              have Kg := blk_keep bg Kf
              have Sg := Sf.below bg
              obtain ⟨⟨m0, m1⟩, -⟩ := blk2 Kg
              obtain ⟨⟨n0, n1⟩, -⟩ := blk2 Ng.kN
              have CY2 := cYardO _ _ _ _ _ _ vs8 vsn rm (leftS rm rk x) rk _ Sg Ng.sid (hPk.out.left x) hPk.out (fun i => left_diff x i)
              rw [decide_eq_false hun.out.2.2] at CY2
              clear CY Hf Nf Kf Sf Kn Sn b0 b1 bg
              go_wp2_with fail
              refine CY2.mono ?_
              rintro e wq ⟨rfl, bq⟩
              have Hq := Hg.below bq
              have Nq := Ng.below bq
              have Kq := blk_keep bq Kg
              have Sq := Sg.below bq
              clear CY2 Hg Ng Kg Sg bq m0 m1 n0 n1
              obtain ⟨⟨m0, m1⟩, -⟩ := blk2 Kq
              obtain ⟨⟨n0, n1⟩, g0, g1⟩ := blk2 Nq.kN
              have Hz := Hq.box (p := .slice ra8 rm.length rc8) (q := .slice a8 rws.length c8) Nq.kN hAN hLN hwN
              have Nz := NowS.next Sq Nq.kN
              clear Hq Nq Kq Sq
              go_wp2
              go_roundw
              case rel => exact ⟨k + 1, _, _, _, _, vs8, by omega, by go_num, Hz, by rw [hnx.out]; exact Nz⟩
              case measure => simp [intOf]; omega
            · skip
              go_simp
              have Ba := btrans B7 (balloc w7 (.cells #[.slice none 0 0, .slice none 0 0] 27))
              have zB : (w7.alloc (.cells #[.slice none 0 0, .slice none 0 0] 27)).heap[w7.heap.size]? = some (.cells #[.slice none 0 0, .slice none 0 0] 27 (0, 0)) := heap_alloc_new w7 _
              have zlo : we.heap.size ≤ w7.heap.size := B7.size
              clear hHeld
              refine hK.out _ _ (by obtain ⟨⟨k0, k1⟩, -⟩ := blk2 (blk_keep Ba Ke); exact ⟨k0, k1, ble Ba d2, ble Ba d3, ble Ba d4⟩) (fun hHeld => ?_)
              clear hK KK
              change wpAnyH _ _ _ _ _ _ _ { tmps := List.toArray (_ :: _ :: _ :: _ :: _ :: _ :: _ :: _ :: _ :: _ :: _ :: .pointer (some ⟨w7.heap.size, 0, none⟩) :: _ :: _ :: _ :: _ :: _ :: _ :: _ :: _ :: _ :: _ :: _ :: _ :: _ :: _ :: _ :: _ :: _ :: _ :: _ :: _ :: _ :: _ :: _ :: _ :: _ :: _ :: _ :: _ :: _ :: _ :: _ :: _ :: _ :: _ :: _ :: _ :: _ :: _ :: _ :: _ :: _ :: _ :: _ :: _ :: _ :: _ :: _ :: _ :: _ :: _ :: _ :: _ :: _ :: _ :: _ :: _ :: _ :: _ :: _ :: _ :: _ :: _ :: _ :: _ :: _ :: _ :: _ :: _ :: _ :: _ :: .agg #[.slice ra8 rm.length rc8, .slice a8 rws.length c8] :: .slice (some ⟨lb, lo, none⟩) l.length lc :: .int .i64 k :: .pointer (some ⟨lb, lo + k * 3, none⟩) :: .agg #[.int .i64 x.f, .int .i64 x.t, .int .i64 x.m] :: .agg #[.int .i64 x.t, .int .i64 x.f, .int .i64 x.m] :: _ :: _ :: _ :: _ :: _ :: _ :: _ :: _ :: _ :: _ :: _ :: _ :: _ :: _ :: _ :: _ :: _ :: _ :: _ :: _ :: _ :: _ :: _ :: _ :: _ :: _ :: _ :: _ :: _ :: _ :: _ :: _ :: _ :: _ :: _ :: _ :: _ :: _ :: _ :: _ :: _ :: _ :: _ :: _ :: _ :: _ :: _ :: _ :: _ :: _ :: _ :: _ :: _ :: _ :: _ :: _ :: _ :: _ :: _ :: _ :: _ :: _ :: _ :: _ :: _ :: _ :: _ :: _ :: _ :: _ :: _ :: _ :: _ :: _ :: _ :: _ :: _ :: _ :: _ :: _ :: _ :: _ :: _ :: _ :: _ :: _ :: _ :: _ :: _ :: _ :: _ :: _ :: _ :: _ :: _ :: _ :: []), defers := [] } _
              refine wpAnyH_ready (rs := [6]) (by kernel_rfl) (by simp) ?_
              refine (AllReadyH.cons rfl (fun KK hK => ?_) AllReadyH.nil)
              go_simp
              refine (CO _ (Sd.below Ba)).mono ?_
              rintro e w9 ⟨rv8, v8, vs8b, rfl, S8b, hb8⟩
              have B8 := btrans Ba hb8
              have lo8 := Ba.size
              have zB := blk_keep hb8 zB
              obtain ⟨ra9, rc9, a9, c9, rfl, hv8, -⟩ := S8b.arg
              rw [hl8b.out] at hv8
              subst hv8
              clear hb8
              go_wp2_with fail
              clear hHeld
              refine hK.out _ _ (by obtain ⟨⟨k0, k1⟩, -⟩ := blk2 (blk_keep B8 Ke); exact ⟨k0, k1, ble B8 d2, ble B8 d3, ble B8 d4⟩) (fun hHeld => ?_)
              clear hK KK
              change wpAnyH _ _ _ _ _ _ _ { tmps := List.toArray (_ :: _ :: _ :: _ :: _ :: _ :: _ :: _ :: _ :: _ :: _ :: .pointer (some ⟨w7.heap.size, 0, none⟩) :: _ :: _ :: _ :: _ :: _ :: _ :: _ :: _ :: _ :: _ :: _ :: _ :: _ :: _ :: _ :: _ :: _ :: _ :: _ :: _ :: _ :: _ :: _ :: _ :: _ :: _ :: _ :: _ :: _ :: _ :: _ :: _ :: _ :: _ :: _ :: _ :: _ :: _ :: _ :: _ :: _ :: _ :: _ :: _ :: _ :: _ :: _ :: _ :: _ :: _ :: _ :: _ :: _ :: _ :: _ :: _ :: _ :: _ :: _ :: _ :: _ :: _ :: _ :: _ :: _ :: _ :: _ :: _ :: _ :: _ :: .agg #[.slice ra8 rm.length rc8, .slice a8 rws.length c8] :: .slice (some ⟨lb, lo, none⟩) l.length lc :: .int .i64 k :: .pointer (some ⟨lb, lo + k * 3, none⟩) :: .agg #[.int .i64 x.f, .int .i64 x.t, .int .i64 x.m] :: .agg #[.int .i64 x.t, .int .i64 x.f, .int .i64 x.m] :: .tuple #[.agg #[.slice ra9 rm.length rc9, .slice a9 rws.length c9], .int .i64 0] :: _ :: _ :: _ :: _ :: _ :: _ :: _ :: _ :: _ :: _ :: _ :: _ :: _ :: _ :: _ :: _ :: _ :: _ :: _ :: _ :: _ :: _ :: _ :: _ :: _ :: _ :: _ :: _ :: _ :: _ :: _ :: _ :: _ :: _ :: _ :: _ :: _ :: _ :: _ :: _ :: _ :: _ :: _ :: _ :: _ :: _ :: _ :: _ :: _ :: _ :: _ :: _ :: _ :: _ :: _ :: _ :: _ :: _ :: _ :: _ :: _ :: _ :: _ :: _ :: _ :: _ :: _ :: _ :: _ :: _ :: _ :: _ :: _ :: _ :: _ :: _ :: _ :: _ :: _ :: _ :: _ :: _ :: _ :: _ :: _ :: _ :: _ :: _ :: _ :: _ :: _ :: _ :: _ :: _ :: _ :: []), defers := [] } _
              refine wpAnyH_take (i := 7) (v := .tuple #[.agg #[.slice ra9 rm.length rc9, .slice a9 rws.length c9], .int .i64 0]) rfl (by kernel_rfl) (by kernel_rfl) (by kernel_rfl) (fun _ _ _ h => h) (Or.inl ⟨by kernel_rfl, fun w hS => by go_simp⟩) hHeld ?_
              change wpAnyH _ _ _ _ _ _ _ { tmps := List.toArray (_ :: _ :: _ :: _ :: _ :: _ :: _ :: _ :: _ :: _ :: _ :: .pointer (some ⟨w7.heap.size, 0, none⟩) :: _ :: _ :: _ :: _ :: _ :: _ :: _ :: _ :: _ :: _ :: _ :: _ :: _ :: _ :: _ :: _ :: _ :: _ :: _ :: _ :: _ :: _ :: _ :: _ :: _ :: _ :: _ :: _ :: _ :: _ :: _ :: _ :: _ :: _ :: _ :: _ :: _ :: _ :: _ :: _ :: _ :: _ :: _ :: _ :: _ :: _ :: _ :: _ :: _ :: _ :: _ :: _ :: _ :: _ :: _ :: _ :: _ :: _ :: _ :: _ :: _ :: _ :: _ :: _ :: _ :: _ :: _ :: _ :: _ :: .tuple #[.agg #[.slice ra9 rm.length rc9, .slice a9 rws.length c9], .int .i64 0] :: .agg #[.slice ra8 rm.length rc8, .slice a8 rws.length c8] :: .slice (some ⟨lb, lo, none⟩) l.length lc :: .int .i64 k :: .pointer (some ⟨lb, lo + k * 3, none⟩) :: .agg #[.int .i64 x.f, .int .i64 x.t, .int .i64 x.m] :: .agg #[.int .i64 x.t, .int .i64 x.f, .int .i64 x.m] :: .tuple #[.agg #[.slice ra9 rm.length rc9, .slice a9 rws.length c9], .int .i64 0] :: _ :: _ :: _ :: _ :: _ :: _ :: _ :: _ :: _ :: _ :: _ :: _ :: _ :: _ :: _ :: _ :: _ :: _ :: _ :: _ :: _ :: _ :: _ :: _ :: _ :: _ :: _ :: _ :: _ :: _ :: _ :: _ :: _ :: _ :: _ :: _ :: _ :: _ :: _ :: _ :: _ :: _ :: _ :: _ :: _ :: _ :: _ :: _ :: _ :: _ :: _ :: _ :: _ :: _ :: _ :: _ :: _ :: _ :: _ :: _ :: _ :: _ :: _ :: _ :: _ :: _ :: _ :: _ :: _ :: _ :: _ :: _ :: _ :: _ :: _ :: _ :: _ :: _ :: _ :: _ :: _ :: _ :: _ :: _ :: _ :: _ :: _ :: _ :: _ :: _ :: _ :: _ :: _ :: _ :: _ :: []), defers := [] } _
              refine wpAnyH_take (i := 8) (v := .agg #[.slice ra9 rm.length rc9, .slice a9 rws.length c9]) rfl (by kernel_rfl) (by kernel_rfl) (by kernel_rfl) (fun _ _ _ h => h) (Or.inl ⟨by kernel_rfl, fun w hS => by go_simp⟩) hHeld ?_
              change wpAnyH _ _ _ _ _ _ _ { tmps := List.toArray (_ :: _ :: _ :: _ :: _ :: _ :: _ :: _ :: _ :: _ :: _ :: .pointer (some ⟨w7.heap.size, 0, none⟩) :: _ :: _ :: _ :: _ :: _ :: _ :: _ :: _ :: _ :: _ :: _ :: _ :: _ :: _ :: _ :: _ :: _ :: _ :: _ :: _ :: _ :: _ :: _ :: _ :: _ :: _ :: _ :: _ :: _ :: _ :: _ :: _ :: _ :: _ :: _ :: _ :: _ :: _ :: _ :: _ :: _ :: _ :: _ :: _ :: _ :: _ :: _ :: _ :: _ :: _ :: _ :: _ :: _ :: _ :: _ :: _ :: _ :: _ :: _ :: _ :: _ :: _ :: _ :: _ :: _ :: _ :: _ :: _ :: _ :: .tuple #[.agg #[.slice ra9 rm.length rc9, .slice a9 rws.length c9], .int .i64 0] :: .agg #[.slice ra8 rm.length rc8, .slice a8 rws.length c8] :: .slice (some ⟨lb, lo, none⟩) l.length lc :: .int .i64 k :: .pointer (some ⟨lb, lo + k * 3, none⟩) :: .agg #[.int .i64 x.f, .int .i64 x.t, .int .i64 x.m] :: .agg #[.int .i64 x.t, .int .i64 x.f, .int .i64 x.m] :: .tuple #[.agg #[.slice ra9 rm.length rc9, .slice a9 rws.length c9], .int .i64 0] :: .agg #[.slice ra9 rm.length rc9, .slice a9 rws.length c9] :: _ :: _ :: _ :: _ :: _ :: _ :: _ :: _ :: _ :: _ :: _ :: _ :: _ :: _ :: _ :: _ :: _ :: _ :: _ :: _ :: _ :: _ :: _ :: _ :: _ :: _ :: _ :: _ :: _ :: _ :: _ :: _ :: _ :: _ :: _ :: _ :: _ :: _ :: _ :: _ :: _ :: _ :: _ :: _ :: _ :: _ :: _ :: _ :: _ :: _ :: _ :: _ :: _ :: _ :: _ :: _ :: _ :: _ :: _ :: _ :: _ :: _ :: _ :: _ :: _ :: _ :: _ :: _ :: _ :: _ :: _ :: _ :: _ :: _ :: _ :: _ :: _ :: _ :: _ :: _ :: _ :: _ :: _ :: _ :: _ :: _ :: _ :: _ :: _ :: _ :: _ :: _ :: _ :: _ :: []), defers := [] } _
              refine wpAnyH_take (i := 9) (v := .int .i64 0) rfl (by kernel_rfl) (by kernel_rfl) (by kernel_rfl) (fun _ _ _ h => h) (Or.inl ⟨by kernel_rfl, fun w hS => by go_simp⟩) hHeld ?_
              change wpAnyH _ _ _ _ _ _ _ { tmps := List.toArray (_ :: _ :: _ :: _ :: _ :: _ :: _ :: _ :: _ :: _ :: _ :: .pointer (some ⟨w7.heap.size, 0, none⟩) :: _ :: _ :: _ :: _ :: _ :: _ :: _ :: _ :: _ :: _ :: _ :: _ :: _ :: _ :: _ :: _ :: _ :: _ :: _ :: _ :: _ :: _ :: _ :: _ :: _ :: _ :: _ :: _ :: _ :: _ :: _ :: _ :: _ :: _ :: _ :: _ :: _ :: _ :: _ :: _ :: _ :: _ :: _ :: _ :: _ :: _ :: _ :: _ :: _ :: _ :: _ :: _ :: _ :: _ :: _ :: _ :: _ :: _ :: _ :: _ :: _ :: _ :: _ :: _ :: _ :: _ :: _ :: _ :: _ :: .tuple #[.agg #[.slice ra9 rm.length rc9, .slice a9 rws.length c9], .int .i64 0] :: .agg #[.slice ra8 rm.length rc8, .slice a8 rws.length c8] :: .slice (some ⟨lb, lo, none⟩) l.length lc :: .int .i64 k :: .pointer (some ⟨lb, lo + k * 3, none⟩) :: .agg #[.int .i64 x.f, .int .i64 x.t, .int .i64 x.m] :: .agg #[.int .i64 x.t, .int .i64 x.f, .int .i64 x.m] :: .tuple #[.agg #[.slice ra9 rm.length rc9, .slice a9 rws.length c9], .int .i64 0] :: .agg #[.slice ra9 rm.length rc9, .slice a9 rws.length c9] :: .int .i64 0 :: _ :: _ :: _ :: _ :: _ :: _ :: _ :: _ :: _ :: _ :: _ :: _ :: _ :: _ :: _ :: _ :: _ :: _ :: _ :: _ :: _ :: _ :: _ :: _ :: _ :: _ :: _ :: _ :: _ :: _ :: _ :: _ :: _ :: _ :: _ :: _ :: _ :: _ :: _ :: _ :: _ :: _ :: _ :: _ :: _ :: _ :: _ :: _ :: _ :: _ :: _ :: _ :: _ :: _ :: _ :: _ :: _ :: _ :: _ :: _ :: _ :: _ :: _ :: _ :: _ :: _ :: _ :: _ :: _ :: _ :: _ :: _ :: _ :: _ :: _ :: _ :: _ :: _ :: _ :: _ :: _ :: _ :: _ :: _ :: _ :: _ :: _ :: _ :: _ :: _ :: _ :: _ :: _ :: []), defers := [] } _
              refine wpAnyH_ready (rs := [11]) (by kernel_rfl) (by simp) ?_
              refine (AllReadyH.cons rfl (fun KK hK => ?_) AllReadyH.nil)
              obtain ⟨⟨z0, z1⟩, y0, y1⟩ := blk2 zB
              have Kn := box_set (p := .slice ra9 rm.length rc9) (q := .slice a9 rws.length c9) zB
              have Sn := S8b.box (p := .slice ra9 rm.length rc9) (q := .slice a9 rws.length c9) zB
              have Bs : Below we.heap.size we ((w9.setCell ⟨w7.heap.size, 0, none⟩ (.slice ra9 rm.length rc9)).setCell ⟨w7.heap.size, 1, none⟩ (.slice a9 rws.length c9)) := below_set zlo (below_set zlo B8)
              go_simp
              clear hHeld
              refine hK.out _ _ (by obtain ⟨⟨k0, k1⟩, -⟩ := blk2 (blk_keep Bs Ke); exact ⟨k0, k1, ble Bs d2, ble Bs d3, ble Bs d4⟩) (fun hHeld => ?_)
              clear hK KK
              change wpAnyH _ _ _ _ _ _ _ { tmps := List.toArray (_ :: _ :: _ :: _ :: _ :: _ :: _ :: _ :: _ :: _ :: _ :: .pointer (some ⟨w7.heap.size, 0, none⟩) :: _ :: _ :: _ :: _ :: _ :: _ :: _ :: _ :: _ :: _ :: _ :: _ :: _ :: _ :: _ :: _ :: _ :: _ :: _ :: _ :: _ :: _ :: _ :: _ :: _ :: _ :: _ :: _ :: _ :: _ :: _ :: _ :: _ :: _ :: _ :: _ :: _ :: _ :: _ :: _ :: _ :: _ :: _ :: _ :: _ :: _ :: _ :: _ :: _ :: _ :: _ :: _ :: _ :: _ :: _ :: _ :: _ :: _ :: _ :: _ :: _ :: _ :: _ :: _ :: _ :: _ :: _ :: _ :: _ :: .tuple #[.agg #[.slice ra9 rm.length rc9, .slice a9 rws.length c9], .int .i64 0] :: .agg #[.slice ra8 rm.length rc8, .slice a8 rws.length c8] :: .slice (some ⟨lb, lo, none⟩) l.length lc :: .int .i64 k :: .pointer (some ⟨lb, lo + k * 3, none⟩) :: .agg #[.int .i64 x.f, .int .i64 x.t, .int .i64 x.m] :: .agg #[.int .i64 x.t, .int .i64 x.f, .int .i64 x.m] :: .tuple #[.agg #[.slice ra9 rm.length rc9, .slice a9 rws.length c9], .int .i64 0] :: .agg #[.slice ra9 rm.length rc9, .slice a9 rws.length c9] :: .int .i64 0 :: _ :: _ :: _ :: _ :: _ :: _ :: _ :: _ :: _ :: _ :: _ :: _ :: _ :: _ :: _ :: _ :: _ :: _ :: _ :: _ :: _ :: _ :: _ :: _ :: _ :: _ :: _ :: _ :: _ :: _ :: _ :: _ :: _ :: _ :: _ :: _ :: _ :: _ :: _ :: _ :: _ :: _ :: _ :: _ :: _ :: _ :: _ :: _ :: _ :: _ :: _ :: _ :: _ :: _ :: _ :: _ :: _ :: _ :: _ :: _ :: _ :: _ :: _ :: _ :: _ :: _ :: _ :: _ :: _ :: _ :: _ :: _ :: _ :: _ :: _ :: _ :: _ :: _ :: _ :: _ :: _ :: _ :: _ :: _ :: _ :: _ :: _ :: _ :: _ :: _ :: _ :: _ :: _ :: []), defers := [] } _
              refine wpAnyH_take (i := 12) (v := .int .i64 0) rfl (by kernel_rfl) (by kernel_rfl) (by kernel_rfl) (fun _ _ _ h => h) (Or.inl ⟨by kernel_rfl, fun w hS => by go_simp⟩) hHeld ?_
              change wpAnyH _ _ _ _ _ _ _ { tmps := List.toArray (_ :: _ :: _ :: _ :: _ :: _ :: _ :: _ :: _ :: _ :: _ :: .pointer (some ⟨w7.heap.size, 0, none⟩) :: .int .i64 0 :: _ :: _ :: _ :: _ :: _ :: _ :: _ :: _ :: _ :: _ :: _ :: _ :: _ :: _ :: _ :: _ :: _ :: _ :: _ :: _ :: _ :: _ :: _ :: _ :: _ :: _ :: _ :: _ :: _ :: _ :: _ :: _ :: _ :: _ :: _ :: _ :: _ :: _ :: _ :: _ :: _ :: _ :: _ :: _ :: _ :: _ :: _ :: _ :: _ :: _ :: _ :: _ :: _ :: _ :: _ :: _ :: _ :: _ :: _ :: _ :: _ :: _ :: _ :: _ :: _ :: _ :: _ :: _ :: .tuple #[.agg #[.slice ra9 rm.length rc9, .slice a9 rws.length c9], .int .i64 0] :: .agg #[.slice ra8 rm.length rc8, .slice a8 rws.length c8] :: .slice (some ⟨lb, lo, none⟩) l.length lc :: .int .i64 k :: .pointer (some ⟨lb, lo + k * 3, none⟩) :: .agg #[.int .i64 x.f, .int .i64 x.t, .int .i64 x.m] :: .agg #[.int .i64 x.t, .int .i64 x.f, .int .i64 x.m] :: .tuple #[.agg #[.slice ra9 rm.length rc9, .slice a9 rws.length c9], .int .i64 0] :: .agg #[.slice ra9 rm.length rc9, .slice a9 rws.length c9] :: .int .i64 0 :: _ :: _ :: _ :: _ :: _ :: _ :: _ :: _ :: _ :: _ :: _ :: _ :: _ :: _ :: _ :: _ :: _ :: _ :: _ :: _ :: _ :: _ :: _ :: _ :: _ :: _ :: _ :: _ :: _ :: _ :: _ :: _ :: _ :: _ :: _ :: _ :: _ :: _ :: _ :: _ :: _ :: _ :: _ :: _ :: _ :: _ :: _ :: _ :: _ :: _ :: _ :: _ :: _ :: _ :: _ :: _ :: _ :: _ :: _ :: _ :: _ :: _ :: _ :: _ :: _ :: _ :: _ :: _ :: _ :: _ :: _ :: _ :: _ :: _ :: _ :: _ :: _ :: _ :: _ :: _ :: _ :: _ :: _ :: _ :: _ :: _ :: _ :: _ :: _ :: _ :: _ :: _ :: _ :: []), defers := [] } _
              refine wpAnyH_done (by kernel_rfl) ?_ _
              generalize (w9.setCell ⟨w7.heap.size, 0, none⟩ (.slice ra9 rm.length rc9)).setCell ⟨w7.heap.size, 1, none⟩ (.slice a9 rws.length c9) = wf at *
              have Hf := He.below Bs
              have Nf := Ne.below Bs
              have Kf := blk_keep Bs Ke
              have Sf := Se.below Bs
              clear Bs B8 lo8 Ba zB zlo
              generalize w7.heap.size = Q at *
              obtain ⟨⟨b0, b1⟩, -⟩ := blk2 Kn
              obtain ⟨⟨n0, n1⟩, -⟩ := blk2 Nf.kN
              rw [hun.out.2.1] at Sn
              have CY := cYardO _ _ _ _ _ _ vs8b vsn rm rk rk _ Sn Nf.sid hPk.out hPk.out (fun i => .inl rfl)
              rw [decide_eq_true rfl] at CY
              clear CO CU S8b He Ne Ke Se d0 d1 d2 d3 d4
              go_wp2_with fail
              refine CY.mono ?_
              rintro e wg ⟨rfl, bg⟩
              have Hg := Hf.below bg
              have Ng := Nf.below bg
              have Kg := blk_keep bg Kf
              have Sg := Sf.below bg
              obtain ⟨⟨m0, m1⟩, -⟩ := blk2 Kg
              obtain ⟨⟨n0, n1⟩, -⟩ := blk2 Ng.kN
              have CY2 := cYardO _ _ _ _ _ _ vs8 vsn rm (leftS rm rk x) rk _ Sg Ng.sid (hPk.out.left x) hPk.out (fun i => left_diff x i)
              rw [decide_eq_false hun.out.2.2] at CY2
              clear CY Hf Nf Kf Sf Kn Sn b0 b1 bg
              go_wp2_with fail
              refine CY2.mono ?_
              rintro e wq ⟨rfl, bq⟩
              have Hq := Hg.below bq
              have Nq := Ng.below bq
              have Kq := blk_keep bq Kg
              have Sq := Sg.below bq
              clear CY2 Hg Ng Kg Sg bq m0 m1 n0 n1
              obtain ⟨⟨m0, m1⟩, -⟩ := blk2 Kq
              obtain ⟨⟨n0, n1⟩, g0, g1⟩ := blk2 Nq.kN
              have Hz := Hq.box (p := .slice ra8 rm.length rc8) (q := .slice a8 rws.length c8) Nq.kN hAN hLN hwN
              have Nz := NowS.next Sq Nq.kN
              clear Hq Nq Kq Sq
              go_wp2
              go_roundw
              case rel => exact ⟨k + 1, _, _, _, _, vs8, by omega, by go_num, Hz, by rw [hnx.out]; exact Nz⟩
              case measure => simp [intOf]; omega
          · skip
            go_simp
            have Ba := btrans B0 (balloc we (.cells #[.slice none 0 0, .slice none 0 0] 27))
            have zB : (we.alloc (.cells #[.slice none 0 0, .slice none 0 0] 27)).heap[we.heap.size]? = some (.cells #[.slice none 0 0, .slice none 0 0] 27 (0, 0)) := heap_alloc_new we _
            have zlo : we.heap.size ≤ we.heap.size := B0.size
            clear hHeld
            refine hK.out _ _ (by obtain ⟨⟨k0, k1⟩, -⟩ := blk2 (blk_keep Ba Ke); exact ⟨k0, k1, ble Ba d2, ble Ba d3, ble Ba d4⟩) (fun hHeld => ?_)
            clear hK KK
            change wpAnyH _ _ _ _ _ _ _ { tmps := List.toArray (_ :: _ :: _ :: _ :: _ :: _ :: _ :: _ :: _ :: _ :: _ :: .pointer (some ⟨we.heap.size, 0, none⟩) :: _ :: _ :: _ :: _ :: _ :: _ :: _ :: _ :: _ :: _ :: _ :: _ :: _ :: _ :: _ :: _ :: _ :: _ :: _ :: _ :: _ :: _ :: _ :: _ :: _ :: _ :: _ :: _ :: _ :: _ :: _ :: _ :: _ :: _ :: _ :: _ :: _ :: _ :: _ :: _ :: _ :: _ :: _ :: _ :: _ :: _ :: _ :: _ :: _ :: _ :: _ :: _ :: _ :: _ :: _ :: _ :: _ :: _ :: _ :: _ :: _ :: _ :: _ :: _ :: _ :: _ :: _ :: _ :: _ :: _ :: .agg #[.slice ra8 rm.length rc8, .slice a8 rws.length c8] :: .slice (some ⟨lb, lo, none⟩) l.length lc :: .int .i64 k :: .pointer (some ⟨lb, lo + k * 3, none⟩) :: .agg #[.int .i64 x.f, .int .i64 x.t, .int .i64 x.m] :: _ :: _ :: _ :: _ :: _ :: _ :: _ :: _ :: _ :: _ :: _ :: _ :: _ :: _ :: _ :: _ :: _ :: _ :: _ :: _ :: _ :: _ :: _ :: _ :: _ :: _ :: _ :: _ :: _ :: _ :: _ :: _ :: _ :: _ :: _ :: _ :: _ :: _ :: _ :: _ :: _ :: _ :: _ :: _ :: _ :: _ :: _ :: _ :: _ :: _ :: _ :: _ :: _ :: _ :: _ :: _ :: _ :: _ :: _ :: _ :: _ :: _ :: _ :: _ :: _ :: _ :: _ :: _ :: _ :: _ :: _ :: _ :: _ :: _ :: _ :: _ :: _ :: _ :: _ :: _ :: _ :: _ :: _ :: _ :: _ :: _ :: _ :: _ :: _ :: _ :: _ :: _ :: _ :: _ :: _ :: _ :: _ :: []), defers := [] } _
            refine wpAnyH_ready (rs := [5]) (by kernel_rfl) (by simp) ?_
            refine (AllReadyH.cons rfl (fun KK hK => ?_) AllReadyH.nil)
            go_simp
            refine (CU _).mono ?_
            rintro e w7 ⟨rfl, hb7⟩
            have B7 := btrans Ba hb7
            have zB := blk_keep hb7 zB
            clear hb7
            go_wp2_with fail
            clear hHeld
            refine hK.out _ _ (by obtain ⟨⟨k0, k1⟩, -⟩ := blk2 (blk_keep B7 Ke); exact ⟨k0, k1, ble B7 d2, ble B7 d3, ble B7 d4⟩) (fun hHeld => ?_)
            clear hK KK
            change wpAnyH _ _ _ _ _ _ _ { tmps := List.toArray (_ :: _ :: _ :: _ :: _ :: _ :: _ :: _ :: _ :: _ :: _ :: .pointer (some ⟨we.heap.size, 0, none⟩) :: _ :: _ :: _ :: _ :: _ :: _ :: _ :: _ :: _ :: _ :: _ :: _ :: _ :: _ :: _ :: _ :: _ :: _ :: _ :: _ :: _ :: _ :: _ :: _ :: _ :: _ :: _ :: _ :: _ :: _ :: _ :: _ :: _ :: _ :: _ :: _ :: _ :: _ :: _ :: _ :: _ :: _ :: _ :: _ :: _ :: _ :: _ :: _ :: _ :: _ :: _ :: _ :: _ :: _ :: _ :: _ :: _ :: _ :: _ :: _ :: _ :: _ :: _ :: _ :: _ :: _ :: _ :: _ :: _ :: _ :: .agg #[.slice ra8 rm.length rc8, .slice a8 rws.length c8] :: .slice (some ⟨lb, lo, none⟩) l.length lc :: .int .i64 k :: .pointer (some ⟨lb, lo + k * 3, none⟩) :: .agg #[.int .i64 x.f, .int .i64 x.t, .int .i64 x.m] :: .agg #[.int .i64 x.t, .int .i64 x.f, .int .i64 x.m] :: _ :: _ :: _ :: _ :: _ :: _ :: _ :: _ :: _ :: _ :: _ :: _ :: _ :: _ :: _ :: _ :: _ :: _ :: _ :: _ :: _ :: _ :: _ :: _ :: _ :: _ :: _ :: _ :: _ :: _ :: _ :: _ :: _ :: _ :: _ :: _ :: _ :: _ :: _ :: _ :: _ :: _ :: _ :: _ :: _ :: _ :: _ :: _ :: _ :: _ :: _ :: _ :: _ :: _ :: _ :: _ :: _ :: _ :: _ :: _ :: _ :: _ :: _ :: _ :: _ :: _ :: _ :: _ :: _ :: _ :: _ :: _ :: _ :: _ :: _ :: _ :: _ :: _ :: _ :: _ :: _ :: _ :: _ :: _ :: _ :: _ :: _ :: _ :: _ :: _ :: _ :: _ :: _ :: _ :: _ :: _ :: []), defers := [] } _
            refine wpAnyH_ready (rs := [6]) (by kernel_rfl) (by simp) ?_
            refine (AllReadyH.cons rfl (fun KK hK => ?_) AllReadyH.nil)
            go_simp
            refine (CO _ (Sd.below B7)).mono ?_
            rintro e w9 ⟨rv8, v8, vs8b, rfl, S8b, hb8⟩
            have B8 := btrans B7 hb8
            have lo8 := B7.size
            have zB := blk_keep hb8 zB
            obtain ⟨ra9, rc9, a9, c9, rfl, hv8, -⟩ := S8b.arg
            rw [hl8b.out] at hv8
            subst hv8
            clear hb8
            go_wp2_with fail
            clear hHeld
            refine hK.out _ _ (by obtain ⟨⟨k0, k1⟩, -⟩ := blk2 (blk_keep B8 Ke); exact ⟨k0, k1, ble B8 d2, ble B8 d3, ble B8 d4⟩) (fun hHeld => ?_)
            clear hK KK
            change wpAnyH _ _ _ _ _ _ _ { tmps := List.toArray (_ :: _ :: _ :: _ :: _ :: _ :: _ :: _ :: _ :: _ :: _ :: .pointer (some ⟨we.heap.size, 0, none⟩) :: _ :: _ :: _ :: _ :: _ :: _ :: _ :: _ :: _ :: _ :: _ :: _ :: _ :: _ :: _ :: _ :: _ :: _ :: _ :: _ :: _ :: _ :: _ :: _ :: _ :: _ :: _ :: _ :: _ :: _ :: _ :: _ :: _ :: _ :: _ :: _ :: _ :: _ :: _ :: _ :: _ :: _ :: _ :: _ :: _ :: _ :: _ :: _ :: _ :: _ :: _ :: _ :: _ :: _ :: _ :: _ :: _ :: _ :: _ :: _ :: _ :: _ :: _ :: _ :: _ :: _ :: _ :: _ :: _ :: _ :: .agg #[.slice ra8 rm.length rc8, .slice a8 rws.length c8] :: .slice (some ⟨lb, lo, none⟩) l.length lc :: .int .i64 k :: .pointer (some ⟨lb, lo + k * 3, none⟩) :: .agg #[.int .i64 x.f, .int .i64 x.t, .int .i64 x.m] :: .agg #[.int .i64 x.t, .int .i64 x.f, .int .i64 x.m] :: .tuple #[.agg #[.slice ra9 rm.length rc9, .slice a9 rws.length c9], .int .i64 0] :: _ :: _ :: _ :: _ :: _ :: _ :: _ :: _ :: _ :: _ :: _ :: _ :: _ :: _ :: _ :: _ :: _ :: _ :: _ :: _ :: _ :: _ :: _ :: _ :: _ :: _ :: _ :: _ :: _ :: _ :: _ :: _ :: _ :: _ :: _ :: _ :: _ :: _ :: _ :: _ :: _ :: _ :: _ :: _ :: _ :: _ :: _ :: _ :: _ :: _ :: _ :: _ :: _ :: _ :: _ :: _ :: _ :: _ :: _ :: _ :: _ :: _ :: _ :: _ :: _ :: _ :: _ :: _ :: _ :: _ :: _ :: _ :: _ :: _ :: _ :: _ :: _ :: _ :: _ :: _ :: _ :: _ :: _ :: _ :: _ :: _ :: _ :: _ :: _ :: _ :: _ :: _ :: _ :: _ :: _ :: []), defers := [] } _
            refine wpAnyH_take (i := 7) (v := .tuple #[.agg #[.slice ra9 rm.length rc9, .slice a9 rws.length c9], .int .i64 0]) rfl (by kernel_rfl) (by kernel_rfl) (by kernel_rfl) (fun _ _ _ h => h) (Or.inl ⟨by kernel_rfl, fun w hS => by go_simp⟩) hHeld ?_
            change wpAnyH _ _ _ _ _ _ _ { tmps := List.toArray (_ :: _ :: _ :: _ :: _ :: _ :: _ :: _ :: _ :: _ :: _ :: .pointer (some ⟨we.heap.size, 0, none⟩) :: _ :: _ :: _ :: _ :: _ :: _ :: _ :: _ :: _ :: _ :: _ :: _ :: _ :: _ :: _ :: _ :: _ :: _ :: _ :: _ :: _ :: _ :: _ :: _ :: _ :: _ :: _ :: _ :: _ :: _ :: _ :: _ :: _ :: _ :: _ :: _ :: _ :: _ :: _ :: _ :: _ :: _ :: _ :: _ :: _ :: _ :: _ :: _ :: _ :: _ :: _ :: _ :: _ :: _ :: _ :: _ :: _ :: _ :: _ :: _ :: _ :: _ :: _ :: _ :: _ :: _ :: _ :: _ :: _ :: .tuple #[.agg #[.slice ra9 rm.length rc9, .slice a9 rws.length c9], .int .i64 0] :: .agg #[.slice ra8 rm.length rc8, .slice a8 rws.length c8] :: .slice (some ⟨lb, lo, none⟩) l.length lc :: .int .i64 k :: .pointer (some ⟨lb, lo + k * 3, none⟩) :: .agg #[.int .i64 x.f, .int .i64 x.t, .int .i64 x.m] :: .agg #[.int .i64 x.t, .int .i64 x.f, .int .i64 x.m] :: .tuple #[.agg #[.slice ra9 rm.length rc9, .slice a9 rws.length c9], .int .i64 0] :: _ :: _ :: _ :: _ :: _ :: _ :: _ :: _ :: _ :: _ :: _ :: _ :: _ :: _ :: _ :: _ :: _ :: _ :: _ :: _ :: _ :: _ :: _ :: _ :: _ :: _ :: _ :: _ :: _ :: _ :: _ :: _ :: _ :: _ :: _ :: _ :: _ :: _ :: _ :: _ :: _ :: _ :: _ :: _ :: _ :: _ :: _ :: _ :: _ :: _ :: _ :: _ :: _ :: _ :: _ :: _ :: _ :: _ :: _ :: _ :: _ :: _ :: _ :: _ :: _ :: _ :: _ :: _ :: _ :: _ :: _ :: _ :: _ :: _ :: _ :: _ :: _ :: _ :: _ :: _ :: _ :: _ :: _ :: _ :: _ :: _ :: _ :: _ :: _ :: _ :: _ :: _ :: _ :: _ :: _ :: []), defers := [] } _
            refine wpAnyH_take (i := 8) (v := .agg #[.slice ra9 rm.length rc9, .slice a9 rws.length c9]) rfl (by kernel_rfl) (by kernel_rfl) (by kernel_rfl) (fun _ _ _ h => h) (Or.inl ⟨by kernel_rfl, fun w hS => by go_simp⟩) hHeld ?_
            change wpAnyH _ _ _ _ _ _ _ { tmps := List.toArray (_ :: _ :: _ :: _ :: _ :: _ :: _ :: _ :: _ :: _ :: _ :: .pointer (some ⟨we.heap.size, 0, none⟩) :: _ :: _ :: _ :: _ :: _ :: _ :: _ :: _ :: _ :: _ :: _ :: _ :: _ :: _ :: _ :: _ :: _ :: _ :: _ :: _ :: _ :: _ :: _ :: _ :: _ :: _ :: _ :: _ :: _ :: _ :: _ :: _ :: _ :: _ :: _ :: _ :: _ :: _ :: _ :: _ :: _ :: _ :: _ :: _ :: _ :: _ :: _ :: _ :: _ :: _ :: _ :: _ :: _ :: _ :: _ :: _ :: _ :: _ :: _ :: _ :: _ :: _ :: _ :: _ :: _ :: _ :: _ :: _ :: _ :: .tuple #[.agg #[.slice ra9 rm.length rc9, .slice a9 rws.length c9], .int .i64 0] :: .agg #[.slice ra8 rm.length rc8, .slice a8 rws.length c8] :: .slice (some ⟨lb, lo, none⟩) l.length lc :: .int .i64 k :: .pointer (some ⟨lb, lo + k * 3, none⟩) :: .agg #[.int .i64 x.f, .int .i64 x.t, .int .i64 x.m] :: .agg #[.int .i64 x.t, .int .i64 x.f, .int .i64 x.m] :: .tuple #[.agg #[.slice ra9 rm.length rc9, .slice a9 rws.length c9], .int .i64 0] :: .agg #[.slice ra9 rm.length rc9, .slice a9 rws.length c9] :: _ :: _ :: _ :: _ :: _ :: _ :: _ :: _ :: _ :: _ :: _ :: _ :: _ :: _ :: _ :: _ :: _ :: _ :: _ :: _ :: _ :: _ :: _ :: _ :: _ :: _ :: _ :: _ :: _ :: _ :: _ :: _ :: _ :: _ :: _ :: _ :: _ :: _ :: _ :: _ :: _ :: _ :: _ :: _ :: _ :: _ :: _ :: _ :: _ :: _ :: _ :: _ :: _ :: _ :: _ :: _ :: _ :: _ :: _ :: _ :: _ :: _ :: _ :: _ :: _ :: _ :: _ :: _ :: _ :: _ :: _ :: _ :: _ :: _ :: _ :: _ :: _ :: _ :: _ :: _ :: _ :: _ :: _ :: _ :: _ :: _ :: _ :: _ :: _ :: _ :: _ :: _ :: _ :: _ :: []), defers := [] } _
            refine wpAnyH_take (i := 9) (v := .int .i64 0) rfl (by kernel_rfl) (by kernel_rfl) (by kernel_rfl) (fun _ _ _ h => h) (Or.inl ⟨by kernel_rfl, fun w hS => by go_simp⟩) hHeld ?_
            change wpAnyH _ _ _ _ _ _ _ { tmps := List.toArray (_ :: _ :: _ :: _ :: _ :: _ :: _ :: _ :: _ :: _ :: _ :: .pointer (some ⟨we.heap.size, 0, none⟩) :: _ :: _ :: _ :: _ :: _ :: _ :: _ :: _ :: _ :: _ :: _ :: _ :: _ :: _ :: _ :: _ :: _ :: _ :: _ :: _ :: _ :: _ :: _ :: _ :: _ :: _ :: _ :: _ :: _ :: _ :: _ :: _ :: _ :: _ :: _ :: _ :: _ :: _ :: _ :: _ :: _ :: _ :: _ :: _ :: _ :: _ :: _ :: _ :: _ :: _ :: _ :: _ :: _ :: _ :: _ :: _ :: _ :: _ :: _ :: _ :: _ :: _ :: _ :: _ :: _ :: _ :: _ :: _ :: _ :: .tuple #[.agg #[.slice ra9 rm.length rc9, .slice a9 rws.length c9], .int .i64 0] :: .agg #[.slice ra8 rm.length rc8, .slice a8 rws.length c8] :: .slice (some ⟨lb, lo, none⟩) l.length lc :: .int .i64 k :: .pointer (some ⟨lb, lo + k * 3, none⟩) :: .agg #[.int .i64 x.f, .int .i64 x.t, .int .i64 x.m] :: .agg #[.int .i64 x.t, .int .i64 x.f, .int .i64 x.m] :: .tuple #[.agg #[.slice ra9 rm.length rc9, .slice a9 rws.length c9], .int .i64 0] :: .agg #[.slice ra9 rm.length rc9, .slice a9 rws.length c9] :: .int .i64 0 :: _ :: _ :: _ :: _ :: _ :: _ :: _ :: _ :: _ :: _ :: _ :: _ :: _ :: _ :: _ :: _ :: _ :: _ :: _ :: _ :: _ :: _ :: _ :: _ :: _ :: _ :: _ :: _ :: _ :: _ :: _ :: _ :: _ :: _ :: _ :: _ :: _ :: _ :: _ :: _ :: _ :: _ :: _ :: _ :: _ :: _ :: _ :: _ :: _ :: _ :: _ :: _ :: _ :: _ :: _ :: _ :: _ :: _ :: _ :: _ :: _ :: _ :: _ :: _ :: _ :: _ :: _ :: _ :: _ :: _ :: _ :: _ :: _ :: _ :: _ :: _ :: _ :: _ :: _ :: _ :: _ :: _ :: _ :: _ :: _ :: _ :: _ :: _ :: _ :: _ :: _ :: _ :: _ :: []), defers := [] } _
            refine wpAnyH_ready (rs := [11]) (by kernel_rfl) (by simp) ?_
            refine (AllReadyH.cons rfl (fun KK hK => ?_) AllReadyH.nil)
            obtain ⟨⟨z0, z1⟩, y0, y1⟩ := blk2 zB
            have Kn := box_set (p := .slice ra9 rm.length rc9) (q := .slice a9 rws.length c9) zB
            have Sn := S8b.box (p := .slice ra9 rm.length rc9) (q := .slice a9 rws.length c9) zB
            have Bs : Below we.heap.size we ((w9.setCell ⟨we.heap.size, 0, none⟩ (.slice ra9 rm.length rc9)).setCell ⟨we.heap.size, 1, none⟩ (.slice a9 rws.length c9)) := below_set zlo (below_set zlo B8)
            go_simp
            clear hHeld
            refine hK.out _ _ (by obtain ⟨⟨k0, k1⟩, -⟩ := blk2 (blk_keep Bs Ke); exact ⟨k0, k1, ble Bs d2, ble Bs d3, ble Bs d4⟩) (fun hHeld => ?_)
            clear hK KK
            change wpAnyH _ _ _ _ _ _ _ { tmps := List.toArray (_ :: _ :: _ :: _ :: _ :: _ :: _ :: _ :: _ :: _ :: _ :: .pointer (some ⟨we.heap.size, 0, none⟩) :: _ :: _ :: _ :: _ :: _ :: _ :: _ :: _ :: _ :: _ :: _ :: _ :: _ :: _ :: _ :: _ :: _ :: _ :: _ :: _ :: _ :: _ :: _ :: _ :: _ :: _ :: _ :: _ :: _ :: _ :: _ :: _ :: _ :: _ :: _ :: _ :: _ :: _ :: _ :: _ :: _ :: _ :: _ :: _ :: _ :: _ :: _ :: _ :: _ :: _ :: _ :: _ :: _ :: _ :: _ :: _ :: _ :: _ :: _ :: _ :: _ :: _ :: _ :: _ :: _ :: _ :: _ :: _ :: _ :: .tuple #[.agg #[.slice ra9 rm.length rc9, .slice a9 rws.length c9], .int .i64 0] :: .agg #[.slice ra8 rm.length rc8, .slice a8 rws.length c8] :: .slice (some ⟨lb, lo, none⟩) l.length lc :: .int .i64 k :: .pointer (some ⟨lb, lo + k * 3, none⟩) :: .agg #[.int .i64 x.f, .int .i64 x.t, .int .i64 x.m] :: .agg #[.int .i64 x.t, .int .i64 x.f, .int .i64 x.m] :: .tuple #[.agg #[.slice ra9 rm.length rc9, .slice a9 rws.length c9], .int .i64 0] :: .agg #[.slice ra9 rm.length rc9, .slice a9 rws.length c9] :: .int .i64 0 :: _ :: _ :: _ :: _ :: _ :: _ :: _ :: _ :: _ :: _ :: _ :: _ :: _ :: _ :: _ :: _ :: _ :: _ :: _ :: _ :: _ :: _ :: _ :: _ :: _ :: _ :: _ :: _ :: _ :: _ :: _ :: _ :: _ :: _ :: _ :: _ :: _ :: _ :: _ :: _ :: _ :: _ :: _ :: _ :: _ :: _ :: _ :: _ :: _ :: _ :: _ :: _ :: _ :: _ :: _ :: _ :: _ :: _ :: _ :: _ :: _ :: _ :: _ :: _ :: _ :: _ :: _ :: _ :: _ :: _ :: _ :: _ :: _ :: _ :: _ :: _ :: _ :: _ :: _ :: _ :: _ :: _ :: _ :: _ :: _ :: _ :: _ :: _ :: _ :: _ :: _ :: _ :: _ :: []), defers := [] } _
            refine wpAnyH_take (i := 12) (v := .int .i64 0) rfl (by kernel_rfl) (by kernel_rfl) (by kernel_rfl) (fun _ _ _ h => h) (Or.inl ⟨by kernel_rfl, fun w hS => by go_simp⟩) hHeld ?_
            change wpAnyH _ _ _ _ _ _ _ { tmps := List.toArray (_ :: _ :: _ :: _ :: _ :: _ :: _ :: _ :: _ :: _ :: _ :: .pointer (some ⟨we.heap.size, 0, none⟩) :: .int .i64 0 :: _ :: _ :: _ :: _ :: _ :: _ :: _ :: _ :: _ :: _ :: _ :: _ :: _ :: _ :: _ :: _ :: _ :: _ :: _ :: _ :: _ :: _ :: _ :: _ :: _ :: _ :: _ :: _ :: _ :: _ :: _ :: _ :: _ :: _ :: _ :: _ :: _ :: _ :: _ :: _ :: _ :: _ :: _ :: _ :: _ :: _ :: _ :: _ :: _ :: _ :: _ :: _ :: _ :: _ :: _ :: _ :: _ :: _ :: _ :: _ :: _ :: _ :: _ :: _ :: _ :: _ :: _ :: _ :: .tuple #[.agg #[.slice ra9 rm.length rc9, .slice a9 rws.length c9], .int .i64 0] :: .agg #[.slice ra8 rm.length rc8, .slice a8 rws.length c8] :: .slice (some ⟨lb, lo, none⟩) l.length lc :: .int .i64 k :: .pointer (some ⟨lb, lo + k * 3, none⟩) :: .agg #[.int .i64 x.f, .int .i64 x.t, .int .i64 x.m] :: .agg #[.int .i64 x.t, .int .i64 x.f, .int .i64 x.m] :: .tuple #[.agg #[.slice ra9 rm.length rc9, .slice a9 rws.length c9], .int .i64 0] :: .agg #[.slice ra9 rm.length rc9, .slice a9 rws.length c9] :: .int .i64 0 :: _ :: _ :: _ :: _ :: _ :: _ :: _ :: _ :: _ :: _ :: _ :: _ :: _ :: _ :: _ :: _ :: _ :: _ :: _ :: _ :: _ :: _ :: _ :: _ :: _ :: _ :: _ :: _ :: _ :: _ :: _ :: _ :: _ :: _ :: _ :: _ :: _ :: _ :: _ :: _ :: _ :: _ :: _ :: _ :: _ :: _ :: _ :: _ :: _ :: _ :: _ :: _ :: _ :: _ :: _ :: _ :: _ :: _ :: _ :: _ :: _ :: _ :: _ :: _ :: _ :: _ :: _ :: _ :: _ :: _ :: _ :: _ :: _ :: _ :: _ :: _ :: _ :: _ :: _ :: _ :: _ :: _ :: _ :: _ :: _ :: _ :: _ :: _ :: _ :: _ :: _ :: _ :: _ :: []), defers := [] } _
            refine wpAnyH_done (by kernel_rfl) ?_ _
            generalize (w9.setCell ⟨we.heap.size, 0, none⟩ (.slice ra9 rm.length rc9)).setCell ⟨we.heap.size, 1, none⟩ (.slice a9 rws.length c9) = wf at *
            have Hf := He.below Bs
            have Nf := Ne.below Bs
            have Kf := blk_keep Bs Ke
            have Sf := Se.below Bs
            clear Bs B8 lo8 Ba zB zlo
            generalize we.heap.size = Q at *
            obtain ⟨⟨b0, b1⟩, -⟩ := blk2 Kn
            obtain ⟨⟨n0, n1⟩, -⟩ := blk2 Nf.kN
            rw [hun.out.2.1] at Sn
            have CY := cYardO _ _ _ _ _ _ vs8b vsn rm rk rk _ Sn Nf.sid hPk.out hPk.out (fun i => .inl rfl)
            rw [decide_eq_true rfl] at CY
            clear CO CU S8b He Ne Ke Se d0 d1 d2 d3 d4
            go_wp2_with fail
            refine CY.mono ?_
            rintro e wg ⟨rfl, bg⟩
            have Hg := Hf.below bg
            have Ng := Nf.below bg
            have Kg := blk_keep bg Kf
            have Sg := Sf.below bg
            obtain ⟨⟨m0, m1⟩, -⟩ := blk2 Kg
            obtain ⟨⟨n0, n1⟩, -⟩ := blk2 Ng.kN
            have CY2 := cYardO _ _ _ _ _ _ vs8 vsn rm (leftS rm rk x) rk _ Sg Ng.sid (hPk.out.left x) hPk.out (fun i => left_diff x i)
            rw [decide_eq_false hun.out.2.2] at CY2
            clear CY Hf Nf Kf Sf Kn Sn b0 b1 bg
            go_wp2_with fail
            refine CY2.mono ?_
            rintro e wq ⟨rfl, bq⟩
            have Hq := Hg.below bq
            have Nq := Ng.below bq
            have Kq := blk_keep bq Kg
            have Sq := Sg.below bq
            clear CY2 Hg Ng Kg Sg bq m0 m1 n0 n1
            obtain ⟨⟨m0, m1⟩, -⟩ := blk2 Kq
            obtain ⟨⟨n0, n1⟩, g0, g1⟩ := blk2 Nq.kN
            have Hz := Hq.box (p := .slice ra8 rm.length rc8) (q := .slice a8 rws.length c8) Nq.kN hAN hLN hwN
            have Nz := NowS.next Sq Nq.kN
            clear Hq Nq Kq Sq
            go_wp2
            go_roundw
            case rel => exact ⟨k + 1, _, _, _, _, vs8, by omega, by go_num, Hz, by rw [hnx.out]; exact Nz⟩
            case measure => simp [intOf]; omega
        · have hsame := hide (left_same (room := rm) (rows := rk) (x := x) (by rw [hcd.out]; exact h0))
          obtain ⟨⟨m0, m1⟩, -⟩ := blk2 Kp
          obtain ⟨⟨n0, n1⟩, -⟩ := blk2 Np.kN
          have CY := cYardO _ _ _ _ _ _ vs8 vsn rm (leftS rm rk x) rk _ Sp Np.sid (hPk.out.left x) hPk.out (fun i => left_diff x i)
          rw [decide_eq_true hsame.out] at CY
          go_wp2_with fail
          refine CY.mono ?_
          rintro e wq ⟨rfl, bq⟩
          have Hq := Hp.below bq
          have Nq := Np.below bq
          have Kq := blk_keep bq Kp
          have Sq := Sp.below bq
          clear CY Hp Np Kp Sp bq m0 m1 n0 n1
          obtain ⟨⟨m0, m1⟩, -⟩ := blk2 Kq
          obtain ⟨⟨n0, n1⟩, g0, g1⟩ := blk2 Nq.kN
          have Hz := Hq.box (p := .slice ra8 rm.length rc8) (q := .slice a8 rws.length c8) Nq.kN hAN hLN hwN
          have Nz := NowS.next Sq Nq.kN
          clear Hq Nq Kq Sq
          go_wp2
          go_roundw
          case rel => exact ⟨k + 1, _, _, _, _, vs8, by omega, by go_num, Hz, by rw [hnx.out]; exact Nz⟩
          case measure => simp [intOf]; omega
        
      · skip
        go_simp
        have Ba := btrans B0 (balloc wd (.cells #[.slice none 0 0, .slice none 0 0] 27))
        have zB : (wd.alloc (.cells #[.slice none 0 0, .slice none 0 0] 27)).heap[wd.heap.size]? = some (.cells #[.slice none 0 0, .slice none 0 0] 27 (0, 0)) := heap_alloc_new wd _
        have zlo : wd.heap.size ≤ wd.heap.size := B0.size
        clear hHeld
        refine hK.out _ _ (by obtain ⟨⟨k0, k1⟩, -⟩ := blk2 (blk_keep Ba Nd.kN); exact ⟨k0, k1, ble Ba d2, ble Ba d3, ble Ba d4⟩) (fun hHeld => ?_)
        clear hK KK
        change wpAnyH _ _ _ _ _ _ _ { tmps := List.toArray (_ :: _ :: _ :: _ :: _ :: _ :: _ :: _ :: _ :: .pointer (some ⟨wd.heap.size, 0, none⟩) :: _ :: _ :: _ :: _ :: _ :: _ :: _ :: _ :: _ :: _ :: _ :: _ :: _ :: _ :: _ :: _ :: _ :: _ :: _ :: _ :: _ :: _ :: _ :: _ :: _ :: _ :: _ :: _ :: _ :: _ :: _ :: _ :: _ :: _ :: _ :: _ :: _ :: _ :: _ :: _ :: _ :: _ :: _ :: _ :: _ :: _ :: _ :: _ :: _ :: _ :: .agg #[.slice ran rm.length rcn, .slice tan rws.length tcn] :: .slice (some ⟨lb, lo, none⟩) l.length lc :: .int .i64 k :: .pointer (some ⟨lb, lo + k * 3, none⟩) :: .agg #[.int .i64 x.f, .int .i64 x.t, .int .i64 x.m] :: _ :: _ :: _ :: _ :: _ :: _ :: _ :: _ :: _ :: _ :: _ :: _ :: _ :: _ :: _ :: _ :: _ :: _ :: _ :: _ :: _ :: _ :: _ :: _ :: _ :: _ :: _ :: _ :: _ :: _ :: _ :: _ :: _ :: _ :: _ :: _ :: _ :: _ :: _ :: _ :: _ :: _ :: _ :: _ :: _ :: _ :: _ :: _ :: _ :: _ :: _ :: _ :: _ :: _ :: _ :: _ :: _ :: _ :: _ :: _ :: _ :: _ :: _ :: _ :: _ :: _ :: _ :: _ :: _ :: _ :: _ :: _ :: _ :: _ :: _ :: _ :: _ :: _ :: _ :: _ :: _ :: _ :: _ :: _ :: _ :: _ :: _ :: _ :: _ :: _ :: _ :: _ :: _ :: _ :: _ :: _ :: _ :: _ :: _ :: _ :: _ :: _ :: _ :: _ :: _ :: _ :: _ :: _ :: _ :: _ :: _ :: _ :: _ :: _ :: _ :: _ :: _ :: _ :: _ :: []), defers := [] } _
        refine wpAnyH_ready (rs := [5]) (by kernel_rfl) (by simp) ?_
        refine (AllReadyH.cons rfl (fun KK hK => ?_) AllReadyH.nil)
        go_simp
        refine (CO _ (Sd.below Ba)).mono ?_
        rintro e w8 ⟨rv8, v8, vs8, rfl, S8, hb8⟩
        have B8 := btrans Ba hb8
        have lo8 := Ba.size
        have zB := blk_keep hb8 zB
        obtain ⟨ra8, rc8, a8, c8, rfl, hv8, -⟩ := S8.arg
        rw [hl8.out] at hv8
        subst hv8
        clear hb8
        go_wp2_with fail
        clear hHeld
        refine hK.out _ _ (by obtain ⟨⟨k0, k1⟩, -⟩ := blk2 (blk_keep B8 Nd.kN); exact ⟨k0, k1, ble B8 d2, ble B8 d3, ble B8 d4⟩) (fun hHeld => ?_)
        clear hK KK
        change wpAnyH _ _ _ _ _ _ _ { tmps := List.toArray (_ :: _ :: _ :: _ :: _ :: _ :: _ :: _ :: _ :: .pointer (some ⟨wd.heap.size, 0, none⟩) :: _ :: _ :: _ :: _ :: _ :: _ :: _ :: _ :: _ :: _ :: _ :: _ :: _ :: _ :: _ :: _ :: _ :: _ :: _ :: _ :: _ :: _ :: _ :: _ :: _ :: _ :: _ :: _ :: _ :: _ :: _ :: _ :: _ :: _ :: _ :: _ :: _ :: _ :: _ :: _ :: _ :: _ :: _ :: _ :: _ :: _ :: _ :: _ :: _ :: _ :: .agg #[.slice ran rm.length rcn, .slice tan rws.length tcn] :: .slice (some ⟨lb, lo, none⟩) l.length lc :: .int .i64 k :: .pointer (some ⟨lb, lo + k * 3, none⟩) :: .agg #[.int .i64 x.f, .int .i64 x.t, .int .i64 x.m] :: .tuple #[.agg #[.slice ra8 rm.length rc8, .slice a8 rws.length c8], .int .i64 cd] :: _ :: _ :: _ :: _ :: _ :: _ :: _ :: _ :: _ :: _ :: _ :: _ :: _ :: _ :: _ :: _ :: _ :: _ :: _ :: _ :: _ :: _ :: _ :: _ :: _ :: _ :: _ :: _ :: _ :: _ :: _ :: _ :: _ :: _ :: _ :: _ :: _ :: _ :: _ :: _ :: _ :: _ :: _ :: _ :: _ :: _ :: _ :: _ :: _ :: _ :: _ :: _ :: _ :: _ :: _ :: _ :: _ :: _ :: _ :: _ :: _ :: _ :: _ :: _ :: _ :: _ :: _ :: _ :: _ :: _ :: _ :: _ :: _ :: _ :: _ :: _ :: _ :: _ :: _ :: _ :: _ :: _ :: _ :: _ :: _ :: _ :: _ :: _ :: _ :: _ :: _ :: _ :: _ :: _ :: _ :: _ :: _ :: _ :: _ :: _ :: _ :: _ :: _ :: _ :: _ :: _ :: _ :: _ :: _ :: _ :: _ :: _ :: _ :: _ :: _ :: _ :: _ :: _ :: []), defers := [] } _
        refine wpAnyH_take (i := 6) (v := .tuple #[.agg #[.slice ra8 rm.length rc8, .slice a8 rws.length c8], .int .i64 cd]) rfl (by kernel_rfl) (by kernel_rfl) (by kernel_rfl) (fun _ _ _ h => h) (Or.inl ⟨by kernel_rfl, fun w hS => by go_simp⟩) hHeld ?_
        change wpAnyH _ _ _ _ _ _ _ { tmps := List.toArray (_ :: _ :: _ :: _ :: _ :: _ :: _ :: _ :: _ :: .pointer (some ⟨wd.heap.size, 0, none⟩) :: _ :: _ :: _ :: _ :: _ :: _ :: _ :: _ :: _ :: _ :: _ :: _ :: _ :: _ :: _ :: _ :: _ :: _ :: _ :: _ :: _ :: _ :: _ :: _ :: _ :: _ :: _ :: _ :: _ :: _ :: _ :: _ :: _ :: _ :: _ :: _ :: _ :: _ :: _ :: _ :: _ :: _ :: _ :: _ :: _ :: _ :: _ :: _ :: _ :: .tuple #[.agg #[.slice ra8 rm.length rc8, .slice a8 rws.length c8], .int .i64 cd] :: .agg #[.slice ran rm.length rcn, .slice tan rws.length tcn] :: .slice (some ⟨lb, lo, none⟩) l.length lc :: .int .i64 k :: .pointer (some ⟨lb, lo + k * 3, none⟩) :: .agg #[.int .i64 x.f, .int .i64 x.t, .int .i64 x.m] :: .tuple #[.agg #[.slice ra8 rm.length rc8, .slice a8 rws.length c8], .int .i64 cd] :: _ :: _ :: _ :: _ :: _ :: _ :: _ :: _ :: _ :: _ :: _ :: _ :: _ :: _ :: _ :: _ :: _ :: _ :: _ :: _ :: _ :: _ :: _ :: _ :: _ :: _ :: _ :: _ :: _ :: _ :: _ :: _ :: _ :: _ :: _ :: _ :: _ :: _ :: _ :: _ :: _ :: _ :: _ :: _ :: _ :: _ :: _ :: _ :: _ :: _ :: _ :: _ :: _ :: _ :: _ :: _ :: _ :: _ :: _ :: _ :: _ :: _ :: _ :: _ :: _ :: _ :: _ :: _ :: _ :: _ :: _ :: _ :: _ :: _ :: _ :: _ :: _ :: _ :: _ :: _ :: _ :: _ :: _ :: _ :: _ :: _ :: _ :: _ :: _ :: _ :: _ :: _ :: _ :: _ :: _ :: _ :: _ :: _ :: _ :: _ :: _ :: _ :: _ :: _ :: _ :: _ :: _ :: _ :: _ :: _ :: _ :: _ :: _ :: _ :: _ :: _ :: _ :: _ :: []), defers := [] } _
        refine wpAnyH_take (i := 7) (v := .agg #[.slice ra8 rm.length rc8, .slice a8 rws.length c8]) rfl (by kernel_rfl) (by kernel_rfl) (by kernel_rfl) (fun _ _ _ h => h) (Or.inl ⟨by kernel_rfl, fun w hS => by go_simp⟩) hHeld ?_
        change wpAnyH _ _ _ _ _ _ _ { tmps := List.toArray (_ :: _ :: _ :: _ :: _ :: _ :: _ :: _ :: _ :: .pointer (some ⟨wd.heap.size, 0, none⟩) :: _ :: _ :: _ :: _ :: _ :: _ :: _ :: _ :: _ :: _ :: _ :: _ :: _ :: _ :: _ :: _ :: _ :: _ :: _ :: _ :: _ :: _ :: _ :: _ :: _ :: _ :: _ :: _ :: _ :: _ :: _ :: _ :: _ :: _ :: _ :: _ :: _ :: _ :: _ :: _ :: _ :: _ :: _ :: _ :: _ :: _ :: _ :: _ :: _ :: .tuple #[.agg #[.slice ra8 rm.length rc8, .slice a8 rws.length c8], .int .i64 cd] :: .agg #[.slice ran rm.length rcn, .slice tan rws.length tcn] :: .slice (some ⟨lb, lo, none⟩) l.length lc :: .int .i64 k :: .pointer (some ⟨lb, lo + k * 3, none⟩) :: .agg #[.int .i64 x.f, .int .i64 x.t, .int .i64 x.m] :: .tuple #[.agg #[.slice ra8 rm.length rc8, .slice a8 rws.length c8], .int .i64 cd] :: .agg #[.slice ra8 rm.length rc8, .slice a8 rws.length c8] :: _ :: _ :: _ :: _ :: _ :: _ :: _ :: _ :: _ :: _ :: _ :: _ :: _ :: _ :: _ :: _ :: _ :: _ :: _ :: _ :: _ :: _ :: _ :: _ :: _ :: _ :: _ :: _ :: _ :: _ :: _ :: _ :: _ :: _ :: _ :: _ :: _ :: _ :: _ :: _ :: _ :: _ :: _ :: _ :: _ :: _ :: _ :: _ :: _ :: _ :: _ :: _ :: _ :: _ :: _ :: _ :: _ :: _ :: _ :: _ :: _ :: _ :: _ :: _ :: _ :: _ :: _ :: _ :: _ :: _ :: _ :: _ :: _ :: _ :: _ :: _ :: _ :: _ :: _ :: _ :: _ :: _ :: _ :: _ :: _ :: _ :: _ :: _ :: _ :: _ :: _ :: _ :: _ :: _ :: _ :: _ :: _ :: _ :: _ :: _ :: _ :: _ :: _ :: _ :: _ :: _ :: _ :: _ :: _ :: _ :: _ :: _ :: _ :: _ :: _ :: _ :: _ :: []), defers := [] } _
        refine wpAnyH_take (i := 8) (v := .int .i64 cd) rfl (by kernel_rfl) (by kernel_rfl) (by kernel_rfl) (fun _ _ _ h => h) (Or.inl ⟨by kernel_rfl, fun w hS => by go_simp⟩) hHeld ?_
        change wpAnyH _ _ _ _ _ _ _ { tmps := List.toArray (_ :: _ :: _ :: _ :: _ :: _ :: _ :: _ :: _ :: .pointer (some ⟨wd.heap.size, 0, none⟩) :: _ :: _ :: _ :: _ :: _ :: _ :: _ :: _ :: _ :: _ :: _ :: _ :: _ :: _ :: _ :: _ :: _ :: _ :: _ :: _ :: _ :: _ :: _ :: _ :: _ :: _ :: _ :: _ :: _ :: _ :: _ :: _ :: _ :: _ :: _ :: _ :: _ :: _ :: _ :: _ :: _ :: _ :: _ :: _ :: _ :: _ :: _ :: _ :: _ :: .tuple #[.agg #[.slice ra8 rm.length rc8, .slice a8 rws.length c8], .int .i64 cd] :: .agg #[.slice ran rm.length rcn, .slice tan rws.length tcn] :: .slice (some ⟨lb, lo, none⟩) l.length lc :: .int .i64 k :: .pointer (some ⟨lb, lo + k * 3, none⟩) :: .agg #[.int .i64 x.f, .int .i64 x.t, .int .i64 x.m] :: .tuple #[.agg #[.slice ra8 rm.length rc8, .slice a8 rws.length c8], .int .i64 cd] :: .agg #[.slice ra8 rm.length rc8, .slice a8 rws.length c8] :: .int .i64 cd :: _ :: _ :: _ :: _ :: _ :: _ :: _ :: _ :: _ :: _ :: _ :: _ :: _ :: _ :: _ :: _ :: _ :: _ :: _ :: _ :: _ :: _ :: _ :: _ :: _ :: _ :: _ :: _ :: _ :: _ :: _ :: _ :: _ :: _ :: _ :: _ :: _ :: _ :: _ :: _ :: _ :: _ :: _ :: _ :: _ :: _ :: _ :: _ :: _ :: _ :: _ :: _ :: _ :: _ :: _ :: _ :: _ :: _ :: _ :: _ :: _ :: _ :: _ :: _ :: _ :: _ :: _ :: _ :: _ :: _ :: _ :: _ :: _ :: _ :: _ :: _ :: _ :: _ :: _ :: _ :: _ :: _ :: _ :: _ :: _ :: _ :: _ :: _ :: _ :: _ :: _ :: _ :: _ :: _ :: _ :: _ :: _ :: _ :: _ :: _ :: _ :: _ :: _ :: _ :: _ :: _ :: _ :: _ :: _ :: _ :: _ :: _ :: _ :: _ :: _ :: _ :: []), defers := [] } _
        refine wpAnyH_ready (rs := [10]) (by kernel_rfl) (by simp) ?_
        refine (AllReadyH.cons rfl (fun KK hK => ?_) AllReadyH.nil)
        obtain ⟨⟨z0, z1⟩, y0, y1⟩ := blk2 zB
        have Kn := box_set (p := .slice ra8 rm.length rc8) (q := .slice a8 rws.length c8) zB
        have Sn := S8.box (p := .slice ra8 rm.length rc8) (q := .slice a8 rws.length c8) zB
        have Bs : Below wd.heap.size wd ((w8.setCell ⟨wd.heap.size, 0, none⟩ (.slice ra8 rm.length rc8)).setCell ⟨wd.heap.size, 1, none⟩ (.slice a8 rws.length c8)) := below_set zlo (below_set zlo B8)
        go_simp
        clear hHeld
        refine hK.out _ _ (by obtain ⟨⟨k0, k1⟩, -⟩ := blk2 (blk_keep Bs Nd.kN); exact ⟨k0, k1, ble Bs d2, ble Bs d3, ble Bs d4⟩) (fun hHeld => ?_)
        clear hK KK
        change wpAnyH _ _ _ _ _ _ _ { tmps := List.toArray (_ :: _ :: _ :: _ :: _ :: _ :: _ :: _ :: _ :: .pointer (some ⟨wd.heap.size, 0, none⟩) :: _ :: _ :: _ :: _ :: _ :: _ :: _ :: _ :: _ :: _ :: _ :: _ :: _ :: _ :: _ :: _ :: _ :: _ :: _ :: _ :: _ :: _ :: _ :: _ :: _ :: _ :: _ :: _ :: _ :: _ :: _ :: _ :: _ :: _ :: _ :: _ :: _ :: _ :: _ :: _ :: _ :: _ :: _ :: _ :: _ :: _ :: _ :: _ :: _ :: .tuple #[.agg #[.slice ra8 rm.length rc8, .slice a8 rws.length c8], .int .i64 cd] :: .agg #[.slice ran rm.length rcn, .slice tan rws.length tcn] :: .slice (some ⟨lb, lo, none⟩) l.length lc :: .int .i64 k :: .pointer (some ⟨lb, lo + k * 3, none⟩) :: .agg #[.int .i64 x.f, .int .i64 x.t, .int .i64 x.m] :: .tuple #[.agg #[.slice ra8 rm.length rc8, .slice a8 rws.length c8], .int .i64 cd] :: .agg #[.slice ra8 rm.length rc8, .slice a8 rws.length c8] :: .int .i64 cd :: _ :: _ :: _ :: _ :: _ :: _ :: _ :: _ :: _ :: _ :: _ :: _ :: _ :: _ :: _ :: _ :: _ :: _ :: _ :: _ :: _ :: _ :: _ :: _ :: _ :: _ :: _ :: _ :: _ :: _ :: _ :: _ :: _ :: _ :: _ :: _ :: _ :: _ :: _ :: _ :: _ :: _ :: _ :: _ :: _ :: _ :: _ :: _ :: _ :: _ :: _ :: _ :: _ :: _ :: _ :: _ :: _ :: _ :: _ :: _ :: _ :: _ :: _ :: _ :: _ :: _ :: _ :: _ :: _ :: _ :: _ :: _ :: _ :: _ :: _ :: _ :: _ :: _ :: _ :: _ :: _ :: _ :: _ :: _ :: _ :: _ :: _ :: _ :: _ :: _ :: _ :: _ :: _ :: _ :: _ :: _ :: _ :: _ :: _ :: _ :: _ :: _ :: _ :: _ :: _ :: _ :: _ :: _ :: _ :: _ :: _ :: _ :: _ :: _ :: _ :: _ :: []), defers := [] } _
        refine wpAnyH_take (i := 11) (v := .int .i64 cd) rfl (by kernel_rfl) (by kernel_rfl) (by kernel_rfl) (fun _ _ _ h => h) (Or.inl ⟨by kernel_rfl, fun w hS => by go_simp⟩) hHeld ?_
        change wpAnyH _ _ _ _ _ _ _ { tmps := List.toArray (_ :: _ :: _ :: _ :: _ :: _ :: _ :: _ :: _ :: .pointer (some ⟨wd.heap.size, 0, none⟩) :: .int .i64 cd :: _ :: _ :: _ :: _ :: _ :: _ :: _ :: _ :: _ :: _ :: _ :: _ :: _ :: _ :: _ :: _ :: _ :: _ :: _ :: _ :: _ :: _ :: _ :: _ :: _ :: _ :: _ :: _ :: _ :: _ :: _ :: _ :: _ :: _ :: _ :: _ :: _ :: _ :: _ :: _ :: _ :: _ :: _ :: _ :: _ :: _ :: _ :: _ :: .tuple #[.agg #[.slice ra8 rm.length rc8, .slice a8 rws.length c8], .int .i64 cd] :: .agg #[.slice ran rm.length rcn, .slice tan rws.length tcn] :: .slice (some ⟨lb, lo, none⟩) l.length lc :: .int .i64 k :: .pointer (some ⟨lb, lo + k * 3, none⟩) :: .agg #[.int .i64 x.f, .int .i64 x.t, .int .i64 x.m] :: .tuple #[.agg #[.slice ra8 rm.length rc8, .slice a8 rws.length c8], .int .i64 cd] :: .agg #[.slice ra8 rm.length rc8, .slice a8 rws.length c8] :: .int .i64 cd :: _ :: _ :: _ :: _ :: _ :: _ :: _ :: _ :: _ :: _ :: _ :: _ :: _ :: _ :: _ :: _ :: _ :: _ :: _ :: _ :: _ :: _ :: _ :: _ :: _ :: _ :: _ :: _ :: _ :: _ :: _ :: _ :: _ :: _ :: _ :: _ :: _ :: _ :: _ :: _ :: _ :: _ :: _ :: _ :: _ :: _ :: _ :: _ :: _ :: _ :: _ :: _ :: _ :: _ :: _ :: _ :: _ :: _ :: _ :: _ :: _ :: _ :: _ :: _ :: _ :: _ :: _ :: _ :: _ :: _ :: _ :: _ :: _ :: _ :: _ :: _ :: _ :: _ :: _ :: _ :: _ :: _ :: _ :: _ :: _ :: _ :: _ :: _ :: _ :: _ :: _ :: _ :: _ :: _ :: _ :: _ :: _ :: _ :: _ :: _ :: _ :: _ :: _ :: _ :: _ :: _ :: _ :: _ :: _ :: _ :: _ :: _ :: _ :: _ :: _ :: _ :: []), defers := [] } _
        refine wpAnyH_done (by kernel_rfl) ?_ _
        generalize (w8.setCell ⟨wd.heap.size, 0, none⟩ (.slice ra8 rm.length rc8)).setCell ⟨wd.heap.size, 1, none⟩ (.slice a8 rws.length c8) = wn at *
        have hbM : wd.heap.size ≤ wd.heap.size := by first | exact Nat.le_refl _ | exact zlo
        have hMN : N < wd.heap.size := by have := lt_of_block Nd.kN; omega
        have Hn := Hd.below Bs
        have Nn := Nd.below Bs
        have Sn2 := Sn.base (B' := w.heap.size) (by omega)
        clear CO B8 Bs Hd Nd Sd S8 Sn d0 d1 d2 d3 d4 lo8 Ba zB zlo
        generalize wd.heap.size = M at *
        obtain ⟨gc, oc, rfl, hcc⟩ : ∃ g off, ca = some ⟨g, off, none⟩ ∧ ∀ i, i < cs.length → wn.cell? ⟨g, off + i, none⟩ = some (.int .i64 (cs.getD i 0)) := by
          rcases Ints.own (n := l.length) (by have := Hn.codes; rw [hcl.out] at this; exact this) hcl.out with q | q
          · have := hcl.out; rw [q] at this; simp at this; omega
          · exact q
        have c9 := hcc k (by have := hcl.out; omega)
        rw [hcode.out] at c9
        obtain ⟨⟨m0, m1⟩, -⟩ := blk2 Kn
        have CSI := cSidO _ _ _ vs8 rm (leftS rm rk x) wn Sn2 (hPk.out.left x)
        clear hcc
        go_wp2_with fail
        refine CSI.mono ?_
        rintro e wp ⟨rfl, bp⟩
        have Hp := Hn.below bp
        have Np := Nn.below bp
        have Kp := blk_keep bp Kn
        have Sp := Sn2.below bp
        clear CSI Hn Nn Kn Sn2 bp c9 m0 m1
        by_cases h0 : cd = 0
        · subst h0
          have hun := hide (undo_done hPk.out hcd.out)
          have be : Below wp.heap.size wp wp.drew := bdraw (Below.refl _ _) 1
          have He := Hp.below be
          have Ne := Np.below be
          have Ke := blk_keep be Kp
          have Se := Sp.below be
          obtain ⟨⟨d0, d1⟩, -⟩ := blk2 Ke
          obtain ⟨d2, d3, d4⟩ := shsat He.list hlt
          rw [hxk.out] at d2 d3 d4
          have Sd := Se
          have CU := fun w => cUndoI x w
          have CO := fun w9 h => cOneO w.heap.size (.slice ra8 rm.length rc8) (.slice a8 rws.length c8) vs8 rm (leftS rm rk x) (undoS x) w9 h (hPk.out.left x)
          rw [hun.out.1] at CO
          simp only [undo_val] at CU CO
          unfold ShV.val at CU
          have hl8b : Hid ((leftS rm (leftS rm rk x) (undoS x)).length = rws.length) := hide (by rw [leftS_len, leftS_len]; exact hrkl.out)
          clear Hp Np Kp Sp be
          go_wp2_with fail
          refine wp_region_held_drew (S := (fun w' => w'.cell? ⟨M, 0, none⟩ = some (.slice ra8 rm.length rc8) ∧ w'.cell? ⟨M, 1, none⟩ = some (.slice a8 rws.length c8) ∧ w'.cell? ⟨lb, lo + k * 3, none⟩ = some (.int .i64 x.f) ∧ w'.cell? ⟨lb, lo + k * 3 + 1, none⟩ = some (.int .i64 x.t) ∧ w'.cell? ⟨lb, lo + k * 3 + 2, none⟩ = some (.int .i64 x.m))) (by kernel_rfl) ?_ (fun hHeld => ?_)
          · exact ⟨d0, d1, d2, d3, d4⟩
          have B0 : Below wp.drew.heap.size wp.drew wp.drew := Below.refl _ _
          generalize wp.drew = we at *
          refine wpAnyH_take (i := 0) (v := .agg #[.slice ra8 rm.length rc8, .slice a8 rws.length c8]) rfl (by kernel_rfl) (by kernel_rfl) (by kernel_rfl) (fun _ _ _ h => h) (Or.inl ⟨by kernel_rfl, fun w hS => by (obtain ⟨hS0, hS1, hS2, hS3, hS4⟩ := hS; go_simp)⟩) hHeld ?_
          change wpAnyH _ _ _ _ _ _ _ { tmps := List.toArray (_ :: _ :: _ :: _ :: _ :: _ :: _ :: _ :: _ :: _ :: _ :: _ :: _ :: _ :: _ :: _ :: _ :: _ :: _ :: _ :: _ :: _ :: _ :: _ :: _ :: _ :: _ :: _ :: _ :: _ :: _ :: _ :: _ :: _ :: _ :: _ :: _ :: _ :: _ :: _ :: _ :: _ :: _ :: _ :: _ :: _ :: _ :: _ :: _ :: _ :: _ :: _ :: _ :: _ :: _ :: _ :: _ :: _ :: _ :: _ :: _ :: _ :: _ :: _ :: _ :: _ :: _ :: _ :: _ :: _ :: _ :: _ :: _ :: _ :: _ :: _ :: _ :: _ :: _ :: _ :: _ :: _ :: .agg #[.slice ra8 rm.length rc8, .slice a8 rws.length c8] :: _ :: _ :: _ :: _ :: _ :: _ :: _ :: _ :: _ :: _ :: _ :: _ :: _ :: _ :: _ :: _ :: _ :: _ :: _ :: _ :: _ :: _ :: _ :: _ :: _ :: _ :: _ :: _ :: _ :: _ :: _ :: _ :: _ :: _ :: _ :: _ :: _ :: _ :: _ :: _ :: _ :: _ :: _ :: _ :: _ :: _ :: _ :: _ :: _ :: _ :: _ :: _ :: _ :: _ :: _ :: _ :: _ :: _ :: _ :: _ :: _ :: _ :: _ :: _ :: _ :: _ :: _ :: _ :: _ :: _ :: _ :: _ :: _ :: _ :: _ :: _ :: _ :: _ :: _ :: _ :: _ :: _ :: _ :: _ :: _ :: _ :: _ :: _ :: _ :: _ :: _ :: _ :: _ :: _ :: _ :: _ :: _ :: _ :: _ :: _ :: _ :: []), defers := [] } _
          refine wpAnyH_take (i := 1) (v := .slice (some ⟨lb, lo, none⟩) l.length lc) rfl (by kernel_rfl) (by kernel_rfl) (by kernel_rfl) (fun _ _ _ h => h) (Or.inl ⟨by kernel_rfl, fun w hS => by go_simp⟩) hHeld ?_
          change wpAnyH _ _ _ _ _ _ _ { tmps := List.toArray (_ :: _ :: _ :: _ :: _ :: _ :: _ :: _ :: _ :: _ :: _ :: _ :: _ :: _ :: _ :: _ :: _ :: _ :: _ :: _ :: _ :: _ :: _ :: _ :: _ :: _ :: _ :: _ :: _ :: _ :: _ :: _ :: _ :: _ :: _ :: _ :: _ :: _ :: _ :: _ :: _ :: _ :: _ :: _ :: _ :: _ :: _ :: _ :: _ :: _ :: _ :: _ :: _ :: _ :: _ :: _ :: _ :: _ :: _ :: _ :: _ :: _ :: _ :: _ :: _ :: _ :: _ :: _ :: _ :: _ :: _ :: _ :: _ :: _ :: _ :: _ :: _ :: _ :: _ :: _ :: _ :: _ :: .agg #[.slice ra8 rm.length rc8, .slice a8 rws.length c8] :: .slice (some ⟨lb, lo, none⟩) l.length lc :: _ :: _ :: _ :: _ :: _ :: _ :: _ :: _ :: _ :: _ :: _ :: _ :: _ :: _ :: _ :: _ :: _ :: _ :: _ :: _ :: _ :: _ :: _ :: _ :: _ :: _ :: _ :: _ :: _ :: _ :: _ :: _ :: _ :: _ :: _ :: _ :: _ :: _ :: _ :: _ :: _ :: _ :: _ :: _ :: _ :: _ :: _ :: _ :: _ :: _ :: _ :: _ :: _ :: _ :: _ :: _ :: _ :: _ :: _ :: _ :: _ :: _ :: _ :: _ :: _ :: _ :: _ :: _ :: _ :: _ :: _ :: _ :: _ :: _ :: _ :: _ :: _ :: _ :: _ :: _ :: _ :: _ :: _ :: _ :: _ :: _ :: _ :: _ :: _ :: _ :: _ :: _ :: _ :: _ :: _ :: _ :: _ :: _ :: _ :: _ :: []), defers := [] } _
          refine wpAnyH_take (i := 2) (v := .int .i64 k) rfl (by kernel_rfl) (by kernel_rfl) (by kernel_rfl) (fun _ _ _ h => h) (Or.inl ⟨by kernel_rfl, fun w hS => by go_simp⟩) hHeld ?_
          change wpAnyH _ _ _ _ _ _ _ { tmps := List.toArray (_ :: _ :: _ :: _ :: _ :: _ :: _ :: _ :: _ :: _ :: _ :: _ :: _ :: _ :: _ :: _ :: _ :: _ :: _ :: _ :: _ :: _ :: _ :: _ :: _ :: _ :: _ :: _ :: _ :: _ :: _ :: _ :: _ :: _ :: _ :: _ :: _ :: _ :: _ :: _ :: _ :: _ :: _ :: _ :: _ :: _ :: _ :: _ :: _ :: _ :: _ :: _ :: _ :: _ :: _ :: _ :: _ :: _ :: _ :: _ :: _ :: _ :: _ :: _ :: _ :: _ :: _ :: _ :: _ :: _ :: _ :: _ :: _ :: _ :: _ :: _ :: _ :: _ :: _ :: _ :: _ :: _ :: .agg #[.slice ra8 rm.length rc8, .slice a8 rws.length c8] :: .slice (some ⟨lb, lo, none⟩) l.length lc :: .int .i64 k :: _ :: _ :: _ :: _ :: _ :: _ :: _ :: _ :: _ :: _ :: _ :: _ :: _ :: _ :: _ :: _ :: _ :: _ :: _ :: _ :: _ :: _ :: _ :: _ :: _ :: _ :: _ :: _ :: _ :: _ :: _ :: _ :: _ :: _ :: _ :: _ :: _ :: _ :: _ :: _ :: _ :: _ :: _ :: _ :: _ :: _ :: _ :: _ :: _ :: _ :: _ :: _ :: _ :: _ :: _ :: _ :: _ :: _ :: _ :: _ :: _ :: _ :: _ :: _ :: _ :: _ :: _ :: _ :: _ :: _ :: _ :: _ :: _ :: _ :: _ :: _ :: _ :: _ :: _ :: _ :: _ :: _ :: _ :: _ :: _ :: _ :: _ :: _ :: _ :: _ :: _ :: _ :: _ :: _ :: _ :: _ :: _ :: _ :: _ :: []), defers := [] } _
          refine wpAnyH_take (i := 3) (v := .pointer (some ⟨lb, lo + k * 3, none⟩)) rfl (by kernel_rfl) (by kernel_rfl) (by kernel_rfl) (fun _ _ _ h => h) (Or.inl ⟨by kernel_rfl, fun w hS => by go_simp⟩) hHeld ?_
          change wpAnyH _ _ _ _ _ _ _ { tmps := List.toArray (_ :: _ :: _ :: _ :: _ :: _ :: _ :: _ :: _ :: _ :: _ :: _ :: _ :: _ :: _ :: _ :: _ :: _ :: _ :: _ :: _ :: _ :: _ :: _ :: _ :: _ :: _ :: _ :: _ :: _ :: _ :: _ :: _ :: _ :: _ :: _ :: _ :: _ :: _ :: _ :: _ :: _ :: _ :: _ :: _ :: _ :: _ :: _ :: _ :: _ :: _ :: _ :: _ :: _ :: _ :: _ :: _ :: _ :: _ :: _ :: _ :: _ :: _ :: _ :: _ :: _ :: _ :: _ :: _ :: _ :: _ :: _ :: _ :: _ :: _ :: _ :: _ :: _ :: _ :: _ :: _ :: _ :: .agg #[.slice ra8 rm.length rc8, .slice a8 rws.length c8] :: .slice (some ⟨lb, lo, none⟩) l.length lc :: .int .i64 k :: .pointer (some ⟨lb, lo + k * 3, none⟩) :: _ :: _ :: _ :: _ :: _ :: _ :: _ :: _ :: _ :: _ :: _ :: _ :: _ :: _ :: _ :: _ :: _ :: _ :: _ :: _ :: _ :: _ :: _ :: _ :: _ :: _ :: _ :: _ :: _ :: _ :: _ :: _ :: _ :: _ :: _ :: _ :: _ :: _ :: _ :: _ :: _ :: _ :: _ :: _ :: _ :: _ :: _ :: _ :: _ :: _ :: _ :: _ :: _ :: _ :: _ :: _ :: _ :: _ :: _ :: _ :: _ :: _ :: _ :: _ :: _ :: _ :: _ :: _ :: _ :: _ :: _ :: _ :: _ :: _ :: _ :: _ :: _ :: _ :: _ :: _ :: _ :: _ :: _ :: _ :: _ :: _ :: _ :: _ :: _ :: _ :: _ :: _ :: _ :: _ :: _ :: _ :: _ :: _ :: []), defers := [] } _
          refine wpAnyH_take (i := 4) (v := .agg #[.int .i64 x.f, .int .i64 x.t, .int .i64 x.m]) rfl (by kernel_rfl) (by kernel_rfl) (by kernel_rfl) (fun _ _ _ h => h) (Or.inl ⟨by kernel_rfl, fun w hS => by (obtain ⟨hS0, hS1, hS2, hS3, hS4⟩ := hS; go_simp)⟩) hHeld ?_
          change wpAnyH _ _ _ _ _ _ _ { tmps := List.toArray (_ :: _ :: _ :: _ :: _ :: _ :: _ :: _ :: _ :: _ :: _ :: _ :: _ :: _ :: _ :: _ :: _ :: _ :: _ :: _ :: _ :: _ :: _ :: _ :: _ :: _ :: _ :: _ :: _ :: _ :: _ :: _ :: _ :: _ :: _ :: _ :: _ :: _ :: _ :: _ :: _ :: _ :: _ :: _ :: _ :: _ :: _ :: _ :: _ :: _ :: _ :: _ :: _ :: _ :: _ :: _ :: _ :: _ :: _ :: _ :: _ :: _ :: _ :: _ :: _ :: _ :: _ :: _ :: _ :: _ :: _ :: _ :: _ :: _ :: _ :: _ :: _ :: _ :: _ :: _ :: _ :: _ :: .agg #[.slice ra8 rm.length rc8, .slice a8 rws.length c8] :: .slice (some ⟨lb, lo, none⟩) l.length lc :: .int .i64 k :: .pointer (some ⟨lb, lo + k * 3, none⟩) :: .agg #[.int .i64 x.f, .int .i64 x.t, .int .i64 x.m] :: _ :: _ :: _ :: _ :: _ :: _ :: _ :: _ :: _ :: _ :: _ :: _ :: _ :: _ :: _ :: _ :: _ :: _ :: _ :: _ :: _ :: _ :: _ :: _ :: _ :: _ :: _ :: _ :: _ :: _ :: _ :: _ :: _ :: _ :: _ :: _ :: _ :: _ :: _ :: _ :: _ :: _ :: _ :: _ :: _ :: _ :: _ :: _ :: _ :: _ :: _ :: _ :: _ :: _ :: _ :: _ :: _ :: _ :: _ :: _ :: _ :: _ :: _ :: _ :: _ :: _ :: _ :: _ :: _ :: _ :: _ :: _ :: _ :: _ :: _ :: _ :: _ :: _ :: _ :: _ :: _ :: _ :: _ :: _ :: _ :: _ :: _ :: _ :: _ :: _ :: _ :: _ :: _ :: _ :: _ :: _ :: _ :: []), defers := [] } _
          refine wpAnyH_ready (rs := [5, 10]) (by kernel_rfl) (by simp) ?_
          refine (AllReadyH.cons rfl (fun KK hK => ?_) (AllReadyH.cons rfl (fun KK hK => ?_) AllReadyH.nil))
          · skip
            go_simp
            refine (CU _).mono ?_
            rintro e w7 ⟨rfl, hb7⟩
            have B7 := btrans B0 hb7
            clear hb7
            go_wp2_with fail
            clear hHeld
            refine hK.out _ _ (by obtain ⟨⟨k0, k1⟩, -⟩ := blk2 (blk_keep B7 Ke); exact ⟨k0, k1, ble B7 d2, ble B7 d3, ble B7 d4⟩) (fun hHeld => ?_)
            clear hK KK
            change wpAnyH _ _ _ _ _ _ _ { tmps := List.toArray (_ :: _ :: _ :: _ :: _ :: _ :: _ :: _ :: _ :: _ :: _ :: _ :: _ :: _ :: _ :: _ :: _ :: _ :: _ :: _ :: _ :: _ :: _ :: _ :: _ :: _ :: _ :: _ :: _ :: _ :: _ :: _ :: _ :: _ :: _ :: _ :: _ :: _ :: _ :: _ :: _ :: _ :: _ :: _ :: _ :: _ :: _ :: _ :: _ :: _ :: _ :: _ :: _ :: _ :: _ :: _ :: _ :: _ :: _ :: _ :: _ :: _ :: _ :: _ :: _ :: _ :: _ :: _ :: _ :: _ :: _ :: _ :: _ :: _ :: _ :: _ :: _ :: _ :: _ :: _ :: _ :: _ :: .agg #[.slice ra8 rm.length rc8, .slice a8 rws.length c8] :: .slice (some ⟨lb, lo, none⟩) l.length lc :: .int .i64 k :: .pointer (some ⟨lb, lo + k * 3, none⟩) :: .agg #[.int .i64 x.f, .int .i64 x.t, .int .i64 x.m] :: .agg #[.int .i64 x.t, .int .i64 x.f, .int .i64 x.m] :: _ :: _ :: _ :: _ :: _ :: _ :: _ :: _ :: _ :: _ :: _ :: _ :: _ :: _ :: _ :: _ :: _ :: _ :: _ :: _ :: _ :: _ :: _ :: _ :: _ :: _ :: _ :: _ :: _ :: _ :: _ :: _ :: _ :: _ :: _ :: _ :: _ :: _ :: _ :: _ :: _ :: _ :: _ :: _ :: _ :: _ :: _ :: _ :: _ :: _ :: _ :: _ :: _ :: _ :: _ :: _ :: _ :: _ :: _ :: _ :: _ :: _ :: _ :: _ :: _ :: _ :: _ :: _ :: _ :: _ :: _ :: _ :: _ :: _ :: _ :: _ :: _ :: _ :: _ :: _ :: _ :: _ :: _ :: _ :: _ :: _ :: _ :: _ :: _ :: _ :: _ :: _ :: _ :: _ :: _ :: _ :: []), defers := [] } _
            refine wpAnyH_ready (rs := [6, 10]) (by kernel_rfl) (by simp) ?_
            refine (AllReadyH.cons rfl (fun KK hK => ?_) (AllReadyH.cons rfl (fun KK hK => ?_) AllReadyH.nil))
            · skip
              go_simp
              refine (CO _ (Sd.below B7)).mono ?_
              rintro e w9 ⟨rv8, v8, vs8b, rfl, S8b, hb8⟩
              have B8 := btrans B7 hb8
              have lo8 := B7.size
              obtain ⟨ra9, rc9, a9, c9, rfl, hv8, -⟩ := S8b.arg
              rw [hl8b.out] at hv8
              subst hv8
              clear hb8
              go_wp2_with fail
              clear hHeld
              refine hK.out _ _ (by obtain ⟨⟨k0, k1⟩, -⟩ := blk2 (blk_keep B8 Ke); exact ⟨k0, k1, ble B8 d2, ble B8 d3, ble B8 d4⟩) (fun hHeld => ?_)
              clear hK KK
              change wpAnyH _ _ _ _ _ _ _ { tmps := List.toArray (_ :: _ :: _ :: _ :: _ :: _ :: _ :: _ :: _ :: _ :: _ :: _ :: _ :: _ :: _ :: _ :: _ :: _ :: _ :: _ :: _ :: _ :: _ :: _ :: _ :: _ :: _ :: _ :: _ :: _ :: _ :: _ :: _ :: _ :: _ :: _ :: _ :: _ :: _ :: _ :: _ :: _ :: _ :: _ :: _ :: _ :: _ :: _ :: _ :: _ :: _ :: _ :: _ :: _ :: _ :: _ :: _ :: _ :: _ :: _ :: _ :: _ :: _ :: _ :: _ :: _ :: _ :: _ :: _ :: _ :: _ :: _ :: _ :: _ :: _ :: _ :: _ :: _ :: _ :: _ :: _ :: _ :: .agg #[.slice ra8 rm.length rc8, .slice a8 rws.length c8] :: .slice (some ⟨lb, lo, none⟩) l.length lc :: .int .i64 k :: .pointer (some ⟨lb, lo + k * 3, none⟩) :: .agg #[.int .i64 x.f, .int .i64 x.t, .int .i64 x.m] :: .agg #[.int .i64 x.t, .int .i64 x.f, .int .i64 x.m] :: .tuple #[.agg #[.slice ra9 rm.length rc9, .slice a9 rws.length c9], .int .i64 0] :: _ :: _ :: _ :: _ :: _ :: _ :: _ :: _ :: _ :: _ :: _ :: _ :: _ :: _ :: _ :: _ :: _ :: _ :: _ :: _ :: _ :: _ :: _ :: _ :: _ :: _ :: _ :: _ :: _ :: _ :: _ :: _ :: _ :: _ :: _ :: _ :: _ :: _ :: _ :: _ :: _ :: _ :: _ :: _ :: _ :: _ :: _ :: _ :: _ :: _ :: _ :: _ :: _ :: _ :: _ :: _ :: _ :: _ :: _ :: _ :: _ :: _ :: _ :: _ :: _ :: _ :: _ :: _ :: _ :: _ :: _ :: _ :: _ :: _ :: _ :: _ :: _ :: _ :: _ :: _ :: _ :: _ :: _ :: _ :: _ :: _ :: _ :: _ :: _ :: _ :: _ :: _ :: _ :: _ :: _ :: []), defers := [] } _
              refine wpAnyH_take (i := 7) (v := .tuple #[.agg #[.slice ra9 rm.length rc9, .slice a9 rws.length c9], .int .i64 0]) rfl (by kernel_rfl) (by kernel_rfl) (by kernel_rfl) (fun _ _ _ h => h) (Or.inl ⟨by kernel_rfl, fun w hS => by go_simp⟩) hHeld ?_
              change wpAnyH _ _ _ _ _ _ _ { tmps := List.toArray (_ :: _ :: _ :: _ :: _ :: _ :: _ :: _ :: _ :: _ :: _ :: _ :: _ :: _ :: _ :: _ :: _ :: _ :: _ :: _ :: _ :: _ :: _ :: _ :: _ :: _ :: _ :: _ :: _ :: _ :: _ :: _ :: _ :: _ :: _ :: _ :: _ :: _ :: _ :: _ :: _ :: _ :: _ :: _ :: _ :: _ :: _ :: _ :: _ :: _ :: _ :: _ :: _ :: _ :: _ :: _ :: _ :: _ :: _ :: _ :: _ :: _ :: _ :: _ :: _ :: _ :: _ :: _ :: _ :: _ :: _ :: _ :: _ :: _ :: _ :: _ :: _ :: _ :: _ :: _ :: _ :: .tuple #[.agg #[.slice ra9 rm.length rc9, .slice a9 rws.length c9], .int .i64 0] :: .agg #[.slice ra8 rm.length rc8, .slice a8 rws.length c8] :: .slice (some ⟨lb, lo, none⟩) l.length lc :: .int .i64 k :: .pointer (some ⟨lb, lo + k * 3, none⟩) :: .agg #[.int .i64 x.f, .int .i64 x.t, .int .i64 x.m] :: .agg #[.int .i64 x.t, .int .i64 x.f, .int .i64 x.m] :: .tuple #[.agg #[.slice ra9 rm.length rc9, .slice a9 rws.length c9], .int .i64 0] :: _ :: _ :: _ :: _ :: _ :: _ :: _ :: _ :: _ :: _ :: _ :: _ :: _ :: _ :: _ :: _ :: _ :: _ :: _ :: _ :: _ :: _ :: _ :: _ :: _ :: _ :: _ :: _ :: _ :: _ :: _ :: _ :: _ :: _ :: _ :: _ :: _ :: _ :: _ :: _ :: _ :: _ :: _ :: _ :: _ :: _ :: _ :: _ :: _ :: _ :: _ :: _ :: _ :: _ :: _ :: _ :: _ :: _ :: _ :: _ :: _ :: _ :: _ :: _ :: _ :: _ :: _ :: _ :: _ :: _ :: _ :: _ :: _ :: _ :: _ :: _ :: _ :: _ :: _ :: _ :: _ :: _ :: _ :: _ :: _ :: _ :: _ :: _ :: _ :: _ :: _ :: _ :: _ :: _ :: _ :: []), defers := [] } _
              refine wpAnyH_take (i := 8) (v := .agg #[.slice ra9 rm.length rc9, .slice a9 rws.length c9]) rfl (by kernel_rfl) (by kernel_rfl) (by kernel_rfl) (fun _ _ _ h => h) (Or.inl ⟨by kernel_rfl, fun w hS => by go_simp⟩) hHeld ?_
              change wpAnyH _ _ _ _ _ _ _ { tmps := List.toArray (_ :: _ :: _ :: _ :: _ :: _ :: _ :: _ :: _ :: _ :: _ :: _ :: _ :: _ :: _ :: _ :: _ :: _ :: _ :: _ :: _ :: _ :: _ :: _ :: _ :: _ :: _ :: _ :: _ :: _ :: _ :: _ :: _ :: _ :: _ :: _ :: _ :: _ :: _ :: _ :: _ :: _ :: _ :: _ :: _ :: _ :: _ :: _ :: _ :: _ :: _ :: _ :: _ :: _ :: _ :: _ :: _ :: _ :: _ :: _ :: _ :: _ :: _ :: _ :: _ :: _ :: _ :: _ :: _ :: _ :: _ :: _ :: _ :: _ :: _ :: _ :: _ :: _ :: _ :: _ :: _ :: .tuple #[.agg #[.slice ra9 rm.length rc9, .slice a9 rws.length c9], .int .i64 0] :: .agg #[.slice ra8 rm.length rc8, .slice a8 rws.length c8] :: .slice (some ⟨lb, lo, none⟩) l.length lc :: .int .i64 k :: .pointer (some ⟨lb, lo + k * 3, none⟩) :: .agg #[.int .i64 x.f, .int .i64 x.t, .int .i64 x.m] :: .agg #[.int .i64 x.t, .int .i64 x.f, .int .i64 x.m] :: .tuple #[.agg #[.slice ra9 rm.length rc9, .slice a9 rws.length c9], .int .i64 0] :: .agg #[.slice ra9 rm.length rc9, .slice a9 rws.length c9] :: _ :: _ :: _ :: _ :: _ :: _ :: _ :: _ :: _ :: _ :: _ :: _ :: _ :: _ :: _ :: _ :: _ :: _ :: _ :: _ :: _ :: _ :: _ :: _ :: _ :: _ :: _ :: _ :: _ :: _ :: _ :: _ :: _ :: _ :: _ :: _ :: _ :: _ :: _ :: _ :: _ :: _ :: _ :: _ :: _ :: _ :: _ :: _ :: _ :: _ :: _ :: _ :: _ :: _ :: _ :: _ :: _ :: _ :: _ :: _ :: _ :: _ :: _ :: _ :: _ :: _ :: _ :: _ :: _ :: _ :: _ :: _ :: _ :: _ :: _ :: _ :: _ :: _ :: _ :: _ :: _ :: _ :: _ :: _ :: _ :: _ :: _ :: _ :: _ :: _ :: _ :: _ :: _ :: _ :: []), defers := [] } _
              refine wpAnyH_take (i := 9) (v := .int .i64 0) rfl (by kernel_rfl) (by kernel_rfl) (by kernel_rfl) (fun _ _ _ h => h) (Or.inl ⟨by kernel_rfl, fun w hS => by go_simp⟩) hHeld ?_
              change wpAnyH _ _ _ _ _ _ _ { tmps := List.toArray (_ :: _ :: _ :: _ :: _ :: _ :: _ :: _ :: _ :: _ :: _ :: _ :: _ :: _ :: _ :: _ :: _ :: _ :: _ :: _ :: _ :: _ :: _ :: _ :: _ :: _ :: _ :: _ :: _ :: _ :: _ :: _ :: _ :: _ :: _ :: _ :: _ :: _ :: _ :: _ :: _ :: _ :: _ :: _ :: _ :: _ :: _ :: _ :: _ :: _ :: _ :: _ :: _ :: _ :: _ :: _ :: _ :: _ :: _ :: _ :: _ :: _ :: _ :: _ :: _ :: _ :: _ :: _ :: _ :: _ :: _ :: _ :: _ :: _ :: _ :: _ :: _ :: _ :: _ :: _ :: _ :: .tuple #[.agg #[.slice ra9 rm.length rc9, .slice a9 rws.length c9], .int .i64 0] :: .agg #[.slice ra8 rm.length rc8, .slice a8 rws.length c8] :: .slice (some ⟨lb, lo, none⟩) l.length lc :: .int .i64 k :: .pointer (some ⟨lb, lo + k * 3, none⟩) :: .agg #[.int .i64 x.f, .int .i64 x.t, .int .i64 x.m] :: .agg #[.int .i64 x.t, .int .i64 x.f, .int .i64 x.m] :: .tuple #[.agg #[.slice ra9 rm.length rc9, .slice a9 rws.length c9], .int .i64 0] :: .agg #[.slice ra9 rm.length rc9, .slice a9 rws.length c9] :: .int .i64 0 :: _ :: _ :: _ :: _ :: _ :: _ :: _ :: _ :: _ :: _ :: _ :: _ :: _ :: _ :: _ :: _ :: _ :: _ :: _ :: _ :: _ :: _ :: _ :: _ :: _ :: _ :: _ :: _ :: _ :: _ :: _ :: _ :: _ :: _ :: _ :: _ :: _ :: _ :: _ :: _ :: _ :: _ :: _ :: _ :: _ :: _ :: _ :: _ :: _ :: _ :: _ :: _ :: _ :: _ :: _ :: _ :: _ :: _ :: _ :: _ :: _ :: _ :: _ :: _ :: _ :: _ :: _ :: _ :: _ :: _ :: _ :: _ :: _ :: _ :: _ :: _ :: _ :: _ :: _ :: _ :: _ :: _ :: _ :: _ :: _ :: _ :: _ :: _ :: _ :: _ :: _ :: _ :: _ :: []), defers := [] } _
              refine wpAnyH_ready (rs := [10]) (by kernel_rfl) (by simp) ?_
              refine (AllReadyH.cons rfl (fun KK hK => ?_) AllReadyH.nil)
              go_simp
              have Ba := btrans B8 (balloc w9 (.cells #[.slice none 0 0, .slice none 0 0] 27))
              have zB : (w9.alloc (.cells #[.slice none 0 0, .slice none 0 0] 27)).heap[w9.heap.size]? = some (.cells #[.slice none 0 0, .slice none 0 0] 27 (0, 0)) := heap_alloc_new w9 _
              have zlo : we.heap.size ≤ w9.heap.size := B8.size
              clear hHeld
              refine hK.out _ _ (by obtain ⟨⟨k0, k1⟩, -⟩ := blk2 (blk_keep Ba Ke); exact ⟨k0, k1, ble Ba d2, ble Ba d3, ble Ba d4⟩) (fun hHeld => ?_)
              clear hK KK
              change wpAnyH _ _ _ _ _ _ _ { tmps := List.toArray (_ :: _ :: _ :: _ :: _ :: _ :: _ :: _ :: _ :: _ :: _ :: .pointer (some ⟨w9.heap.size, 0, none⟩) :: _ :: _ :: _ :: _ :: _ :: _ :: _ :: _ :: _ :: _ :: _ :: _ :: _ :: _ :: _ :: _ :: _ :: _ :: _ :: _ :: _ :: _ :: _ :: _ :: _ :: _ :: _ :: _ :: _ :: _ :: _ :: _ :: _ :: _ :: _ :: _ :: _ :: _ :: _ :: _ :: _ :: _ :: _ :: _ :: _ :: _ :: _ :: _ :: _ :: _ :: _ :: _ :: _ :: _ :: _ :: _ :: _ :: _ :: _ :: _ :: _ :: _ :: _ :: _ :: _ :: _ :: _ :: _ :: _ :: .tuple #[.agg #[.slice ra9 rm.length rc9, .slice a9 rws.length c9], .int .i64 0] :: .agg #[.slice ra8 rm.length rc8, .slice a8 rws.length c8] :: .slice (some ⟨lb, lo, none⟩) l.length lc :: .int .i64 k :: .pointer (some ⟨lb, lo + k * 3, none⟩) :: .agg #[.int .i64 x.f, .int .i64 x.t, .int .i64 x.m] :: .agg #[.int .i64 x.t, .int .i64 x.f, .int .i64 x.m] :: .tuple #[.agg #[.slice ra9 rm.length rc9, .slice a9 rws.length c9], .int .i64 0] :: .agg #[.slice ra9 rm.length rc9, .slice a9 rws.length c9] :: .int .i64 0 :: _ :: _ :: _ :: _ :: _ :: _ :: _ :: _ :: _ :: _ :: _ :: _ :: _ :: _ :: _ :: _ :: _ :: _ :: _ :: _ :: _ :: _ :: _ :: _ :: _ :: _ :: _ :: _ :: _ :: _ :: _ :: _ :: _ :: _ :: _ :: _ :: _ :: _ :: _ :: _ :: _ :: _ :: _ :: _ :: _ :: _ :: _ :: _ :: _ :: _ :: _ :: _ :: _ :: _ :: _ :: _ :: _ :: _ :: _ :: _ :: _ :: _ :: _ :: _ :: _ :: _ :: _ :: _ :: _ :: _ :: _ :: _ :: _ :: _ :: _ :: _ :: _ :: _ :: _ :: _ :: _ :: _ :: _ :: _ :: _ :: _ :: _ :: _ :: _ :: _ :: _ :: _ :: _ :: []), defers := [] } _
              refine wpAnyH_ready (rs := [11]) (by kernel_rfl) (by simp) ?_
              refine (AllReadyH.cons rfl (fun KK hK => ?_) AllReadyH.nil)
              have Bs := btrans B8 (balloc w9 (.cells #[.slice ra9 rm.length rc9, .slice a9 rws.length c9] 27))
              have Kn := heap_alloc_new w9 (.cells #[.slice ra9 rm.length rc9, .slice a9 rws.length c9] 27)
              have Sn := S8b.below (balloc w9 (.cells #[.slice ra9 rm.length rc9, .slice a9 rws.length c9] 27))
              go_simp
              clear hHeld
              refine hK.out _ _ (by obtain ⟨⟨k0, k1⟩, -⟩ := blk2 (blk_keep Bs Ke); exact ⟨k0, k1, ble Bs d2, ble Bs d3, ble Bs d4⟩) (fun hHeld => ?_)
              clear hK KK
              change wpAnyH _ _ _ _ _ _ _ { tmps := List.toArray (_ :: _ :: _ :: _ :: _ :: _ :: _ :: _ :: _ :: _ :: _ :: .pointer (some ⟨w9.heap.size, 0, none⟩) :: _ :: _ :: _ :: _ :: _ :: _ :: _ :: _ :: _ :: _ :: _ :: _ :: _ :: _ :: _ :: _ :: _ :: _ :: _ :: _ :: _ :: _ :: _ :: _ :: _ :: _ :: _ :: _ :: _ :: _ :: _ :: _ :: _ :: _ :: _ :: _ :: _ :: _ :: _ :: _ :: _ :: _ :: _ :: _ :: _ :: _ :: _ :: _ :: _ :: _ :: _ :: _ :: _ :: _ :: _ :: _ :: _ :: _ :: _ :: _ :: _ :: _ :: _ :: _ :: _ :: _ :: _ :: _ :: _ :: .tuple #[.agg #[.slice ra9 rm.length rc9, .slice a9 rws.length c9], .int .i64 0] :: .agg #[.slice ra8 rm.length rc8, .slice a8 rws.length c8] :: .slice (some ⟨lb, lo, none⟩) l.length lc :: .int .i64 k :: .pointer (some ⟨lb, lo + k * 3, none⟩) :: .agg #[.int .i64 x.f, .int .i64 x.t, .int .i64 x.m] :: .agg #[.int .i64 x.t, .int .i64 x.f, .int .i64 x.m] :: .tuple #[.agg #[.slice ra9 rm.length rc9, .slice a9 rws.length c9], .int .i64 0] :: .agg #[.slice ra9 rm.length rc9, .slice a9 rws.length c9] :: .int .i64 0 :: _ :: _ :: _ :: _ :: _ :: _ :: _ :: _ :: _ :: _ :: _ :: _ :: _ :: _ :: _ :: _ :: _ :: _ :: _ :: _ :: _ :: _ :: _ :: _ :: _ :: _ :: _ :: _ :: _ :: _ :: _ :: _ :: _ :: _ :: _ :: _ :: _ :: _ :: _ :: _ :: _ :: _ :: _ :: _ :: _ :: _ :: _ :: _ :: _ :: _ :: _ :: _ :: _ :: _ :: _ :: _ :: _ :: _ :: _ :: _ :: _ :: _ :: _ :: _ :: _ :: _ :: _ :: _ :: _ :: _ :: _ :: _ :: _ :: _ :: _ :: _ :: _ :: _ :: _ :: _ :: _ :: _ :: _ :: _ :: _ :: _ :: _ :: _ :: _ :: _ :: _ :: _ :: _ :: []), defers := [] } _
              refine wpAnyH_take (i := 12) (v := .int .i64 0) rfl (by kernel_rfl) (by kernel_rfl) (by kernel_rfl) (fun _ _ _ h => h) (Or.inl ⟨by kernel_rfl, fun w hS => by go_simp⟩) hHeld ?_
              change wpAnyH _ _ _ _ _ _ _ { tmps := List.toArray (_ :: _ :: _ :: _ :: _ :: _ :: _ :: _ :: _ :: _ :: _ :: .pointer (some ⟨w9.heap.size, 0, none⟩) :: .int .i64 0 :: _ :: _ :: _ :: _ :: _ :: _ :: _ :: _ :: _ :: _ :: _ :: _ :: _ :: _ :: _ :: _ :: _ :: _ :: _ :: _ :: _ :: _ :: _ :: _ :: _ :: _ :: _ :: _ :: _ :: _ :: _ :: _ :: _ :: _ :: _ :: _ :: _ :: _ :: _ :: _ :: _ :: _ :: _ :: _ :: _ :: _ :: _ :: _ :: _ :: _ :: _ :: _ :: _ :: _ :: _ :: _ :: _ :: _ :: _ :: _ :: _ :: _ :: _ :: _ :: _ :: _ :: _ :: _ :: .tuple #[.agg #[.slice ra9 rm.length rc9, .slice a9 rws.length c9], .int .i64 0] :: .agg #[.slice ra8 rm.length rc8, .slice a8 rws.length c8] :: .slice (some ⟨lb, lo, none⟩) l.length lc :: .int .i64 k :: .pointer (some ⟨lb, lo + k * 3, none⟩) :: .agg #[.int .i64 x.f, .int .i64 x.t, .int .i64 x.m] :: .agg #[.int .i64 x.t, .int .i64 x.f, .int .i64 x.m] :: .tuple #[.agg #[.slice ra9 rm.length rc9, .slice a9 rws.length c9], .int .i64 0] :: .agg #[.slice ra9 rm.length rc9, .slice a9 rws.length c9] :: .int .i64 0 :: _ :: _ :: _ :: _ :: _ :: _ :: _ :: _ :: _ :: _ :: _ :: _ :: _ :: _ :: _ :: _ :: _ :: _ :: _ :: _ :: _ :: _ :: _ :: _ :: _ :: _ :: _ :: _ :: _ :: _ :: _ :: _ :: _ :: _ :: _ :: _ :: _ :: _ :: _ :: _ :: _ :: _ :: _ :: _ :: _ :: _ :: _ :: _ :: _ :: _ :: _ :: _ :: _ :: _ :: _ :: _ :: _ :: _ :: _ :: _ :: _ :: _ :: _ :: _ :: _ :: _ :: _ :: _ :: _ :: _ :: _ :: _ :: _ :: _ :: _ :: _ :: _ :: _ :: _ :: _ :: _ :: _ :: _ :: _ :: _ :: _ :: _ :: _ :: _ :: _ :: _ :: _ :: _ :: []), defers := [] } _
              refine wpAnyH_done (by kernel_rfl) ?_ _
              generalize w9.alloc (.cells #[.slice ra9 rm.length rc9, .slice a9 rws.length c9] 27) = wf at *
              have Hf := He.below Bs
              have Nf := Ne.below Bs
              have Kf := blk_keep Bs Ke
              have Sf := Se.below Bs
              clear Bs B8 lo8 Ba zB zlo
              generalize w9.heap.size = Q at *
              obtain ⟨⟨b0, b1⟩, -⟩ := blk2 Kn
              obtain ⟨⟨n0, n1⟩, -⟩ := blk2 Nf.kN
              rw [hun.out.2.1] at Sn
              have CY := cYardO _ _ _ _ _ _ vs8b vsn rm rk rk _ Sn Nf.sid hPk.out hPk.out (fun i => .inl rfl)
              rw [decide_eq_true rfl] at CY
              clear CO CU S8b He Ne Ke Se d0 d1 d2 d3 d4
              go_wp2_with fail
              refine CY.mono ?_
              rintro e wg ⟨rfl, bg⟩
              have Hg := Hf.below bg
              have Ng := Nf.below bg
              have Kg := blk_keep bg Kf
              have Sg := Sf.below bg
              obtain ⟨⟨m0, m1⟩, -⟩ := blk2 Kg
              obtain ⟨⟨n0, n1⟩, -⟩ := blk2 Ng.kN
              have CY2 := cYardO _ _ _ _ _ _ vs8 vsn rm (leftS rm rk x) rk _ Sg Ng.sid (hPk.out.left x) hPk.out (fun i => left_diff x i)
              rw [decide_eq_false hun.out.2.2] at CY2
              clear CY Hf Nf Kf Sf Kn Sn b0 b1 bg
              go_wp2_with fail
              refine CY2.mono ?_
              rintro e wq ⟨rfl, bq⟩
              have Hq := Hg.below bq
              have Nq := Ng.below bq
              have Kq := blk_keep bq Kg
              have Sq := Sg.below bq
              clear CY2 Hg Ng Kg Sg bq m0 m1 n0 n1
              obtain ⟨⟨m0, m1⟩, -⟩ := blk2 Kq
              obtain ⟨⟨n0, n1⟩, g0, g1⟩ := blk2 Nq.kN
              have Hz := Hq.box (p := .slice ra8 rm.length rc8) (q := .slice a8 rws.length c8) Nq.kN hAN hLN hwN
              have Nz := NowS.next Sq Nq.kN
              clear Hq Nq Kq Sq
              go_wp2
              go_roundw
              case rel => exact ⟨k + 1, _, _, _, _, vs8, by omega, by go_num, Hz, by rw [hnx.out]; exact Nz⟩
              case measure => simp [intOf]; omega
            · skip
              go_simp
              have Ba := btrans B7 (balloc w7 (.cells #[.slice none 0 0, .slice none 0 0] 27))
              have zB : (w7.alloc (.cells #[.slice none 0 0, .slice none 0 0] 27)).heap[w7.heap.size]? = some (.cells #[.slice none 0 0, .slice none 0 0] 27 (0, 0)) := heap_alloc_new w7 _
              have zlo : we.heap.size ≤ w7.heap.size := B7.size
              clear hHeld
              refine hK.out _ _ (by obtain ⟨⟨k0, k1⟩, -⟩ := blk2 (blk_keep Ba Ke); exact ⟨k0, k1, ble Ba d2, ble Ba d3, ble Ba d4⟩) (fun hHeld => ?_)
              clear hK KK
              change wpAnyH _ _ _ _ _ _ _ { tmps := List.toArray (_ :: _ :: _ :: _ :: _ :: _ :: _ :: _ :: _ :: _ :: _ :: .pointer (some ⟨w7.heap.size, 0, none⟩) :: _ :: _ :: _ :: _ :: _ :: _ :: _ :: _ :: _ :: _ :: _ :: _ :: _ :: _ :: _ :: _ :: _ :: _ :: _ :: _ :: _ :: _ :: _ :: _ :: _ :: _ :: _ :: _ :: _ :: _ :: _ :: _ :: _ :: _ :: _ :: _ :: _ :: _ :: _ :: _ :: _ :: _ :: _ :: _ :: _ :: _ :: _ :: _ :: _ :: _ :: _ :: _ :: _ :: _ :: _ :: _ :: _ :: _ :: _ :: _ :: _ :: _ :: _ :: _ :: _ :: _ :: _ :: _ :: _ :: _ :: .agg #[.slice ra8 rm.length rc8, .slice a8 rws.length c8] :: .slice (some ⟨lb, lo, none⟩) l.length lc :: .int .i64 k :: .pointer (some ⟨lb, lo + k * 3, none⟩) :: .agg #[.int .i64 x.f, .int .i64 x.t, .int .i64 x.m] :: .agg #[.int .i64 x.t, .int .i64 x.f, .int .i64 x.m] :: _ :: _ :: _ :: _ :: _ :: _ :: _ :: _ :: _ :: _ :: _ :: _ :: _ :: _ :: _ :: _ :: _ :: _ :: _ :: _ :: _ :: _ :: _ :: _ :: _ :: _ :: _ :: _ :: _ :: _ :: _ :: _ :: _ :: _ :: _ :: _ :: _ :: _ :: _ :: _ :: _ :: _ :: _ :: _ :: _ :: _ :: _ :: _ :: _ :: _ :: _ :: _ :: _ :: _ :: _ :: _ :: _ :: _ :: _ :: _ :: _ :: _ :: _ :: _ :: _ :: _ :: _ :: _ :: _ :: _ :: _ :: _ :: _ :: _ :: _ :: _ :: _ :: _ :: _ :: _ :: _ :: _ :: _ :: _ :: _ :: _ :: _ :: _ :: _ :: _ :: _ :: _ :: _ :: _ :: _ :: _ :: []), defers := [] } _
              refine wpAnyH_ready (rs := [6]) (by kernel_rfl) (by simp) ?_
              refine (AllReadyH.cons rfl (fun KK hK => ?_) AllReadyH.nil)
              go_simp
              refine (CO _ (Sd.below Ba)).mono ?_
              rintro e w9 ⟨rv8, v8, vs8b, rfl, S8b, hb8⟩
              have B8 := btrans Ba hb8
              have lo8 := Ba.size
              have zB := blk_keep hb8 zB
              obtain ⟨ra9, rc9, a9, c9, rfl, hv8, -⟩ := S8b.arg
              rw [hl8b.out] at hv8
              subst hv8
              clear hb8
              go_wp2_with fail
              clear hHeld
              refine hK.out _ _ (by obtain ⟨⟨k0, k1⟩, -⟩ := blk2 (blk_keep B8 Ke); exact ⟨k0, k1, ble B8 d2, ble B8 d3, ble B8 d4⟩) (fun hHeld => ?_)
              clear hK KK
              change wpAnyH _ _ _ _ _ _ _ { tmps := List.toArray (_ :: _ :: _ :: _ :: _ :: _ :: _ :: _ :: _ :: _ :: _ :: .pointer (some ⟨w7.heap.size, 0, none⟩) :: _ :: _ :: _ :: _ :: _ :: _ :: _ :: _ :: _ :: _ :: _ :: _ :: _ :: _ :: _ :: _ :: _ :: _ :: _ :: _ :: _ :: _ :: _ :: _ :: _ :: _ :: _ :: _ :: _ :: _ :: _ :: _ :: _ :: _ :: _ :: _ :: _ :: _ :: _ :: _ :: _ :: _ :: _ :: _ :: _ :: _ :: _ :: _ :: _ :: _ :: _ :: _ :: _ :: _ :: _ :: _ :: _ :: _ :: _ :: _ :: _ :: _ :: _ :: _ :: _ :: _ :: _ :: _ :: _ :: _ :: .agg #[.slice ra8 rm.length rc8, .slice a8 rws.length c8] :: .slice (some ⟨lb, lo, none⟩) l.length lc :: .int .i64 k :: .pointer (some ⟨lb, lo + k * 3, none⟩) :: .agg #[.int .i64 x.f, .int .i64 x.t, .int .i64 x.m] :: .agg #[.int .i64 x.t, .int .i64 x.f, .int .i64 x.m] :: .tuple #[.agg #[.slice ra9 rm.length rc9, .slice a9 rws.length c9], .int .i64 0] :: _ :: _ :: _ :: _ :: _ :: _ :: _ :: _ :: _ :: _ :: _ :: _ :: _ :: _ :: _ :: _ :: _ :: _ :: _ :: _ :: _ :: _ :: _ :: _ :: _ :: _ :: _ :: _ :: _ :: _ :: _ :: _ :: _ :: _ :: _ :: _ :: _ :: _ :: _ :: _ :: _ :: _ :: _ :: _ :: _ :: _ :: _ :: _ :: _ :: _ :: _ :: _ :: _ :: _ :: _ :: _ :: _ :: _ :: _ :: _ :: _ :: _ :: _ :: _ :: _ :: _ :: _ :: _ :: _ :: _ :: _ :: _ :: _ :: _ :: _ :: _ :: _ :: _ :: _ :: _ :: _ :: _ :: _ :: _ :: _ :: _ :: _ :: _ :: _ :: _ :: _ :: _ :: _ :: _ :: _ :: []), defers := [] } _
              refine wpAnyH_take (i := 7) (v := .tuple #[.agg #[.slice ra9 rm.length rc9, .slice a9 rws.length c9], .int .i64 0]) rfl (by kernel_rfl) (by kernel_rfl) (by kernel_rfl) (fun _ _ _ h => h) (Or.inl ⟨by kernel_rfl, fun w hS => by go_simp⟩) hHeld ?_
              change wpAnyH _ _ _ _ _ _ _ { tmps := List.toArray (_ :: _ :: _ :: _ :: _ :: _ :: _ :: _ :: _ :: _ :: _ :: .pointer (some ⟨w7.heap.size, 0, none⟩) :: _ :: _ :: _ :: _ :: _ :: _ :: _ :: _ :: _ :: _ :: _ :: _ :: _ :: _ :: _ :: _ :: _ :: _ :: _ :: _ :: _ :: _ :: _ :: _ :: _ :: _ :: _ :: _ :: _ :: _ :: _ :: _ :: _ :: _ :: _ :: _ :: _ :: _ :: _ :: _ :: _ :: _ :: _ :: _ :: _ :: _ :: _ :: _ :: _ :: _ :: _ :: _ :: _ :: _ :: _ :: _ :: _ :: _ :: _ :: _ :: _ :: _ :: _ :: _ :: _ :: _ :: _ :: _ :: _ :: .tuple #[.agg #[.slice ra9 rm.length rc9, .slice a9 rws.length c9], .int .i64 0] :: .agg #[.slice ra8 rm.length rc8, .slice a8 rws.length c8] :: .slice (some ⟨lb, lo, none⟩) l.length lc :: .int .i64 k :: .pointer (some ⟨lb, lo + k * 3, none⟩) :: .agg #[.int .i64 x.f, .int .i64 x.t, .int .i64 x.m] :: .agg #[.int .i64 x.t, .int .i64 x.f, .int .i64 x.m] :: .tuple #[.agg #[.slice ra9 rm.length rc9, .slice a9 rws.length c9], .int .i64 0] :: _ :: _ :: _ :: _ :: _ :: _ :: _ :: _ :: _ :: _ :: _ :: _ :: _ :: _ :: _ :: _ :: _ :: _ :: _ :: _ :: _ :: _ :: _ :: _ :: _ :: _ :: _ :: _ :: _ :: _ :: _ :: _ :: _ :: _ :: _ :: _ :: _ :: _ :: _ :: _ :: _ :: _ :: _ :: _ :: _ :: _ :: _ :: _ :: _ :: _ :: _ :: _ :: _ :: _ :: _ :: _ :: _ :: _ :: _ :: _ :: _ :: _ :: _ :: _ :: _ :: _ :: _ :: _ :: _ :: _ :: _ :: _ :: _ :: _ :: _ :: _ :: _ :: _ :: _ :: _ :: _ :: _ :: _ :: _ :: _ :: _ :: _ :: _ :: _ :: _ :: _ :: _ :: _ :: _ :: _ :: []), defers := [] } _
              refine wpAnyH_take (i := 8) (v := .agg #[.slice ra9 rm.length rc9, .slice a9 rws.length c9]) rfl (by kernel_rfl) (by kernel_rfl) (by kernel_rfl) (fun _ _ _ h => h) (Or.inl ⟨by kernel_rfl, fun w hS => by go_simp⟩) hHeld ?_
              change wpAnyH _ _ _ _ _ _ _ { tmps := List.toArray (_ :: _ :: _ :: _ :: _ :: _ :: _ :: _ :: _ :: _ :: _ :: .pointer (some ⟨w7.heap.size, 0, none⟩) :: _ :: _ :: _ :: _ :: _ :: _ :: _ :: _ :: _ :: _ :: _ :: _ :: _ :: _ :: _ :: _ :: _ :: _ :: _ :: _ :: _ :: _ :: _ :: _ :: _ :: _ :: _ :: _ :: _ :: _ :: _ :: _ :: _ :: _ :: _ :: _ :: _ :: _ :: _ :: _ :: _ :: _ :: _ :: _ :: _ :: _ :: _ :: _ :: _ :: _ :: _ :: _ :: _ :: _ :: _ :: _ :: _ :: _ :: _ :: _ :: _ :: _ :: _ :: _ :: _ :: _ :: _ :: _ :: _ :: .tuple #[.agg #[.slice ra9 rm.length rc9, .slice a9 rws.length c9], .int .i64 0] :: .agg #[.slice ra8 rm.length rc8, .slice a8 rws.length c8] :: .slice (some ⟨lb, lo, none⟩) l.length lc :: .int .i64 k :: .pointer (some ⟨lb, lo + k * 3, none⟩) :: .agg #[.int .i64 x.f, .int .i64 x.t, .int .i64 x.m] :: .agg #[.int .i64 x.t, .int .i64 x.f, .int .i64 x.m] :: .tuple #[.agg #[.slice ra9 rm.length rc9, .slice a9 rws.length c9], .int .i64 0] :: .agg #[.slice ra9 rm.length rc9, .slice a9 rws.length c9] :: _ :: _ :: _ :: _ :: _ :: _ :: _ :: _ :: _ :: _ :: _ :: _ :: _ :: _ :: _ :: _ :: _ :: _ :: _ :: _ :: _ :: _ :: _ :: _ :: _ :: _ :: _ :: _ :: _ :: _ :: _ :: _ :: _ :: _ :: _ :: _ :: _ :: _ :: _ :: _ :: _ :: _ :: _ :: _ :: _ :: _ :: _ :: _ :: _ :: _ :: _ :: _ :: _ :: _ :: _ :: _ :: _ :: _ :: _ :: _ :: _ :: _ :: _ :: _ :: _ :: _ :: _ :: _ :: _ :: _ :: _ :: _ :: _ :: _ :: _ :: _ :: _ :: _ :: _ :: _ :: _ :: _ :: _ :: _ :: _ :: _ :: _ :: _ :: _ :: _ :: _ :: _ :: _ :: _ :: []), defers := [] } _
              refine wpAnyH_take (i := 9) (v := .int .i64 0) rfl (by kernel_rfl) (by kernel_rfl) (by kernel_rfl) (fun _ _ _ h => h) (Or.inl ⟨by kernel_rfl, fun w hS => by go_simp⟩) hHeld ?_
              change wpAnyH _ _ _ _ _ _ _ { tmps := List.toArray (_ :: _ :: _ :: _ :: _ :: _ :: _ :: _ :: _ :: _ :: _ :: .pointer (some ⟨w7.heap.size, 0, none⟩) :: _ :: _ :: _ :: _ :: _ :: _ :: _ :: _ :: _ :: _ :: _ :: _ :: _ :: _ :: _ :: _ :: _ :: _ :: _ :: _ :: _ :: _ :: _ :: _ :: _ :: _ :: _ :: _ :: _ :: _ :: _ :: _ :: _ :: _ :: _ :: _ :: _ :: _ :: _ :: _ :: _ :: _ :: _ :: _ :: _ :: _ :: _ :: _ :: _ :: _ :: _ :: _ :: _ :: _ :: _ :: _ :: _ :: _ :: _ :: _ :: _ :: _ :: _ :: _ :: _ :: _ :: _ :: _ :: _ :: .tuple #[.agg #[.slice ra9 rm.length rc9, .slice a9 rws.length c9], .int .i64 0] :: .agg #[.slice ra8 rm.length rc8, .slice a8 rws.length c8] :: .slice (some ⟨lb, lo, none⟩) l.length lc :: .int .i64 k :: .pointer (some ⟨lb, lo + k * 3, none⟩) :: .agg #[.int .i64 x.f, .int .i64 x.t, .int .i64 x.m] :: .agg #[.int .i64 x.t, .int .i64 x.f, .int .i64 x.m] :: .tuple #[.agg #[.slice ra9 rm.length rc9, .slice a9 rws.length c9], .int .i64 0] :: .agg #[.slice ra9 rm.length rc9, .slice a9 rws.length c9] :: .int .i64 0 :: _ :: _ :: _ :: _ :: _ :: _ :: _ :: _ :: _ :: _ :: _ :: _ :: _ :: _ :: _ :: _ :: _ :: _ :: _ :: _ :: _ :: _ :: _ :: _ :: _ :: _ :: _ :: _ :: _ :: _ :: _ :: _ :: _ :: _ :: _ :: _ :: _ :: _ :: _ :: _ :: _ :: _ :: _ :: _ :: _ :: _ :: _ :: _ :: _ :: _ :: _ :: _ :: _ :: _ :: _ :: _ :: _ :: _ :: _ :: _ :: _ :: _ :: _ :: _ :: _ :: _ :: _ :: _ :: _ :: _ :: _ :: _ :: _ :: _ :: _ :: _ :: _ :: _ :: _ :: _ :: _ :: _ :: _ :: _ :: _ :: _ :: _ :: _ :: _ :: _ :: _ :: _ :: _ :: []), defers := [] } _
              refine wpAnyH_ready (rs := [11]) (by kernel_rfl) (by simp) ?_
              refine (AllReadyH.cons rfl (fun KK hK => ?_) AllReadyH.nil)
              obtain ⟨⟨z0, z1⟩, y0, y1⟩ := blk2 zB
              have Kn := box_set (p := .slice ra9 rm.length rc9) (q := .slice a9 rws.length c9) zB
              have Sn := S8b.box (p := .slice ra9 rm.length rc9) (q := .slice a9 rws.length c9) zB
              have Bs : Below we.heap.size we ((w9.setCell ⟨w7.heap.size, 0, none⟩ (.slice ra9 rm.length rc9)).setCell ⟨w7.heap.size, 1, none⟩ (.slice a9 rws.length c9)) := below_set zlo (below_set zlo B8)
              go_simp
              clear hHeld
              refine hK.out _ _ (by obtain ⟨⟨k0, k1⟩, -⟩ := blk2 (blk_keep Bs Ke); exact ⟨k0, k1, ble Bs d2, ble Bs d3, ble Bs d4⟩) (fun hHeld => ?_)
              clear hK KK
              change wpAnyH _ _ _ _ _ _ _ { tmps := List.toArray (_ :: _ :: _ :: _ :: _ :: _ :: _ :: _ :: _ :: _ :: _ :: .pointer (some ⟨w7.heap.size, 0, none⟩) :: _ :: _ :: _ :: _ :: _ :: _ :: _ :: _ :: _ :: _ :: _ :: _ :: _ :: _ :: _ :: _ :: _ :: _ :: _ :: _ :: _ :: _ :: _ :: _ :: _ :: _ :: _ :: _ :: _ :: _ :: _ :: _ :: _ :: _ :: _ :: _ :: _ :: _ :: _ :: _ :: _ :: _ :: _ :: _ :: _ :: _ :: _ :: _ :: _ :: _ :: _ :: _ :: _ :: _ :: _ :: _ :: _ :: _ :: _ :: _ :: _ :: _ :: _ :: _ :: _ :: _ :: _ :: _ :: _ :: .tuple #[.agg #[.slice ra9 rm.length rc9, .slice a9 rws.length c9], .int .i64 0] :: .agg #[.slice ra8 rm.length rc8, .slice a8 rws.length c8] :: .slice (some ⟨lb, lo, none⟩) l.length lc :: .int .i64 k :: .pointer (some ⟨lb, lo + k * 3, none⟩) :: .agg #[.int .i64 x.f, .int .i64 x.t, .int .i64 x.m] :: .agg #[.int .i64 x.t, .int .i64 x.f, .int .i64 x.m] :: .tuple #[.agg #[.slice ra9 rm.length rc9, .slice a9 rws.length c9], .int .i64 0] :: .agg #[.slice ra9 rm.length rc9, .slice a9 rws.length c9] :: .int .i64 0 :: _ :: _ :: _ :: _ :: _ :: _ :: _ :: _ :: _ :: _ :: _ :: _ :: _ :: _ :: _ :: _ :: _ :: _ :: _ :: _ :: _ :: _ :: _ :: _ :: _ :: _ :: _ :: _ :: _ :: _ :: _ :: _ :: _ :: _ :: _ :: _ :: _ :: _ :: _ :: _ :: _ :: _ :: _ :: _ :: _ :: _ :: _ :: _ :: _ :: _ :: _ :: _ :: _ :: _ :: _ :: _ :: _ :: _ :: _ :: _ :: _ :: _ :: _ :: _ :: _ :: _ :: _ :: _ :: _ :: _ :: _ :: _ :: _ :: _ :: _ :: _ :: _ :: _ :: _ :: _ :: _ :: _ :: _ :: _ :: _ :: _ :: _ :: _ :: _ :: _ :: _ :: _ :: _ :: []), defers := [] } _
              refine wpAnyH_take (i := 12) (v := .int .i64 0) rfl (by kernel_rfl) (by kernel_rfl) (by kernel_rfl) (fun _ _ _ h => h) (Or.inl ⟨by kernel_rfl, fun w hS => by go_simp⟩) hHeld ?_
              change wpAnyH _ _ _ _ _ _ _ { tmps := List.toArray (_ :: _ :: _ :: _ :: _ :: _ :: _ :: _ :: _ :: _ :: _ :: .pointer (some ⟨w7.heap.size, 0, none⟩) :: .int .i64 0 :: _ :: _ :: _ :: _ :: _ :: _ :: _ :: _ :: _ :: _ :: _ :: _ :: _ :: _ :: _ :: _ :: _ :: _ :: _ :: _ :: _ :: _ :: _ :: _ :: _ :: _ :: _ :: _ :: _ :: _ :: _ :: _ :: _ :: _ :: _ :: _ :: _ :: _ :: _ :: _ :: _ :: _ :: _ :: _ :: _ :: _ :: _ :: _ :: _ :: _ :: _ :: _ :: _ :: _ :: _ :: _ :: _ :: _ :: _ :: _ :: _ :: _ :: _ :: _ :: _ :: _ :: _ :: _ :: .tuple #[.agg #[.slice ra9 rm.length rc9, .slice a9 rws.length c9], .int .i64 0] :: .agg #[.slice ra8 rm.length rc8, .slice a8 rws.length c8] :: .slice (some ⟨lb, lo, none⟩) l.length lc :: .int .i64 k :: .pointer (some ⟨lb, lo + k * 3, none⟩) :: .agg #[.int .i64 x.f, .int .i64 x.t, .int .i64 x.m] :: .agg #[.int .i64 x.t, .int .i64 x.f, .int .i64 x.m] :: .tuple #[.agg #[.slice ra9 rm.length rc9, .slice a9 rws.length c9], .int .i64 0] :: .agg #[.slice ra9 rm.length rc9, .slice a9 rws.length c9] :: .int .i64 0 :: _ :: _ :: _ :: _ :: _ :: _ :: _ :: _ :: _ :: _ :: _ :: _ :: _ :: _ :: _ :: _ :: _ :: _ :: _ :: _ :: _ :: _ :: _ :: _ :: _ :: _ :: _ :: _ :: _ :: _ :: _ :: _ :: _ :: _ :: _ :: _ :: _ :: _ :: _ :: _ :: _ :: _ :: _ :: _ :: _ :: _ :: _ :: _ :: _ :: _ :: _ :: _ :: _ :: _ :: _ :: _ :: _ :: _ :: _ :: _ :: _ :: _ :: _ :: _ :: _ :: _ :: _ :: _ :: _ :: _ :: _ :: _ :: _ :: _ :: _ :: _ :: _ :: _ :: _ :: _ :: _ :: _ :: _ :: _ :: _ :: _ :: _ :: _ :: _ :: _ :: _ :: _ :: _ :: []), defers := [] } _
              refine wpAnyH_done (by kernel_rfl) ?_ _
              generalize (w9.setCell ⟨w7.heap.size, 0, none⟩ (.slice ra9 rm.length rc9)).setCell ⟨w7.heap.size, 1, none⟩ (.slice a9 rws.length c9) = wf at *
              have Hf := He.below Bs
              have Nf := Ne.below Bs
              have Kf := blk_keep Bs Ke
              have Sf := Se.below Bs
              clear Bs B8 lo8 Ba zB zlo
              generalize w7.heap.size = Q at *
              obtain ⟨⟨b0, b1⟩, -⟩ := blk2 Kn
              obtain ⟨⟨n0, n1⟩, -⟩ := blk2 Nf.kN
              rw [hun.out.2.1] at Sn
              have CY := cYardO _ _ _ _ _ _ vs8b vsn rm rk rk _ Sn Nf.sid hPk.out hPk.out (fun i => .inl rfl)
              rw [decide_eq_true rfl] at CY
              clear CO CU S8b He Ne Ke Se d0 d1 d2 d3 d4
              go_wp2_with fail
              refine CY.mono ?_
              rintro e wg ⟨rfl, bg⟩
              have Hg := Hf.below bg
              have Ng := Nf.below bg
              have Kg := blk_keep bg Kf
              have Sg := Sf.below bg
              obtain ⟨⟨m0, m1⟩, -⟩ := blk2 Kg
              obtain ⟨⟨n0, n1⟩, -⟩ := blk2 Ng.kN
              have CY2 := cYardO _ _ _ _ _ _ vs8 vsn rm (leftS rm rk x) rk _ Sg Ng.sid (hPk.out.left x) hPk.out (fun i => left_diff x i)
              rw [decide_eq_false hun.out.2.2] at CY2
              clear CY Hf Nf Kf Sf Kn Sn b0 b1 bg
              go_wp2_with fail
              refine CY2.mono ?_
              rintro e wq ⟨rfl, bq⟩
              have Hq := Hg.below bq
              have Nq := Ng.below bq
              have Kq := blk_keep bq Kg
              have Sq := Sg.below bq
              clear CY2 Hg Ng Kg Sg bq m0 m1 n0 n1
              obtain ⟨⟨m0, m1⟩, -⟩ := blk2 Kq
              obtain ⟨⟨n0, n1⟩, g0, g1⟩ := blk2 Nq.kN
              have Hz := Hq.box (p := .slice ra8 rm.length rc8) (q := .slice a8 rws.length c8) Nq.kN hAN hLN hwN
              have Nz := NowS.next Sq Nq.kN
              clear Hq Nq Kq Sq
              go_wp2
              go_roundw
              case rel => exact ⟨k + 1, _, _, _, _, vs8, by omega, by go_num, Hz, by rw [hnx.out]; exact Nz⟩
              case measure => simp [intOf]; omega
          · skip
            go_simp
            have Ba := btrans B0 (balloc we (.cells #[.slice none 0 0, .slice none 0 0] 27))
            have zB : (we.alloc (.cells #[.slice none 0 0, .slice none 0 0] 27)).heap[we.heap.size]? = some (.cells #[.slice none 0 0, .slice none 0 0] 27 (0, 0)) := heap_alloc_new we _
            have zlo : we.heap.size ≤ we.heap.size := B0.size
            clear hHeld
            refine hK.out _ _ (by obtain ⟨⟨k0, k1⟩, -⟩ := blk2 (blk_keep Ba Ke); exact ⟨k0, k1, ble Ba d2, ble Ba d3, ble Ba d4⟩) (fun hHeld => ?_)
            clear hK KK
            change wpAnyH _ _ _ _ _ _ _ { tmps := List.toArray (_ :: _ :: _ :: _ :: _ :: _ :: _ :: _ :: _ :: _ :: _ :: .pointer (some ⟨we.heap.size, 0, none⟩) :: _ :: _ :: _ :: _ :: _ :: _ :: _ :: _ :: _ :: _ :: _ :: _ :: _ :: _ :: _ :: _ :: _ :: _ :: _ :: _ :: _ :: _ :: _ :: _ :: _ :: _ :: _ :: _ :: _ :: _ :: _ :: _ :: _ :: _ :: _ :: _ :: _ :: _ :: _ :: _ :: _ :: _ :: _ :: _ :: _ :: _ :: _ :: _ :: _ :: _ :: _ :: _ :: _ :: _ :: _ :: _ :: _ :: _ :: _ :: _ :: _ :: _ :: _ :: _ :: _ :: _ :: _ :: _ :: _ :: _ :: .agg #[.slice ra8 rm.length rc8, .slice a8 rws.length c8] :: .slice (some ⟨lb, lo, none⟩) l.length lc :: .int .i64 k :: .pointer (some ⟨lb, lo + k * 3, none⟩) :: .agg #[.int .i64 x.f, .int .i64 x.t, .int .i64 x.m] :: _ :: _ :: _ :: _ :: _ :: _ :: _ :: _ :: _ :: _ :: _ :: _ :: _ :: _ :: _ :: _ :: _ :: _ :: _ :: _ :: _ :: _ :: _ :: _ :: _ :: _ :: _ :: _ :: _ :: _ :: _ :: _ :: _ :: _ :: _ :: _ :: _ :: _ :: _ :: _ :: _ :: _ :: _ :: _ :: _ :: _ :: _ :: _ :: _ :: _ :: _ :: _ :: _ :: _ :: _ :: _ :: _ :: _ :: _ :: _ :: _ :: _ :: _ :: _ :: _ :: _ :: _ :: _ :: _ :: _ :: _ :: _ :: _ :: _ :: _ :: _ :: _ :: _ :: _ :: _ :: _ :: _ :: _ :: _ :: _ :: _ :: _ :: _ :: _ :: _ :: _ :: _ :: _ :: _ :: _ :: _ :: _ :: []), defers := [] } _
            refine wpAnyH_ready (rs := [5]) (by kernel_rfl) (by simp) ?_
            refine (AllReadyH.cons rfl (fun KK hK => ?_) AllReadyH.nil)
            go_simp
            refine (CU _).mono ?_
            rintro e w7 ⟨rfl, hb7⟩
            have B7 := btrans Ba hb7
            have zB := blk_keep hb7 zB
            clear hb7
            go_wp2_with fail
            clear hHeld
            refine hK.out _ _ (by obtain ⟨⟨k0, k1⟩, -⟩ := blk2 (blk_keep B7 Ke); exact ⟨k0, k1, ble B7 d2, ble B7 d3, ble B7 d4⟩) (fun hHeld => ?_)
            clear hK KK
            change wpAnyH _ _ _ _ _ _ _ { tmps := List.toArray (_ :: _ :: _ :: _ :: _ :: _ :: _ :: _ :: _ :: _ :: _ :: .pointer (some ⟨we.heap.size, 0, none⟩) :: _ :: _ :: _ :: _ :: _ :: _ :: _ :: _ :: _ :: _ :: _ :: _ :: _ :: _ :: _ :: _ :: _ :: _ :: _ :: _ :: _ :: _ :: _ :: _ :: _ :: _ :: _ :: _ :: _ :: _ :: _ :: _ :: _ :: _ :: _ :: _ :: _ :: _ :: _ :: _ :: _ :: _ :: _ :: _ :: _ :: _ :: _ :: _ :: _ :: _ :: _ :: _ :: _ :: _ :: _ :: _ :: _ :: _ :: _ :: _ :: _ :: _ :: _ :: _ :: _ :: _ :: _ :: _ :: _ :: _ :: .agg #[.slice ra8 rm.length rc8, .slice a8 rws.length c8] :: .slice (some ⟨lb, lo, none⟩) l.length lc :: .int .i64 k :: .pointer (some ⟨lb, lo + k * 3, none⟩) :: .agg #[.int .i64 x.f, .int .i64 x.t, .int .i64 x.m] :: .agg #[.int .i64 x.t, .int .i64 x.f, .int .i64 x.m] :: _ :: _ :: _ :: _ :: _ :: _ :: _ :: _ :: _ :: _ :: _ :: _ :: _ :: _ :: _ :: _ :: _ :: _ :: _ :: _ :: _ :: _ :: _ :: _ :: _ :: _ :: _ :: _ :: _ :: _ :: _ :: _ :: _ :: _ :: _ :: _ :: _ :: _ :: _ :: _ :: _ :: _ :: _ :: _ :: _ :: _ :: _ :: _ :: _ :: _ :: _ :: _ :: _ :: _ :: _ :: _ :: _ :: _ :: _ :: _ :: _ :: _ :: _ :: _ :: _ :: _ :: _ :: _ :: _ :: _ :: _ :: _ :: _ :: _ :: _ :: _ :: _ :: _ :: _ :: _ :: _ :: _ :: _ :: _ :: _ :: _ :: _ :: _ :: _ :: _ :: _ :: _ :: _ :: _ :: _ :: _ :: []), defers := [] } _
            refine wpAnyH_ready (rs := [6]) (by kernel_rfl) (by simp) ?_
            refine (AllReadyH.cons rfl (fun KK hK => ?_) AllReadyH.nil)
            go_simp
            refine (CO _ (Sd.below B7)).mono ?_
            rintro e w9 ⟨rv8, v8, vs8b, rfl, S8b, hb8⟩
            have B8 := btrans B7 hb8
            have lo8 := B7.size
            have zB := blk_keep hb8 zB
            obtain ⟨ra9, rc9, a9, c9, rfl, hv8, -⟩ := S8b.arg
            rw [hl8b.out] at hv8
            subst hv8
            clear hb8
            go_wp2_with fail
            clear hHeld
            refine hK.out _ _ (by obtain ⟨⟨k0, k1⟩, -⟩ := blk2 (blk_keep B8 Ke); exact ⟨k0, k1, ble B8 d2, ble B8 d3, ble B8 d4⟩) (fun hHeld => ?_)
            clear hK KK
            change wpAnyH _ _ _ _ _ _ _ { tmps := List.toArray (_ :: _ :: _ :: _ :: _ :: _ :: _ :: _ :: _ :: _ :: _ :: .pointer (some ⟨we.heap.size, 0, none⟩) :: _ :: _ :: _ :: _ :: _ :: _ :: _ :: _ :: _ :: _ :: _ :: _ :: _ :: _ :: _ :: _ :: _ :: _ :: _ :: _ :: _ :: _ :: _ :: _ :: _ :: _ :: _ :: _ :: _ :: _ :: _ :: _ :: _ :: _ :: _ :: _ :: _ :: _ :: _ :: _ :: _ :: _ :: _ :: _ :: _ :: _ :: _ :: _ :: _ :: _ :: _ :: _ :: _ :: _ :: _ :: _ :: _ :: _ :: _ :: _ :: _ :: _ :: _ :: _ :: _ :: _ :: _ :: _ :: _ :: _ :: .agg #[.slice ra8 rm.length rc8, .slice a8 rws.length c8] :: .slice (some ⟨lb, lo, none⟩) l.length lc :: .int .i64 k :: .pointer (some ⟨lb, lo + k * 3, none⟩) :: .agg #[.int .i64 x.f, .int .i64 x.t, .int .i64 x.m] :: .agg #[.int .i64 x.t, .int .i64 x.f, .int .i64 x.m] :: .tuple #[.agg #[.slice ra9 rm.length rc9, .slice a9 rws.length c9], .int .i64 0] :: _ :: _ :: _ :: _ :: _ :: _ :: _ :: _ :: _ :: _ :: _ :: _ :: _ :: _ :: _ :: _ :: _ :: _ :: _ :: _ :: _ :: _ :: _ :: _ :: _ :: _ :: _ :: _ :: _ :: _ :: _ :: _ :: _ :: _ :: _ :: _ :: _ :: _ :: _ :: _ :: _ :: _ :: _ :: _ :: _ :: _ :: _ :: _ :: _ :: _ :: _ :: _ :: _ :: _ :: _ :: _ :: _ :: _ :: _ :: _ :: _ :: _ :: _ :: _ :: _ :: _ :: _ :: _ :: _ :: _ :: _ :: _ :: _ :: _ :: _ :: _ :: _ :: _ :: _ :: _ :: _ :: _ :: _ :: _ :: _ :: _ :: _ :: _ :: _ :: _ :: _ :: _ :: _ :: _ :: _ :: []), defers := [] } _
            refine wpAnyH_take (i := 7) (v := .tuple #[.agg #[.slice ra9 rm.length rc9, .slice a9 rws.length c9], .int .i64 0]) rfl (by kernel_rfl) (by kernel_rfl) (by kernel_rfl) (fun _ _ _ h => h) (Or.inl ⟨by kernel_rfl, fun w hS => by go_simp⟩) hHeld ?_
            change wpAnyH _ _ _ _ _ _ _ { tmps := List.toArray (_ :: _ :: _ :: _ :: _ :: _ :: _ :: _ :: _ :: _ :: _ :: .pointer (some ⟨we.heap.size, 0, none⟩) :: _ :: _ :: _ :: _ :: _ :: _ :: _ :: _ :: _ :: _ :: _ :: _ :: _ :: _ :: _ :: _ :: _ :: _ :: _ :: _ :: _ :: _ :: _ :: _ :: _ :: _ :: _ :: _ :: _ :: _ :: _ :: _ :: _ :: _ :: _ :: _ :: _ :: _ :: _ :: _ :: _ :: _ :: _ :: _ :: _ :: _ :: _ :: _ :: _ :: _ :: _ :: _ :: _ :: _ :: _ :: _ :: _ :: _ :: _ :: _ :: _ :: _ :: _ :: _ :: _ :: _ :: _ :: _ :: _ :: .tuple #[.agg #[.slice ra9 rm.length rc9, .slice a9 rws.length c9], .int .i64 0] :: .agg #[.slice ra8 rm.length rc8, .slice a8 rws.length c8] :: .slice (some ⟨lb, lo, none⟩) l.length lc :: .int .i64 k :: .pointer (some ⟨lb, lo + k * 3, none⟩) :: .agg #[.int .i64 x.f, .int .i64 x.t, .int .i64 x.m] :: .agg #[.int .i64 x.t, .int .i64 x.f, .int .i64 x.m] :: .tuple #[.agg #[.slice ra9 rm.length rc9, .slice a9 rws.length c9], .int .i64 0] :: _ :: _ :: _ :: _ :: _ :: _ :: _ :: _ :: _ :: _ :: _ :: _ :: _ :: _ :: _ :: _ :: _ :: _ :: _ :: _ :: _ :: _ :: _ :: _ :: _ :: _ :: _ :: _ :: _ :: _ :: _ :: _ :: _ :: _ :: _ :: _ :: _ :: _ :: _ :: _ :: _ :: _ :: _ :: _ :: _ :: _ :: _ :: _ :: _ :: _ :: _ :: _ :: _ :: _ :: _ :: _ :: _ :: _ :: _ :: _ :: _ :: _ :: _ :: _ :: _ :: _ :: _ :: _ :: _ :: _ :: _ :: _ :: _ :: _ :: _ :: _ :: _ :: _ :: _ :: _ :: _ :: _ :: _ :: _ :: _ :: _ :: _ :: _ :: _ :: _ :: _ :: _ :: _ :: _ :: _ :: []), defers := [] } _
            refine wpAnyH_take (i := 8) (v := .agg #[.slice ra9 rm.length rc9, .slice a9 rws.length c9]) rfl (by kernel_rfl) (by kernel_rfl) (by kernel_rfl) (fun _ _ _ h => h) (Or.inl ⟨by kernel_rfl, fun w hS => by go_simp⟩) hHeld ?_
            change wpAnyH _ _ _ _ _ _ _ { tmps := List.toArray (_ :: _ :: _ :: _ :: _ :: _ :: _ :: _ :: _ :: _ :: _ :: .pointer (some ⟨we.heap.size, 0, none⟩) :: _ :: _ :: _ :: _ :: _ :: _ :: _ :: _ :: _ :: _ :: _ :: _ :: _ :: _ :: _ :: _ :: _ :: _ :: _ :: _ :: _ :: _ :: _ :: _ :: _ :: _ :: _ :: _ :: _ :: _ :: _ :: _ :: _ :: _ :: _ :: _ :: _ :: _ :: _ :: _ :: _ :: _ :: _ :: _ :: _ :: _ :: _ :: _ :: _ :: _ :: _ :: _ :: _ :: _ :: _ :: _ :: _ :: _ :: _ :: _ :: _ :: _ :: _ :: _ :: _ :: _ :: _ :: _ :: _ :: .tuple #[.agg #[.slice ra9 rm.length rc9, .slice a9 rws.length c9], .int .i64 0] :: .agg #[.slice ra8 rm.length rc8, .slice a8 rws.length c8] :: .slice (some ⟨lb, lo, none⟩) l.length lc :: .int .i64 k :: .pointer (some ⟨lb, lo + k * 3, none⟩) :: .agg #[.int .i64 x.f, .int .i64 x.t, .int .i64 x.m] :: .agg #[.int .i64 x.t, .int .i64 x.f, .int .i64 x.m] :: .tuple #[.agg #[.slice ra9 rm.length rc9, .slice a9 rws.length c9], .int .i64 0] :: .agg #[.slice ra9 rm.length rc9, .slice a9 rws.length c9] :: _ :: _ :: _ :: _ :: _ :: _ :: _ :: _ :: _ :: _ :: _ :: _ :: _ :: _ :: _ :: _ :: _ :: _ :: _ :: _ :: _ :: _ :: _ :: _ :: _ :: _ :: _ :: _ :: _ :: _ :: _ :: _ :: _ :: _ :: _ :: _ :: _ :: _ :: _ :: _ :: _ :: _ :: _ :: _ :: _ :: _ :: _ :: _ :: _ :: _ :: _ :: _ :: _ :: _ :: _ :: _ :: _ :: _ :: _ :: _ :: _ :: _ :: _ :: _ :: _ :: _ :: _ :: _ :: _ :: _ :: _ :: _ :: _ :: _ :: _ :: _ :: _ :: _ :: _ :: _ :: _ :: _ :: _ :: _ :: _ :: _ :: _ :: _ :: _ :: _ :: _ :: _ :: _ :: _ :: []), defers := [] } _
            refine wpAnyH_take (i := 9) (v := .int .i64 0) rfl (by kernel_rfl) (by kernel_rfl) (by kernel_rfl) (fun _ _ _ h => h) (Or.inl ⟨by kernel_rfl, fun w hS => by go_simp⟩) hHeld ?_
            change wpAnyH _ _ _ _ _ _ _ { tmps := List.toArray (_ :: _ :: _ :: _ :: _ :: _ :: _ :: _ :: _ :: _ :: _ :: .pointer (some ⟨we.heap.size, 0, none⟩) :: _ :: _ :: _ :: _ :: _ :: _ :: _ :: _ :: _ :: _ :: _ :: _ :: _ :: _ :: _ :: _ :: _ :: _ :: _ :: _ :: _ :: _ :: _ :: _ :: _ :: _ :: _ :: _ :: _ :: _ :: _ :: _ :: _ :: _ :: _ :: _ :: _ :: _ :: _ :: _ :: _ :: _ :: _ :: _ :: _ :: _ :: _ :: _ :: _ :: _ :: _ :: _ :: _ :: _ :: _ :: _ :: _ :: _ :: _ :: _ :: _ :: _ :: _ :: _ :: _ :: _ :: _ :: _ :: _ :: .tuple #[.agg #[.slice ra9 rm.length rc9, .slice a9 rws.length c9], .int .i64 0] :: .agg #[.slice ra8 rm.length rc8, .slice a8 rws.length c8] :: .slice (some ⟨lb, lo, none⟩) l.length lc :: .int .i64 k :: .pointer (some ⟨lb, lo + k * 3, none⟩) :: .agg #[.int .i64 x.f, .int .i64 x.t, .int .i64 x.m] :: .agg #[.int .i64 x.t, .int .i64 x.f, .int .i64 x.m] :: .tuple #[.agg #[.slice ra9 rm.length rc9, .slice a9 rws.length c9], .int .i64 0] :: .agg #[.slice ra9 rm.length rc9, .slice a9 rws.length c9] :: .int .i64 0 :: _ :: _ :: _ :: _ :: _ :: _ :: _ :: _ :: _ :: _ :: _ :: _ :: _ :: _ :: _ :: _ :: _ :: _ :: _ :: _ :: _ :: _ :: _ :: _ :: _ :: _ :: _ :: _ :: _ :: _ :: _ :: _ :: _ :: _ :: _ :: _ :: _ :: _ :: _ :: _ :: _ :: _ :: _ :: _ :: _ :: _ :: _ :: _ :: _ :: _ :: _ :: _ :: _ :: _ :: _ :: _ :: _ :: _ :: _ :: _ :: _ :: _ :: _ :: _ :: _ :: _ :: _ :: _ :: _ :: _ :: _ :: _ :: _ :: _ :: _ :: _ :: _ :: _ :: _ :: _ :: _ :: _ :: _ :: _ :: _ :: _ :: _ :: _ :: _ :: _ :: _ :: _ :: _ :: []), defers := [] } _
            refine wpAnyH_ready (rs := [11]) (by kernel_rfl) (by simp) ?_
            refine (AllReadyH.cons rfl (fun KK hK => ?_) AllReadyH.nil)
            obtain ⟨⟨z0, z1⟩, y0, y1⟩ := blk2 zB
            have Kn := box_set (p := .slice ra9 rm.length rc9) (q := .slice a9 rws.length c9) zB
            have Sn := S8b.box (p := .slice ra9 rm.length rc9) (q := .slice a9 rws.length c9) zB
            have Bs : Below we.heap.size we ((w9.setCell ⟨we.heap.size, 0, none⟩ (.slice ra9 rm.length rc9)).setCell ⟨we.heap.size, 1, none⟩ (.slice a9 rws.length c9)) := below_set zlo (below_set zlo B8)
            go_simp
            clear hHeld
            refine hK.out _ _ (by obtain ⟨⟨k0, k1⟩, -⟩ := blk2 (blk_keep Bs Ke); exact ⟨k0, k1, ble Bs d2, ble Bs d3, ble Bs d4⟩) (fun hHeld => ?_)
            clear hK KK
            change wpAnyH _ _ _ _ _ _ _ { tmps := List.toArray (_ :: _ :: _ :: _ :: _ :: _ :: _ :: _ :: _ :: _ :: _ :: .pointer (some ⟨we.heap.size, 0, none⟩) :: _ :: _ :: _ :: _ :: _ :: _ :: _ :: _ :: _ :: _ :: _ :: _ :: _ :: _ :: _ :: _ :: _ :: _ :: _ :: _ :: _ :: _ :: _ :: _ :: _ :: _ :: _ :: _ :: _ :: _ :: _ :: _ :: _ :: _ :: _ :: _ :: _ :: _ :: _ :: _ :: _ :: _ :: _ :: _ :: _ :: _ :: _ :: _ :: _ :: _ :: _ :: _ :: _ :: _ :: _ :: _ :: _ :: _ :: _ :: _ :: _ :: _ :: _ :: _ :: _ :: _ :: _ :: _ :: _ :: .tuple #[.agg #[.slice ra9 rm.length rc9, .slice a9 rws.length c9], .int .i64 0] :: .agg #[.slice ra8 rm.length rc8, .slice a8 rws.length c8] :: .slice (some ⟨lb, lo, none⟩) l.length lc :: .int .i64 k :: .pointer (some ⟨lb, lo + k * 3, none⟩) :: .agg #[.int .i64 x.f, .int .i64 x.t, .int .i64 x.m] :: .agg #[.int .i64 x.t, .int .i64 x.f, .int .i64 x.m] :: .tuple #[.agg #[.slice ra9 rm.length rc9, .slice a9 rws.length c9], .int .i64 0] :: .agg #[.slice ra9 rm.length rc9, .slice a9 rws.length c9] :: .int .i64 0 :: _ :: _ :: _ :: _ :: _ :: _ :: _ :: _ :: _ :: _ :: _ :: _ :: _ :: _ :: _ :: _ :: _ :: _ :: _ :: _ :: _ :: _ :: _ :: _ :: _ :: _ :: _ :: _ :: _ :: _ :: _ :: _ :: _ :: _ :: _ :: _ :: _ :: _ :: _ :: _ :: _ :: _ :: _ :: _ :: _ :: _ :: _ :: _ :: _ :: _ :: _ :: _ :: _ :: _ :: _ :: _ :: _ :: _ :: _ :: _ :: _ :: _ :: _ :: _ :: _ :: _ :: _ :: _ :: _ :: _ :: _ :: _ :: _ :: _ :: _ :: _ :: _ :: _ :: _ :: _ :: _ :: _ :: _ :: _ :: _ :: _ :: _ :: _ :: _ :: _ :: _ :: _ :: _ :: []), defers := [] } _
            refine wpAnyH_take (i := 12) (v := .int .i64 0) rfl (by kernel_rfl) (by kernel_rfl) (by kernel_rfl) (fun _ _ _ h => h) (Or.inl ⟨by kernel_rfl, fun w hS => by go_simp⟩) hHeld ?_
            change wpAnyH _ _ _ _ _ _ _ { tmps := List.toArray (_ :: _ :: _ :: _ :: _ :: _ :: _ :: _ :: _ :: _ :: _ :: .pointer (some ⟨we.heap.size, 0, none⟩) :: .int .i64 0 :: _ :: _ :: _ :: _ :: _ :: _ :: _ :: _ :: _ :: _ :: _ :: _ :: _ :: _ :: _ :: _ :: _ :: _ :: _ :: _ :: _ :: _ :: _ :: _ :: _ :: _ :: _ :: _ :: _ :: _ :: _ :: _ :: _ :: _ :: _ :: _ :: _ :: _ :: _ :: _ :: _ :: _ :: _ :: _ :: _ :: _ :: _ :: _ :: _ :: _ :: _ :: _ :: _ :: _ :: _ :: _ :: _ :: _ :: _ :: _ :: _ :: _ :: _ :: _ :: _ :: _ :: _ :: _ :: .tuple #[.agg #[.slice ra9 rm.length rc9, .slice a9 rws.length c9], .int .i64 0] :: .agg #[.slice ra8 rm.length rc8, .slice a8 rws.length c8] :: .slice (some ⟨lb, lo, none⟩) l.length lc :: .int .i64 k :: .pointer (some ⟨lb, lo + k * 3, none⟩) :: .agg #[.int .i64 x.f, .int .i64 x.t, .int .i64 x.m] :: .agg #[.int .i64 x.t, .int .i64 x.f, .int .i64 x.m] :: .tuple #[.agg #[.slice ra9 rm.length rc9, .slice a9 rws.length c9], .int .i64 0] :: .agg #[.slice ra9 rm.length rc9, .slice a9 rws.length c9] :: .int .i64 0 :: _ :: _ :: _ :: _ :: _ :: _ :: _ :: _ :: _ :: _ :: _ :: _ :: _ :: _ :: _ :: _ :: _ :: _ :: _ :: _ :: _ :: _ :: _ :: _ :: _ :: _ :: _ :: _ :: _ :: _ :: _ :: _ :: _ :: _ :: _ :: _ :: _ :: _ :: _ :: _ :: _ :: _ :: _ :: _ :: _ :: _ :: _ :: _ :: _ :: _ :: _ :: _ :: _ :: _ :: _ :: _ :: _ :: _ :: _ :: _ :: _ :: _ :: _ :: _ :: _ :: _ :: _ :: _ :: _ :: _ :: _ :: _ :: _ :: _ :: _ :: _ :: _ :: _ :: _ :: _ :: _ :: _ :: _ :: _ :: _ :: _ :: _ :: _ :: _ :: _ :: _ :: _ :: _ :: []), defers := [] } _
            refine wpAnyH_done (by kernel_rfl) ?_ _
            generalize (w9.setCell ⟨we.heap.size, 0, none⟩ (.slice ra9 rm.length rc9)).setCell ⟨we.heap.size, 1, none⟩ (.slice a9 rws.length c9) = wf at *
            have Hf := He.below Bs
            have Nf := Ne.below Bs
            have Kf := blk_keep Bs Ke
            have Sf := Se.below Bs
            clear Bs B8 lo8 Ba zB zlo
            generalize we.heap.size = Q at *
            obtain ⟨⟨b0, b1⟩, -⟩ := blk2 Kn
            obtain ⟨⟨n0, n1⟩, -⟩ := blk2 Nf.kN
            rw [hun.out.2.1] at Sn
            have CY := cYardO _ _ _ _ _ _ vs8b vsn rm rk rk _ Sn Nf.sid hPk.out hPk.out (fun i => .inl rfl)
            rw [decide_eq_true rfl] at CY
            clear CO CU S8b He Ne Ke Se d0 d1 d2 d3 d4
            go_wp2_with fail
            refine CY.mono ?_
            rintro e wg ⟨rfl, bg⟩
            have Hg := Hf.below bg
            have Ng := Nf.below bg
            have Kg := blk_keep bg Kf
            have Sg := Sf.below bg
            obtain ⟨⟨m0, m1⟩, -⟩ := blk2 Kg
            obtain ⟨⟨n0, n1⟩, -⟩ := blk2 Ng.kN
            have CY2 := cYardO _ _ _ _ _ _ vs8 vsn rm (leftS rm rk x) rk _ Sg Ng.sid (hPk.out.left x) hPk.out (fun i => left_diff x i)
            rw [decide_eq_false hun.out.2.2] at CY2
            clear CY Hf Nf Kf Sf Kn Sn b0 b1 bg
            go_wp2_with fail
            refine CY2.mono ?_
            rintro e wq ⟨rfl, bq⟩
            have Hq := Hg.below bq
            have Nq := Ng.below bq
            have Kq := blk_keep bq Kg
            have Sq := Sg.below bq
            clear CY2 Hg Ng Kg Sg bq m0 m1 n0 n1
            obtain ⟨⟨m0, m1⟩, -⟩ := blk2 Kq
            obtain ⟨⟨n0, n1⟩, g0, g1⟩ := blk2 Nq.kN
            have Hz := Hq.box (p := .slice ra8 rm.length rc8) (q := .slice a8 rws.length c8) Nq.kN hAN hLN hwN
            have Nz := NowS.next Sq Nq.kN
            clear Hq Nq Kq Sq
            go_wp2
            go_roundw
            case rel => exact ⟨k + 1, _, _, _, _, vs8, by omega, by go_num, Hz, by rw [hnx.out]; exact Nz⟩
            case measure => simp [intOf]; omega
        · have hsame := hide (left_same (room := rm) (rows := rk) (x := x) (by rw [hcd.out]; exact h0))
          obtain ⟨⟨m0, m1⟩, -⟩ := blk2 Kp
          obtain ⟨⟨n0, n1⟩, -⟩ := blk2 Np.kN
          have CY := cYardO _ _ _ _ _ _ vs8 vsn rm (leftS rm rk x) rk _ Sp Np.sid (hPk.out.left x) hPk.out (fun i => left_diff x i)
          rw [decide_eq_true hsame.out] at CY
          go_wp2_with fail
          refine CY.mono ?_
          rintro e wq ⟨rfl, bq⟩
          have Hq := Hp.below bq
          have Nq := Np.below bq
          have Kq := blk_keep bq Kp
          have Sq := Sp.below bq
          clear CY Hp Np Kp Sp bq m0 m1 n0 n1
          obtain ⟨⟨m0, m1⟩, -⟩ := blk2 Kq
          obtain ⟨⟨n0, n1⟩, g0, g1⟩ := blk2 Nq.kN
          have Hz := Hq.box (p := .slice ra8 rm.length rc8) (q := .slice a8 rws.length c8) Nq.kN hAN hLN hwN
          have Nz := NowS.next Sq Nq.kN
          clear Hq Nq Kq Sq
          go_wp2
          go_roundw
          case rel => exact ⟨k + 1, _, _, _, _, vs8, by omega, by go_num, Hz, by rw [hnx.out]; exact Nz⟩
          case measure => simp [intOf]; omega
        
    · obtain rfl : k = l.length := by omega
      rw [List.take_length, hrwl.out] at NW
      have hQ : SidP rm rwl := by rw [← hrwl.out]; exact hP.play
      have hsum : Hid (sm rwl rws.length = sm rws rws.length) := hide (by rw [← hrwl.out]; exact play_sum)
      go_wp2
      go_loopw [13, 14, 15, 16, 17] (fun c i _ _ _ wr => ∃ k : Nat, k ≤ rws.length ∧ i = .int .i64 k ∧ c = .int .i64 ((sm rws k : Int) - (sm rwl k : Int)) ∧ HdS w A L (.slice ra rm.length rc) (.slice ta rws.length tc) vs (.slice ral rm.length rcl) (.slice tal rws.length tcl) vsl rm rws rwl (.slice ca l.length cc) cs (.slice la l.length lc) l wr ∧ NowS w N (.slice ran rm.length rcn) (.slice tan rws.length tcn) vsn rm rwl wr) (fun _ i _ _ _ _ => rws.length - (intOf i).toNat)
      case atStart => exact ⟨0, by omega, rfl, by rw [sm_zero, sm_zero]; rfl, H, NW⟩
      case round =>
        clear H NW
        obtain ⟨k, hk, rfl, rfl, H, NW⟩ := hrel
        by_cases hlt : k < rws.length
        · have hlt2 : k < rwl.length := by have := hrl.out; omega
          obtain ⟨b1, o1, rfl⟩ : ∃ b off, ta = some ⟨b, off, none⟩ := by
            rcases H.sid.tab.rowsW.cell with h | ⟨b, o, h, -⟩
            · simp [h] at hlt
            · exact ⟨b, o, h⟩
          obtain ⟨b2, o2, rfl⟩ : ∃ b off, tal = some ⟨b, off, none⟩ := by
            rcases H.last.tab.rowsW.cell with h | ⟨b, o, h, -⟩
            · simp [h] at hlt2
            · exact ⟨b, o, h⟩
          obtain ⟨x1, d1, hx1⟩ := tabAt H.sid.tab hlt
          obtain ⟨x2, d2, hx2⟩ := tabAt H.last.tab hlt2
          have f1 := H.sid.tab
          have hX40 := hP.len40 hlt
          have hY40 := hQ.len40 hlt2
          obtain ⟨⟨-, pA⟩, -⟩ := blk2 H.kA
          obtain ⟨⟨-, pL⟩, -⟩ := blk2 H.kL
          have p1 := hx1.1
          have p2 := hx2.1
          have hb1 := sm_bound hP k (by omega)
          have hb2 := sm_bound hQ k (by omega)
          have hc2 : Hid (((sm rws (k + 1) : Nat) : Int) - ((sm rwl (k + 1) : Nat) : Int) = (sm rws k : Int) - (sm rwl k : Int) + ((rwA rws k).length : Int) - ((rwA rwl k).length : Int)) := hide (by rw [sm_succ hlt, sm_succ hlt2]; omega)
          have hm6 := hP.n6
          obtain ⟨cI, hcI⟩ : ∃ cI : Int, (sm rws k : Int) - (sm rwl k : Int) = cI := ⟨_, rfl⟩
          have hcb : -1000 ≤ cI ∧ cI ≤ 1000 := by omega
          rw [hcI] at hc2 ⊢
          have hXd := hide (show (rwA rws k).length = (rwA rws k).length from rfl)
          generalize hX : (rwA rws k).length = X at *
          generalize hY : (rwA rwl k).length = Y at *
          replace hX := hide hX
          clear hXd hY f1 hx1 hx2 hcI hb1 hb2
          go_wp2
          go_quiet (fail)
          go_wp2
          go_loopw [15, 16, 17] (fun jj _ _ wr => ∃ j : Nat, j ≤ X ∧ jj = .int .i64 j ∧ HdS w A L (.slice ra rm.length rc) (.slice (some ⟨b1, o1, none⟩) rws.length tc) vs (.slice ral rm.length rcl) (.slice (some ⟨b2, o2, none⟩) rws.length tcl) vsl rm rws rwl (.slice ca l.length cc) cs (.slice la l.length lc) l wr ∧ NowS w N (.slice ran rm.length rcn) (.slice tan rws.length tcn) vsn rm rwl wr) (fun jj _ _ _ => X - (intOf jj).toNat)
          case atStart => exact ⟨0, by omega, rfl, H.below (bdraw (Below.refl _ _) _), NW.below (bdraw (Below.refl _ _) _)⟩
          case round =>
            clear H NW pA pL p1 p2
            obtain ⟨j, hj, rfl, H, NW⟩ := hrel
            obtain ⟨x1, d1, p1, I1⟩ := tabAt H.sid.tab hlt
            rw [hX.out] at p1
            obtain ⟨⟨-, pA⟩, -⟩ := blk2 H.kA
            by_cases hjl : j < X
            · obtain ⟨y, hy⟩ : ∃ y, (rwA rws k).getD j 0 = y := ⟨_, rfl⟩
              have hone : Hid (inRows rwl y = 1) := hide (by rw [← hrwl.out, ← hy]; exact play_one hP hlt (by rw [hX.out]; exact hjl))
              replace hy := hide hy
              clear I1
              go_wp2
              go_loopw [16, 17] (fun f mm wr => ∃ m : Nat, m ≤ rws.length ∧ mm = .int .i64 m ∧ f = .int .i64 (inRows (rwl.take m) y) ∧ HdS w A L (.slice ra rm.length rc) (.slice (some ⟨b1, o1, none⟩) rws.length tc) vs (.slice ral rm.length rcl) (.slice (some ⟨b2, o2, none⟩) rws.length tcl) vsl rm rws rwl (.slice ca l.length cc) cs (.slice la l.length lc) l wr ∧ NowS w N (.slice ran rm.length rcn) (.slice tan rws.length tcn) vsn rm rwl wr) (fun _ mm _ => rws.length - (intOf mm).toNat)
              case atStart => exact ⟨0, by omega, rfl, by simp [inRows], H, NW⟩
              case round =>
                clear H NW pA p1
                obtain ⟨m, hm, rfl, rfl, H, NW⟩ := hrel
                obtain ⟨⟨-, pA⟩, -⟩ := blk2 H.kA
                obtain ⟨⟨-, pL⟩, -⟩ := blk2 H.kL
                by_cases hml : m < rws.length
                · have hml2 : m < rwl.length := by have := hrl.out; omega
                  obtain ⟨z1, c1, p1, I1⟩ := tabAt H.sid.tab hlt
                  obtain ⟨z2, c2, p2, I2⟩ := tabAt H.last.tab hml2
                  rw [hX.out] at p1
                  obtain ⟨g1, og, rfl, hq1⟩ : ∃ b off, z1 = some ⟨b, off, none⟩ ∧ ∀ i, i < (rwA rws k).length → wr.cell? ⟨b, off + i, none⟩ = some (.int .i64 ((rwA rws k).getD i 0)) := by
                    rcases I1 with q | q
                    · have := hX.out; rw [q] at this; simp at this; omega
                    · exact q
                  have e1 := hq1 j (by rw [hX.out]; exact hjl)
                  rw [hy.out] at e1
                  have hlm := hQ.len40 hml2
                  have CW := fun w9 (hb : Below wr.heap.size wr w9) => cWithinL z2 c2 (rwA rwl m) y w9 (I2.below hb) (by omega)
                  have hin := inRows_take (a := y) hml2
                  have hF : inRows (rwl.take m) y ≤ m := Nat.le_trans List.countP_le_length (by rw [List.length_take]; omega)
                  generalize inRows (rwl.take m) y = F at *
                  obtain ⟨dm, hdm⟩ : ∃ dm, decide (y ∈ rwA rwl m) = dm := ⟨_, rfl⟩
                  rw [hdm] at CW
                  replace hin := hide hin
                  replace hdm := hide hdm
                  generalize (rwA rwl m).length = Z at *
                  clear I1 I2 hq1
                  go_wp2
                  go_quiet ((go_at_call 19; with_reducible exact Calls.quiet_of_same (CW _ (bdraw (Below.refl _ _) _))))
                  clear CW p1 p2 pA pL e1
                  cases dm
                  · have hnx2 : inRows (rwl.take (m + 1)) y = F := by rw [hin.out, if_neg (of_decide_eq_false hdm.out), Nat.add_zero]
                    replace hnx2 := hide hnx2
                    go_wp2
                    go_roundw
                    case rel => exact ⟨m + 1, by omega, by go_num, by rw [hnx2.out], H.below (bdraw (Below.refl _ _) _), NW.below (bdraw (Below.refl _ _) _)⟩
                    case measure => simp [intOf]; omega
                  · have hnx2 : inRows (rwl.take (m + 1)) y = F + 1 := by rw [hin.out, if_pos (of_decide_eq_true hdm.out)]
                    replace hnx2 := hide hnx2
                    go_wp2
                    go_roundw
                    case rel => exact ⟨m + 1, by omega, by go_num, by rw [hnx2.out]; go_num, H.below (bdraw (Below.refl _ _) _), NW.below (bdraw (Below.refl _ _) _)⟩
                    case measure => simp [intOf]; omega
                · obtain rfl : m = rws.length := by omega
                  have e9 : inRows (rwl.take rws.length) y = 1 := by rw [← hrl.out, List.take_length]; exact hone.out
                  rw [e9]
                  clear e9
                  go_wp2
                  go_roundw
                  case rel => exact ⟨j + 1, by omega, by go_num, H, NW⟩
                  case measure => simp [intOf]; omega
            · obtain rfl : j = X := by omega
              clear I1
              go_wp2
              go_roundw
              case rel => exact ⟨k + 1, by omega, by go_num, by rw [hc2.out], H, NW⟩
              case measure => simp [intOf]; omega
        · obtain rfl : k = rws.length := by omega
          rw [hsum.out]
          have e0 : (sm rws rws.length : Int) - (sm rws rws.length : Int) = 0 := by omega
          rw [e0]
          have CP := cPlayO _ _ _ _ _ vs rm rws l _ H.sid H.list hP hll
          rw [hrwl.out] at CP
          obtain ⟨⟨pA0, pA1⟩, -⟩ := blk2 H.kA
          clear e0
          go_wp2_with fail
          refine CP.2.mono ?_
          rintro e w7 ⟨rv7, v7, vs7, cv7, rfl, S7, -, -, b7⟩
          obtain ⟨ra7, rc7, a7, c7, rfl, hv7, -⟩ := S7.arg
          rw [hrl.out] at hv7
          subst hv7
          clear CP pA0 pA1
          have b8 := balloc w7 (.cells #[.slice ra7 rm.length rc7, .slice a7 rws.length c7] 27)
          have K8 := heap_alloc_new w7 (.cells #[.slice ra7 rm.length rc7, .slice a7 rws.length c7] 27)
          have H8 := (H.below b7).below b8
          have N8 := (NW.below b7).below b8
          have S8 := S7.below b8
          obtain ⟨⟨n0, n1⟩, -⟩ := blk2 N8.kN
          obtain ⟨⟨m0, m1⟩, -⟩ := blk2 H8.kL
          have CY := cYardO _ _ _ _ _ _ vsn vsl rm rwl rwl _ N8.sid H8.last hQ hQ (fun i => .inl rfl)
          rw [decide_eq_true rfl] at CY
          clear H NW b7 b8 S7
          go_wp2_with fail
          refine CY.mono ?_
          clear CY n0 n1 m0 m1
          generalize w7.alloc (.cells #[.slice ra7 rm.length rc7, .slice a7 rws.length c7] 27) = W8 at *
          rintro e w9 ⟨rfl, b9⟩
          have H9 := H8.below b9
          have K9 := blk_keep b9 K8
          have S9 := S8.below b9
          obtain ⟨⟨m0, m1⟩, -⟩ := blk2 H9.kL
          obtain ⟨⟨n0, n1⟩, -⟩ := blk2 K9
          have CY := cYardO _ _ _ _ _ _ vs7 vsl rm rwl rwl _ S9 H9.last hQ hQ (fun i => .inl rfl)
          rw [decide_eq_true rfl] at CY
          go_wp2_with fail
          refine CY.mono ?_
          rintro e w10 ⟨rfl, b10⟩
          have hfin := (H9.below b10).bel
          clear CY
          go_wp2
          go_ret
          exact ⟨rfl, hfin⟩
end Go.Proofs.Ytipechbhhpagiaa
