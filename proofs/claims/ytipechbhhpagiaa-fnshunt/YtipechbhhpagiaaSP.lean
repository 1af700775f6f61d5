/- PlayShunts of the model. -/
import Derived.Test.YtipechbhhpagiaaCP
import Derived.Test.YtipechbhhpagiaaSO
namespace Go.Proofs.Ytipechbhhpagiaa
open Go.RowKit
set_option maxRecDepth 20000 in
set_option maxHeartbeats 12800000 in
theorem cPlayS (ra : Option Addr) (rc : Nat) (room : List Int) (a : Option Addr) (c : Nat) (us : List Value) (rows : List (List Int)) (la : Option Addr) (lc : Nat) (l : List ShV) (w : World) (hM : Ints w ra room) (hR : RowsW w a us rows) (hL : Shs w la l) (lM : room.length ≤ 1048576) (lR : rows.length ≤ 1048576) (lr : ∀ i, i < rows.length → (rwA rows i).length ≤ 1048576) (lL : l.length ≤ 1048576) :
    Calls Try.prog 20 #[.agg #[.slice ra room.length rc, .slice a rows.length c], .slice la l.length lc] w (AnsPl w room (plR room rows l) (plC room rows l)) := by
  obtain ⟨i0, hi, hz0, hz1, hz2⟩ := info_parts infoInts
  obtain ⟨HB, A0, A2, hz⟩ := al2 w (.cells #[.slice ra room.length rc, .slice a rows.length c] 27) (.cells #[.slice none 0 0, .slice none 0 0] 27)
  have CS := fun w h1 h2 => cSidS ra rc room a c us rows w h1 h2 lr
  unfold sidVal at CS
  go_enter Try.func20, Try.ntmps20
  go_wp2_with fail
  generalize (w.alloc (Obj.cells #[Value.slice ra room.length rc, Value.slice a rows.length c] 27)).alloc (Obj.cells #[Value.slice none 0 0, Value.slice none 0 0] 27) = W at *
  refine (CS _ (hM.below HB) (hR.below HB)).mono ?_
  rintro e w1 ⟨rfl, hb⟩
  replace HB := btrans HB hb
  replace A0 := blk_keep hb A0
  replace A2 := blk_keep hb A2
  have hs1 : w.heap.size + 1 < w1.heap.size := lt_of_block A2
  clear hb CS
  replace hz := hide hz
  obtain ⟨⟨x0, x1⟩, -⟩ := blk2 A0
  cases hok : sidB room rows
  · have hno := hide (pl_no (l := l) (fun h => by have := sidB_iff.2 h.1; rw [this] at hok; cases hok))
    clear hok
    go_wp2_with fail
    refine (cCopyS ra rc room a c us rows _ (hM.below HB) (hR.below HB) lM lR lr).mono ?_
    rintro e w2 ⟨ra2, rc2, a2, c2, vs2, rfl, hS, -, hb⟩
    replace A2 := blk_keep hb A2
    have HB2 := btrans HB hb
    obtain ⟨⟨r0, r1⟩, f0, f1⟩ := blk2 A2
    have hSV := hS.box (p := .slice ra2 room.length rc2) (q := .slice a2 rows.length c2) A2
    have KV := box_set (p := .slice ra2 room.length rc2) (q := .slice a2 rows.length c2) A2
    have HBV : Below w.heap.size w ((w2.setCell ⟨w.heap.size + 1, 0, none⟩ (.slice ra2 room.length rc2)).setCell ⟨w.heap.size + 1, 1, none⟩ (.slice a2 rows.length c2)) := below_set (by omega) (below_set (by omega) HB2)
    obtain ⟨⟨v0, v1⟩, -⟩ := blk2 KV
    have hlo := HB.size
    clear hS HB2 hb HB A2 KV x0 x1
    go_wp2
    generalize (w2.setCell ⟨w.heap.size + 1, 0, none⟩ (.slice ra2 room.length rc2)).setCell ⟨w.heap.size + 1, 1, none⟩ (.slice a2 rows.length c2) = V at *
    refine bodyPost_ret (v := .tuple #[.agg #[.slice ra2 room.length rc2, .slice a2 rows.length c2], .slice none 0 0]) (by simp [results, Try.results20, v0, v1, go_sem]) rfl ?_
    exact ⟨_, _, _, _, rfl, by rw [hno.out.1]; exact hSV.base hlo, by rw [hno.out.2]; exact World.ownsRow_nil _ _ _ _, fun k hk => by simp [Value.ownBlock] at hk, HBV⟩
  by_cases h200 : 200 < l.length
  · have hno := hide (pl_no (room := room) (rows := rows) (l := l) (fun h => by have := h.2; omega))
    clear hok
    go_wp2_with fail
    refine (cCopyS ra rc room a c us rows _ (hM.below HB) (hR.below HB) lM lR lr).mono ?_
    rintro e w2 ⟨ra2, rc2, a2, c2, vs2, rfl, hS, -, hb⟩
    replace A2 := blk_keep hb A2
    have HB2 := btrans HB hb
    obtain ⟨⟨r0, r1⟩, f0, f1⟩ := blk2 A2
    have hSV := hS.box (p := .slice ra2 room.length rc2) (q := .slice a2 rows.length c2) A2
    have KV := box_set (p := .slice ra2 room.length rc2) (q := .slice a2 rows.length c2) A2
    have HBV : Below w.heap.size w ((w2.setCell ⟨w.heap.size + 1, 0, none⟩ (.slice ra2 room.length rc2)).setCell ⟨w.heap.size + 1, 1, none⟩ (.slice a2 rows.length c2)) := below_set (by omega) (below_set (by omega) HB2)
    obtain ⟨⟨v0, v1⟩, -⟩ := blk2 KV
    have hlo := HB.size
    clear hS HB2 hb HB A2 KV x0 x1
    go_wp2
    generalize (w2.setCell ⟨w.heap.size + 1, 0, none⟩ (.slice ra2 room.length rc2)).setCell ⟨w.heap.size + 1, 1, none⟩ (.slice a2 rows.length c2) = V at *
    refine bodyPost_ret (v := .tuple #[.agg #[.slice ra2 room.length rc2, .slice a2 rows.length c2], .slice none 0 0]) (by simp [results, Try.results20, v0, v1, go_sem]) rfl ?_
    exact ⟨_, _, _, _, rfl, by rw [hno.out.1]; exact hSV.base hlo, by rw [hno.out.2]; exact World.ownsRow_nil _ _ _ _, fun k hk => by simp [Value.ownBlock] at hk, HBV⟩
  have hyes := hide (pl_yes (l := l) ⟨sidB_iff.1 hok, by omega⟩)
  have hP0 := hide (sidB_iff.1 hok)
  have hn200 : ¬ ((200 : Int) < (l.length : Int)) := by omega
  clear hok
  go_wp2_with fail
  refine (cCopyS ra rc room a c us rows _ (hM.below HB) (hR.below HB) lM lR lr).mono ?_
  rintro e w2 ⟨ra2, rc2, a2, c2, vs2, rfl, hS, -, hb⟩
  have hlo2 := HB.size
  replace A2 := blk_keep hb A2
  replace HB := btrans HB hb
  clear hb x0 x1 A0
  have hb := balloc w2 (.cells #[.slice ra2 room.length rc2, .slice a2 rows.length c2] 27)
  have KO := heap_alloc_new w2 (.cells #[.slice ra2 room.length rc2, .slice a2 rows.length c2] 27)
  have hOs : w.heap.size + 1 < w2.heap.size := lt_of_block A2
  have hb2 := balloc (w2.alloc (.cells #[.slice ra2 room.length rc2, .slice a2 rows.length c2] 27)) (.cells #[] 3)
  have hO0 : ((w2.alloc (.cells #[.slice ra2 room.length rc2, .slice a2 rows.length c2] 27)).alloc (.cells #[] 3)).ownsRow w.heap.size 3 1 (.slice (some ⟨w2.heap.size + 1, 0, none⟩) 0 0) 0 (enc (playC room rows (l.take 0))) := by
    have := World.ownsRow_made (base := w.heap.size) (e := 3) (size := 1) (w2.alloc (.cells #[.slice ra2 room.length rc2, .slice a2 rows.length c2] 27)) #[] 0 (by simp; omega) (by unfold maxLen; omega) rfl
    rw [sz1] at this
    exact this
  have A20 := blk_keep hb2 (blk_keep hb A2)
  have KO0 := blk_keep hb2 KO
  have HB0 := btrans (btrans HB hb) hb2
  have hS0 : SidO w.heap.size ((w2.alloc (.cells #[.slice ra2 room.length rc2, .slice a2 rows.length c2] 27)).alloc (.cells #[] 3)) (.slice ra2 room.length rc2) (.slice a2 rows.length c2) vs2 room (playR room rows (l.take 0)) := by simpa [playR] using ((hS.base hlo2).below hb).below hb2
  have hfar0 : ∀ b, (Value.slice (some ⟨w2.heap.size + 1, 0, none⟩) 0 0).ownBlock = some b → ¬ SidB (.slice ra2 room.length rc2) (.slice a2 rows.length c2) vs2 b := fun b hb hh => by
    have := (hS.blk b hh).2
    simp [Value.ownBlock] at hb
    omega
  clear hS hb hb2 A2 HB KO
  go_wp2
  generalize hOO : w2.heap.size = O at *
  go_loopw [7, 8, 9, 10] (fun cv i _ _ wr => ∃ (k : Nat) (ra1 : Option Addr) (rc1 : Nat) (a1 : Option Addr) (c1 : Nat) (vs : List Value), k ≤ l.length ∧ i = .int .i64 k ∧ SidO w.heap.size wr (.slice ra1 room.length rc1) (.slice a1 rows.length c1) vs room (playR room rows (l.take k)) ∧ wr.ownsRow w.heap.size 3 1 cv k (enc (playC room rows (l.take k))) ∧ (∀ b, cv.ownBlock = some b → ¬ SidB (.slice ra1 room.length rc1) (.slice a1 rows.length c1) vs b) ∧ wr.heap[w.heap.size + 1]? = some (.cells #[.slice none 0 0, .slice none 0 0] 27 (0, 0)) ∧ wr.heap[O]? = some (.cells #[.slice ra1 room.length rc1, .slice a1 rows.length c1] 27 (0, 0)) ∧ Below w.heap.size w wr) (fun _ i _ _ _ => l.length - (intOf i).toNat)
  case atStart => exact ⟨0, _, _, _, _, vs2, by omega, rfl, hS0, hO0, hfar0, A20, KO0, HB0⟩
  case round =>
    obtain ⟨k, ra1, rc1, a1, c1, vs, hk, rfl, hS, hO, hfar, A2, KO, HB⟩ := hrel
    clear hS0 hO0 hfar0 A20 KO0 HB0
    obtain ⟨ca, cc, hcv⟩ := own_form hO
    by_cases hlt : k < l.length
    · obtain ⟨lb, lo, rfl, hcl⟩ : ∃ b off, la = some ⟨b, off, none⟩ ∧ ∀ i, i < l.length → w.cell? ⟨b, off + i * 3, none⟩ = some (.int .i64 (l.getD i ShV.zero).f) ∧ w.cell? ⟨b, off + i * 3 + 1, none⟩ = some (.int .i64 (l.getD i ShV.zero).t) ∧ w.cell? ⟨b, off + i * 3 + 2, none⟩ = some (.int .i64 (l.getD i ShV.zero).m) := by
        rcases hL with q | q
        · simp [q] at hlt
        · exact q
      subst hcv
      obtain ⟨p0, p1, p2⟩ := shs_at hcl hlt
      have hst := hide (List.take_succ_eq_append_getElem hlt)
      generalize hxk : l[k] = x at *
      have hbd : Below wr.heap.size wr wr.drew := bdraw (Below.refl _ _) 1
      have HBd : Below w.heap.size w wr.drew := bdraw HB 1
      have d2 := ble HBd p0
      have d3 := ble HBd p1
      have d4 := ble HBd p2
      have KOd := blk_keep hbd KO
      have A2d := blk_keep hbd A2
      have hOd := own_keep hO hbd
      have hSd := hS.below hbd
      obtain ⟨⟨d0, d1⟩, -⟩ := blk2 KOd
      have hPk := hP0.out.play (xs := l.take k)
      have hnr : playR room rows (l.take (k + 1)) = leftS room (playR room rows (l.take k)) x := by rw [hst.out]; exact playR_snoc x
      have hnc : playC room rows (l.take (k + 1)) = playC room rows (l.take k) ++ [codeS room (playR room rows (l.take k)) x] := by rw [hst.out]; exact playC_snoc x
      have hl9 : (playR room rows (l.take k)).length = rows.length := playR_len
      have hone := one_yes hPk x
      have hlr9 : ∀ i, i < (playR room rows (l.take k)).length → (rwA (playR room rows (l.take k)) i).length ≤ 1048576 := fun i hi => by have := hPk.len40 hi; omega
      obtain ⟨ra9, rc9, a9, c9, e1, e2, I1, R1, -⟩ := hSd.arg
      have CO := fun w9 h1 h2 => cOneS ra9 rc9 room a9 c9 vs (playR room rows (l.take k)) x w9 h1 h2 lM (by omega) hlr9
      unfold OnePost at CO
      rw [hone.1, hone.2, ← e1, ← e2] at CO
      have hl8 : Hid ((leftS room (playR room rows (l.take k)) x).length = rows.length) := hide (by rw [leftS_len, hl9])
      unfold ShV.val at CO
      have hsd : w.heap.size ≤ wr.drew.heap.size := HBd.size
      replace hnr := hide hnr
      replace hnc := hide hnc
      clear hcl hS hO A2 KO hst hxk hPk hone hl9 hlr9 e1 e2 hSd hfar
      generalize playR room rows (l.take k) = rk at *
      generalize hcd : codeS room rk x = cd at *
      go_wp2_with fail
      refine wp_region_held_drew (S := (fun w' => w'.cell? ⟨O, 0, none⟩ = some (.slice ra1 room.length rc1) ∧ w'.cell? ⟨O, 1, none⟩ = some (.slice a1 rows.length c1) ∧ w'.cell? ⟨lb, lo + k * 3, none⟩ = some (.int .i64 x.f) ∧ w'.cell? ⟨lb, lo + k * 3 + 1, none⟩ = some (.int .i64 x.t) ∧ w'.cell? ⟨lb, lo + k * 3 + 2, none⟩ = some (.int .i64 x.m))) (by kernel_rfl) ?_ (fun hHeld => ?_)
      · exact ⟨d0, d1, d2, d3, d4⟩
      have B0 : Below wr.drew.heap.size wr.drew wr.drew := Below.refl _ _
      generalize wr.drew = wd at *
      refine wpAnyH_take (i := 0) (v := .agg #[.slice ra1 room.length rc1, .slice a1 rows.length c1]) rfl (by kernel_rfl) (by kernel_rfl) (by kernel_rfl) (fun _ _ _ h => h) (Or.inl ⟨by kernel_rfl, fun w hS => by (obtain ⟨hS0, hS1, hS2, hS3, hS4⟩ := hS; go_simp)⟩) hHeld ?_
      change wpAnyH _ _ _ _ _ _ _ { tmps := List.toArray (_ :: _ :: _ :: _ :: _ :: _ :: _ :: _ :: _ :: _ :: _ :: _ :: _ :: _ :: _ :: _ :: _ :: _ :: _ :: _ :: _ :: _ :: _ :: _ :: _ :: _ :: _ :: _ :: _ :: _ :: _ :: .agg #[.slice ra1 room.length rc1, .slice a1 rows.length c1] :: _ :: _ :: _ :: _ :: _ :: _ :: _ :: _ :: _ :: _ :: _ :: _ :: _ :: _ :: []), defers := [] } _
      refine wpAnyH_take (i := 1) (v := .slice (some ⟨lb, lo, none⟩) l.length lc) rfl (by kernel_rfl) (by kernel_rfl) (by kernel_rfl) (fun _ _ _ h => h) (Or.inl ⟨by kernel_rfl, fun w hS => by go_simp⟩) hHeld ?_
      change wpAnyH _ _ _ _ _ _ _ { tmps := List.toArray (_ :: _ :: _ :: _ :: _ :: _ :: _ :: _ :: _ :: _ :: _ :: _ :: _ :: _ :: _ :: _ :: _ :: _ :: _ :: _ :: _ :: _ :: _ :: _ :: _ :: _ :: _ :: _ :: _ :: _ :: _ :: .agg #[.slice ra1 room.length rc1, .slice a1 rows.length c1] :: .slice (some ⟨lb, lo, none⟩) l.length lc :: _ :: _ :: _ :: _ :: _ :: _ :: _ :: _ :: _ :: _ :: _ :: _ :: _ :: []), defers := [] } _
      refine wpAnyH_take (i := 2) (v := .int .i64 k) rfl (by kernel_rfl) (by kernel_rfl) (by kernel_rfl) (fun _ _ _ h => h) (Or.inl ⟨by kernel_rfl, fun w hS => by go_simp⟩) hHeld ?_
      change wpAnyH _ _ _ _ _ _ _ { tmps := List.toArray (_ :: _ :: _ :: _ :: _ :: _ :: _ :: _ :: _ :: _ :: _ :: _ :: _ :: _ :: _ :: _ :: _ :: _ :: _ :: _ :: _ :: _ :: _ :: _ :: _ :: _ :: _ :: _ :: _ :: _ :: _ :: .agg #[.slice ra1 room.length rc1, .slice a1 rows.length c1] :: .slice (some ⟨lb, lo, none⟩) l.length lc :: .int .i64 k :: _ :: _ :: _ :: _ :: _ :: _ :: _ :: _ :: _ :: _ :: _ :: _ :: []), defers := [] } _
      refine wpAnyH_take (i := 3) (v := .pointer (some ⟨lb, lo + k * 3, none⟩)) rfl (by kernel_rfl) (by kernel_rfl) (by kernel_rfl) (fun _ _ _ h => h) (Or.inl ⟨by kernel_rfl, fun w hS => by go_simp⟩) hHeld ?_
      change wpAnyH _ _ _ _ _ _ _ { tmps := List.toArray (_ :: _ :: _ :: _ :: _ :: _ :: _ :: _ :: _ :: _ :: _ :: _ :: _ :: _ :: _ :: _ :: _ :: _ :: _ :: _ :: _ :: _ :: _ :: _ :: _ :: _ :: _ :: _ :: _ :: _ :: _ :: .agg #[.slice ra1 room.length rc1, .slice a1 rows.length c1] :: .slice (some ⟨lb, lo, none⟩) l.length lc :: .int .i64 k :: .pointer (some ⟨lb, lo + k * 3, none⟩) :: _ :: _ :: _ :: _ :: _ :: _ :: _ :: _ :: _ :: _ :: _ :: []), defers := [] } _
      refine wpAnyH_take (i := 4) (v := .agg #[.int .i64 x.f, .int .i64 x.t, .int .i64 x.m]) rfl (by kernel_rfl) (by kernel_rfl) (by kernel_rfl) (fun _ _ _ h => h) (Or.inl ⟨by kernel_rfl, fun w hS => by (obtain ⟨hS0, hS1, hS2, hS3, hS4⟩ := hS; go_simp)⟩) hHeld ?_
      change wpAnyH _ _ _ _ _ _ _ { tmps := List.toArray (_ :: _ :: _ :: _ :: _ :: _ :: _ :: _ :: _ :: _ :: _ :: _ :: _ :: _ :: _ :: _ :: _ :: _ :: _ :: _ :: _ :: _ :: _ :: _ :: _ :: _ :: _ :: _ :: _ :: _ :: _ :: .agg #[.slice ra1 room.length rc1, .slice a1 rows.length c1] :: .slice (some ⟨lb, lo, none⟩) l.length lc :: .int .i64 k :: .pointer (some ⟨lb, lo + k * 3, none⟩) :: .agg #[.int .i64 x.f, .int .i64 x.t, .int .i64 x.m] :: _ :: _ :: _ :: _ :: _ :: _ :: _ :: _ :: _ :: _ :: []), defers := [] } _
      refine wpAnyH_ready (rs := [5, 9]) (by kernel_rfl) (by simp) ?_
      refine (AllReadyH.cons rfl (fun KK hK => ?_) (AllReadyH.cons rfl (fun KK hK => ?_) AllReadyH.nil))
      · skip
        go_simp
        refine (CO _ I1 R1).mono ?_
        rintro e w8 ⟨rv8, v8, vs8, rfl, S8, hb8⟩
        have B8 := btrans B0 hb8
        have lo8 := B0.size
        obtain ⟨ra8, rc8, a8, c8, rfl, hv8, -⟩ := S8.arg
        rw [hl8.out] at hv8
        subst hv8
        clear hb8
        go_wp2_with fail
        clear hHeld
        refine hK.out _ _ (by obtain ⟨⟨k0, k1⟩, -⟩ := blk2 (blk_keep B8 KOd); exact ⟨k0, k1, ble B8 d2, ble B8 d3, ble B8 d4⟩) (fun hHeld => ?_)
        clear hK KK
        change wpAnyH _ _ _ _ _ _ _ { tmps := List.toArray (_ :: _ :: _ :: _ :: _ :: _ :: _ :: _ :: _ :: _ :: _ :: _ :: _ :: _ :: _ :: _ :: _ :: _ :: _ :: _ :: _ :: _ :: _ :: _ :: _ :: _ :: _ :: _ :: _ :: _ :: _ :: .agg #[.slice ra1 room.length rc1, .slice a1 rows.length c1] :: .slice (some ⟨lb, lo, none⟩) l.length lc :: .int .i64 k :: .pointer (some ⟨lb, lo + k * 3, none⟩) :: .agg #[.int .i64 x.f, .int .i64 x.t, .int .i64 x.m] :: .tuple #[.agg #[.slice ra8 room.length rc8, .slice a8 rows.length c8], .int .i64 cd] :: _ :: _ :: _ :: _ :: _ :: _ :: _ :: _ :: _ :: []), defers := [] } _
        refine wpAnyH_take (i := 6) (v := .tuple #[.agg #[.slice ra8 room.length rc8, .slice a8 rows.length c8], .int .i64 cd]) rfl (by kernel_rfl) (by kernel_rfl) (by kernel_rfl) (fun _ _ _ h => h) (Or.inl ⟨by kernel_rfl, fun w hS => by go_simp⟩) hHeld ?_
        change wpAnyH _ _ _ _ _ _ _ { tmps := List.toArray (_ :: _ :: _ :: _ :: _ :: _ :: _ :: _ :: _ :: _ :: _ :: _ :: _ :: _ :: _ :: _ :: _ :: _ :: _ :: _ :: _ :: _ :: _ :: _ :: _ :: _ :: _ :: _ :: _ :: _ :: .tuple #[.agg #[.slice ra8 room.length rc8, .slice a8 rows.length c8], .int .i64 cd] :: .agg #[.slice ra1 room.length rc1, .slice a1 rows.length c1] :: .slice (some ⟨lb, lo, none⟩) l.length lc :: .int .i64 k :: .pointer (some ⟨lb, lo + k * 3, none⟩) :: .agg #[.int .i64 x.f, .int .i64 x.t, .int .i64 x.m] :: .tuple #[.agg #[.slice ra8 room.length rc8, .slice a8 rows.length c8], .int .i64 cd] :: _ :: _ :: _ :: _ :: _ :: _ :: _ :: _ :: _ :: []), defers := [] } _
        refine wpAnyH_take (i := 7) (v := .agg #[.slice ra8 room.length rc8, .slice a8 rows.length c8]) rfl (by kernel_rfl) (by kernel_rfl) (by kernel_rfl) (fun _ _ _ h => h) (Or.inl ⟨by kernel_rfl, fun w hS => by go_simp⟩) hHeld ?_
        change wpAnyH _ _ _ _ _ _ _ { tmps := List.toArray (_ :: _ :: _ :: _ :: _ :: _ :: _ :: _ :: _ :: _ :: _ :: _ :: _ :: _ :: _ :: _ :: _ :: _ :: _ :: _ :: _ :: _ :: _ :: _ :: _ :: _ :: _ :: _ :: _ :: _ :: .tuple #[.agg #[.slice ra8 room.length rc8, .slice a8 rows.length c8], .int .i64 cd] :: .agg #[.slice ra1 room.length rc1, .slice a1 rows.length c1] :: .slice (some ⟨lb, lo, none⟩) l.length lc :: .int .i64 k :: .pointer (some ⟨lb, lo + k * 3, none⟩) :: .agg #[.int .i64 x.f, .int .i64 x.t, .int .i64 x.m] :: .tuple #[.agg #[.slice ra8 room.length rc8, .slice a8 rows.length c8], .int .i64 cd] :: .agg #[.slice ra8 room.length rc8, .slice a8 rows.length c8] :: _ :: _ :: _ :: _ :: _ :: _ :: _ :: _ :: []), defers := [] } _
        refine wpAnyH_take (i := 8) (v := .int .i64 cd) rfl (by kernel_rfl) (by kernel_rfl) (by kernel_rfl) (fun _ _ _ h => h) (Or.inl ⟨by kernel_rfl, fun w hS => by go_simp⟩) hHeld ?_
        change wpAnyH _ _ _ _ _ _ _ { tmps := List.toArray (_ :: _ :: _ :: _ :: _ :: _ :: _ :: _ :: _ :: _ :: _ :: _ :: _ :: _ :: _ :: _ :: _ :: _ :: _ :: _ :: _ :: _ :: _ :: _ :: _ :: _ :: _ :: _ :: _ :: _ :: .tuple #[.agg #[.slice ra8 room.length rc8, .slice a8 rows.length c8], .int .i64 cd] :: .agg #[.slice ra1 room.length rc1, .slice a1 rows.length c1] :: .slice (some ⟨lb, lo, none⟩) l.length lc :: .int .i64 k :: .pointer (some ⟨lb, lo + k * 3, none⟩) :: .agg #[.int .i64 x.f, .int .i64 x.t, .int .i64 x.m] :: .tuple #[.agg #[.slice ra8 room.length rc8, .slice a8 rows.length c8], .int .i64 cd] :: .agg #[.slice ra8 room.length rc8, .slice a8 rows.length c8] :: .int .i64 cd :: _ :: _ :: _ :: _ :: _ :: _ :: _ :: []), defers := [] } _
        refine wpAnyH_ready (rs := [9]) (by kernel_rfl) (by simp) ?_
        refine (AllReadyH.cons rfl (fun KK hK => ?_) AllReadyH.nil)
        go_simp
        have Ba := btrans B8 (balloc w8 (.cells #[.slice none 0 0, .slice none 0 0] 27))
        have zB : (w8.alloc (.cells #[.slice none 0 0, .slice none 0 0] 27)).heap[w8.heap.size]? = some (.cells #[.slice none 0 0, .slice none 0 0] 27 (0, 0)) := heap_alloc_new w8 _
        have zlo : wd.heap.size ≤ w8.heap.size := B8.size
        clear hHeld
        refine hK.out _ _ (by obtain ⟨⟨k0, k1⟩, -⟩ := blk2 (blk_keep Ba KOd); exact ⟨k0, k1, ble Ba d2, ble Ba d3, ble Ba d4⟩) (fun hHeld => ?_)
        clear hK KK
        change wpAnyH _ _ _ _ _ _ _ { tmps := List.toArray (_ :: _ :: _ :: _ :: _ :: _ :: _ :: _ :: _ :: .pointer (some ⟨w8.heap.size, 0, none⟩) :: _ :: _ :: _ :: _ :: _ :: _ :: _ :: _ :: _ :: _ :: _ :: _ :: _ :: _ :: _ :: _ :: _ :: _ :: _ :: _ :: .tuple #[.agg #[.slice ra8 room.length rc8, .slice a8 rows.length c8], .int .i64 cd] :: .agg #[.slice ra1 room.length rc1, .slice a1 rows.length c1] :: .slice (some ⟨lb, lo, none⟩) l.length lc :: .int .i64 k :: .pointer (some ⟨lb, lo + k * 3, none⟩) :: .agg #[.int .i64 x.f, .int .i64 x.t, .int .i64 x.m] :: .tuple #[.agg #[.slice ra8 room.length rc8, .slice a8 rows.length c8], .int .i64 cd] :: .agg #[.slice ra8 room.length rc8, .slice a8 rows.length c8] :: .int .i64 cd :: _ :: _ :: _ :: _ :: _ :: _ :: _ :: []), defers := [] } _
        refine wpAnyH_ready (rs := [10]) (by kernel_rfl) (by simp) ?_
        refine (AllReadyH.cons rfl (fun KK hK => ?_) AllReadyH.nil)
        have Bs := btrans B8 (balloc w8 (.cells #[.slice ra8 room.length rc8, .slice a8 rows.length c8] 27))
        have Kn := heap_alloc_new w8 (.cells #[.slice ra8 room.length rc8, .slice a8 rows.length c8] 27)
        have Sn := S8.below (balloc w8 (.cells #[.slice ra8 room.length rc8, .slice a8 rows.length c8] 27))
        go_simp
        clear hHeld
        refine hK.out _ _ (by obtain ⟨⟨k0, k1⟩, -⟩ := blk2 (blk_keep Bs KOd); exact ⟨k0, k1, ble Bs d2, ble Bs d3, ble Bs d4⟩) (fun hHeld => ?_)
        clear hK KK
        change wpAnyH _ _ _ _ _ _ _ { tmps := List.toArray (_ :: _ :: _ :: _ :: _ :: _ :: _ :: _ :: _ :: .pointer (some ⟨w8.heap.size, 0, none⟩) :: _ :: _ :: _ :: _ :: _ :: _ :: _ :: _ :: _ :: _ :: _ :: _ :: _ :: _ :: _ :: _ :: _ :: _ :: _ :: _ :: .tuple #[.agg #[.slice ra8 room.length rc8, .slice a8 rows.length c8], .int .i64 cd] :: .agg #[.slice ra1 room.length rc1, .slice a1 rows.length c1] :: .slice (some ⟨lb, lo, none⟩) l.length lc :: .int .i64 k :: .pointer (some ⟨lb, lo + k * 3, none⟩) :: .agg #[.int .i64 x.f, .int .i64 x.t, .int .i64 x.m] :: .tuple #[.agg #[.slice ra8 room.length rc8, .slice a8 rows.length c8], .int .i64 cd] :: .agg #[.slice ra8 room.length rc8, .slice a8 rows.length c8] :: .int .i64 cd :: _ :: _ :: _ :: _ :: _ :: _ :: _ :: []), defers := [] } _
        refine wpAnyH_take (i := 11) (v := .int .i64 cd) rfl (by kernel_rfl) (by kernel_rfl) (by kernel_rfl) (fun _ _ _ h => h) (Or.inl ⟨by kernel_rfl, fun w hS => by go_simp⟩) hHeld ?_
        change wpAnyH _ _ _ _ _ _ _ { tmps := List.toArray (_ :: _ :: _ :: _ :: _ :: _ :: _ :: _ :: _ :: .pointer (some ⟨w8.heap.size, 0, none⟩) :: .int .i64 cd :: _ :: _ :: _ :: _ :: _ :: _ :: _ :: _ :: _ :: _ :: _ :: _ :: _ :: _ :: _ :: _ :: _ :: _ :: _ :: .tuple #[.agg #[.slice ra8 room.length rc8, .slice a8 rows.length c8], .int .i64 cd] :: .agg #[.slice ra1 room.length rc1, .slice a1 rows.length c1] :: .slice (some ⟨lb, lo, none⟩) l.length lc :: .int .i64 k :: .pointer (some ⟨lb, lo + k * 3, none⟩) :: .agg #[.int .i64 x.f, .int .i64 x.t, .int .i64 x.m] :: .tuple #[.agg #[.slice ra8 room.length rc8, .slice a8 rows.length c8], .int .i64 cd] :: .agg #[.slice ra8 room.length rc8, .slice a8 rows.length c8] :: .int .i64 cd :: _ :: _ :: _ :: _ :: _ :: _ :: _ :: []), defers := [] } _
        refine wpAnyH_done (by kernel_rfl) ?_ _
        generalize w8.alloc (.cells #[.slice ra8 room.length rc8, .slice a8 rows.length c8] 27) = wn at *
        have hNn := lt_of_block Kn
        have KOn := blk_keep Bs KOd
        have A2n := blk_keep Bs A2d
        have HBn := HBd.trans (Bs.mono hsd)
        have hOn := own_keep hOd Bs
        have hCd : ∀ b, (Value.slice ca k cc).ownBlock = some b → b < wd.heap.size := own_blk_lt hOd
        have hS8lo : ∀ b, SidB (.slice ra8 room.length rc8) (.slice a8 rows.length c8) vs8 b → wd.heap.size ≤ b := fun b hb => by have := (S8.blk b hb).1; omega
        obtain ⟨⟨n0, n1⟩, -⟩ := blk2 Kn
        obtain ⟨⟨q0, q1⟩, g0, g1⟩ := blk2 KOn
        have Sz := (Sn.base (B' := w.heap.size) (by omega)).box (p := .slice ra8 room.length rc8) (q := .slice a8 rows.length c8) KOn
        have Kz := box_set (p := .slice ra8 room.length rc8) (q := .slice a8 rows.length c8) KOn
        have Oz := own_same (w' := (wn.setCell ⟨O, 0, none⟩ (.slice ra8 room.length rc8)).setCell ⟨O, 1, none⟩ (.slice a8 rows.length c8)) hOn (fun b hb => by have := own_blk_ne hOn KOn (by decide) b hb; rw [heap_setCell this, heap_setCell this])
        have A2z : ((wn.setCell ⟨O, 0, none⟩ (.slice ra8 room.length rc8)).setCell ⟨O, 1, none⟩ (.slice a8 rows.length c8)).heap[w.heap.size + 1]? = _ := (heap_setCell (by omega)).trans ((heap_setCell (by omega)).trans A2n)
        have HBz : Below w.heap.size w ((wn.setCell ⟨O, 0, none⟩ (.slice ra8 room.length rc8)).setCell ⟨O, 1, none⟩ (.slice a8 rows.length c8)) := below_set (by omega) (below_set (by omega) HBn)
        clear Kn Sn KOn A2n HBn hOn S8 B8 Bs KOd A2d HBd hOd I1 R1 CO d0 d1 d2 d3 d4
        clear Ba zB zlo
        go_upto_region 10 with fail
        generalize hwz : (wn.setCell ⟨O, 0, none⟩ (.slice ra8 room.length rc8)).setCell ⟨O, 1, none⟩ (.slice a8 rows.length c8) = wz at *
        clear n0 n1 q0 q1 g0 g1 hwz
        have hOs9 := lt_of_block Kz
        have A2s := lt_of_block A2z
        have hsz9 := HBz.size
        go_wp2_with (at_builtin; refine wpList_append_own_at _ rfl _ _ 24 rfl w.heap.size 3 i0 (.int .i64 0) 1 8 Try.underlying24 hi hz0 hz1 hz2 rfl (by decide) _ _ _ rfl (Oz.alloc _) ⟨wz.heap.size, 0, none⟩ 1 1 [.int .i64 cd] rfl rfl (World.news_of_block (heap_alloc_new wz _)) (fun u hu => by simp at hu; subst hu; rfl) (by unfold maxLen; omega) (by omega) (by rw [sz1]; omega) ?_; intro v5 w5 hown hgrow _ hwh)
        have ba := balloc wz (.cells #[.int .i64 cd] 3)
        have hfr := hCd
        have O5 : w5.ownsRow w.heap.size 3 1 v5 (k + 1) (enc (playC room rows (l.take (k + 1)))) := by rw [hnc.out]; simpa [enc] using hown
        have S5 : SidO w.heap.size w5 _ _ vs8 room (leftS room rk x) := (Sz.below ba).keep (fun b hb => hgrow.block b (((Sz.below ba).blk b hb).2) (fun e => by have h1 := hS8lo b hb; have h2 := hfr b e.symm; omega))
        have A25 : w5.heap[w.heap.size + 1]? = _ := (hgrow.block (w.heap.size + 1) (by rw [sz1]; omega) (fun e => own_blk_ne (own_keep Oz ba) (blk_keep ba A2z) (by decide) _ e.symm rfl)).trans (blk_keep ba A2z)
        have K5 : w5.heap[O]? = _ := (hgrow.block O (by rw [sz1]; omega) (fun e => own_blk_ne (own_keep Oz ba) (blk_keep ba Kz) (by decide) _ e.symm rfl)).trans (blk_keep ba Kz)
        have HB5 : Below w.heap.size w w5 := (btrans HBz ba).grown hgrow (by rw [sz1]; omega) (own_from Oz (Nat.le_refl _))
        have far5 : ∀ b, v5.ownBlock = some b → ¬ SidB (.slice ra8 room.length rc8) (.slice a8 rows.length c8) vs8 b := fun b hb hh => by
          have h1 := (Sz.blk b hh).2
          rcases hwh with q | q
          · rw [q] at hb; have := hfr b hb; have := hS8lo b hh; omega
          · rw [q] at hb; have := Option.some.inj hb; rw [sz1] at this; omega
        clear hown hgrow Sz Kz Oz A2z HBz ba
        go_wp2
        go_roundw
        case rel => exact ⟨k + 1, _, _, _, _, vs8, by omega, by go_num, by rw [hnr.out]; exact S5, O5, far5, A25, K5, HB5⟩
        case measure => simp [intOf]; omega
      · skip
        go_simp
        have Ba := btrans B0 (balloc wd (.cells #[.slice none 0 0, .slice none 0 0] 27))
        have zB : (wd.alloc (.cells #[.slice none 0 0, .slice none 0 0] 27)).heap[wd.heap.size]? = some (.cells #[.slice none 0 0, .slice none 0 0] 27 (0, 0)) := heap_alloc_new wd _
        have zlo : wd.heap.size ≤ wd.heap.size := B0.size
        clear hHeld
        refine hK.out _ _ (by obtain ⟨⟨k0, k1⟩, -⟩ := blk2 (blk_keep Ba KOd); exact ⟨k0, k1, ble Ba d2, ble Ba d3, ble Ba d4⟩) (fun hHeld => ?_)
        clear hK KK
        change wpAnyH _ _ _ _ _ _ _ { tmps := List.toArray (_ :: _ :: _ :: _ :: _ :: _ :: _ :: _ :: _ :: .pointer (some ⟨wd.heap.size, 0, none⟩) :: _ :: _ :: _ :: _ :: _ :: _ :: _ :: _ :: _ :: _ :: _ :: _ :: _ :: _ :: _ :: _ :: _ :: _ :: _ :: _ :: _ :: .agg #[.slice ra1 room.length rc1, .slice a1 rows.length c1] :: .slice (some ⟨lb, lo, none⟩) l.length lc :: .int .i64 k :: .pointer (some ⟨lb, lo + k * 3, none⟩) :: .agg #[.int .i64 x.f, .int .i64 x.t, .int .i64 x.m] :: _ :: _ :: _ :: _ :: _ :: _ :: _ :: _ :: _ :: _ :: []), defers := [] } _
        refine wpAnyH_ready (rs := [5]) (by kernel_rfl) (by simp) ?_
        refine (AllReadyH.cons rfl (fun KK hK => ?_) AllReadyH.nil)
        go_simp
        refine (CO _ (I1.below Ba) (R1.below Ba)).mono ?_
        rintro e w8 ⟨rv8, v8, vs8, rfl, S8, hb8⟩
        have B8 := btrans Ba hb8
        have lo8 := Ba.size
        have zB := blk_keep hb8 zB
        obtain ⟨ra8, rc8, a8, c8, rfl, hv8, -⟩ := S8.arg
        rw [hl8.out] at hv8
        subst hv8
        clear hb8
        go_wp2_with fail
        clear hHeld
        refine hK.out _ _ (by obtain ⟨⟨k0, k1⟩, -⟩ := blk2 (blk_keep B8 KOd); exact ⟨k0, k1, ble B8 d2, ble B8 d3, ble B8 d4⟩) (fun hHeld => ?_)
        clear hK KK
        change wpAnyH _ _ _ _ _ _ _ { tmps := List.toArray (_ :: _ :: _ :: _ :: _ :: _ :: _ :: _ :: _ :: .pointer (some ⟨wd.heap.size, 0, none⟩) :: _ :: _ :: _ :: _ :: _ :: _ :: _ :: _ :: _ :: _ :: _ :: _ :: _ :: _ :: _ :: _ :: _ :: _ :: _ :: _ :: _ :: .agg #[.slice ra1 room.length rc1, .slice a1 rows.length c1] :: .slice (some ⟨lb, lo, none⟩) l.length lc :: .int .i64 k :: .pointer (some ⟨lb, lo + k * 3, none⟩) :: .agg #[.int .i64 x.f, .int .i64 x.t, .int .i64 x.m] :: .tuple #[.agg #[.slice ra8 room.length rc8, .slice a8 rows.length c8], .int .i64 cd] :: _ :: _ :: _ :: _ :: _ :: _ :: _ :: _ :: _ :: []), defers := [] } _
        refine wpAnyH_take (i := 6) (v := .tuple #[.agg #[.slice ra8 room.length rc8, .slice a8 rows.length c8], .int .i64 cd]) rfl (by kernel_rfl) (by kernel_rfl) (by kernel_rfl) (fun _ _ _ h => h) (Or.inl ⟨by kernel_rfl, fun w hS => by go_simp⟩) hHeld ?_
        change wpAnyH _ _ _ _ _ _ _ { tmps := List.toArray (_ :: _ :: _ :: _ :: _ :: _ :: _ :: _ :: _ :: .pointer (some ⟨wd.heap.size, 0, none⟩) :: _ :: _ :: _ :: _ :: _ :: _ :: _ :: _ :: _ :: _ :: _ :: _ :: _ :: _ :: _ :: _ :: _ :: _ :: _ :: _ :: .tuple #[.agg #[.slice ra8 room.length rc8, .slice a8 rows.length c8], .int .i64 cd] :: .agg #[.slice ra1 room.length rc1, .slice a1 rows.length c1] :: .slice (some ⟨lb, lo, none⟩) l.length lc :: .int .i64 k :: .pointer (some ⟨lb, lo + k * 3, none⟩) :: .agg #[.int .i64 x.f, .int .i64 x.t, .int .i64 x.m] :: .tuple #[.agg #[.slice ra8 room.length rc8, .slice a8 rows.length c8], .int .i64 cd] :: _ :: _ :: _ :: _ :: _ :: _ :: _ :: _ :: _ :: []), defers := [] } _
        refine wpAnyH_take (i := 7) (v := .agg #[.slice ra8 room.length rc8, .slice a8 rows.length c8]) rfl (by kernel_rfl) (by kernel_rfl) (by kernel_rfl) (fun _ _ _ h => h) (Or.inl ⟨by kernel_rfl, fun w hS => by go_simp⟩) hHeld ?_
        change wpAnyH _ _ _ _ _ _ _ { tmps := List.toArray (_ :: _ :: _ :: _ :: _ :: _ :: _ :: _ :: _ :: .pointer (some ⟨wd.heap.size, 0, none⟩) :: _ :: _ :: _ :: _ :: _ :: _ :: _ :: _ :: _ :: _ :: _ :: _ :: _ :: _ :: _ :: _ :: _ :: _ :: _ :: _ :: .tuple #[.agg #[.slice ra8 room.length rc8, .slice a8 rows.length c8], .int .i64 cd] :: .agg #[.slice ra1 room.length rc1, .slice a1 rows.length c1] :: .slice (some ⟨lb, lo, none⟩) l.length lc :: .int .i64 k :: .pointer (some ⟨lb, lo + k * 3, none⟩) :: .agg #[.int .i64 x.f, .int .i64 x.t, .int .i64 x.m] :: .tuple #[.agg #[.slice ra8 room.length rc8, .slice a8 rows.length c8], .int .i64 cd] :: .agg #[.slice ra8 room.length rc8, .slice a8 rows.length c8] :: _ :: _ :: _ :: _ :: _ :: _ :: _ :: _ :: []), defers := [] } _
        refine wpAnyH_take (i := 8) (v := .int .i64 cd) rfl (by kernel_rfl) (by kernel_rfl) (by kernel_rfl) (fun _ _ _ h => h) (Or.inl ⟨by kernel_rfl, fun w hS => by go_simp⟩) hHeld ?_
        change wpAnyH _ _ _ _ _ _ _ { tmps := List.toArray (_ :: _ :: _ :: _ :: _ :: _ :: _ :: _ :: _ :: .pointer (some ⟨wd.heap.size, 0, none⟩) :: _ :: _ :: _ :: _ :: _ :: _ :: _ :: _ :: _ :: _ :: _ :: _ :: _ :: _ :: _ :: _ :: _ :: _ :: _ :: _ :: .tuple #[.agg #[.slice ra8 room.length rc8, .slice a8 rows.length c8], .int .i64 cd] :: .agg #[.slice ra1 room.length rc1, .slice a1 rows.length c1] :: .slice (some ⟨lb, lo, none⟩) l.length lc :: .int .i64 k :: .pointer (some ⟨lb, lo + k * 3, none⟩) :: .agg #[.int .i64 x.f, .int .i64 x.t, .int .i64 x.m] :: .tuple #[.agg #[.slice ra8 room.length rc8, .slice a8 rows.length c8], .int .i64 cd] :: .agg #[.slice ra8 room.length rc8, .slice a8 rows.length c8] :: .int .i64 cd :: _ :: _ :: _ :: _ :: _ :: _ :: _ :: []), defers := [] } _
        refine wpAnyH_ready (rs := [10]) (by kernel_rfl) (by simp) ?_
        refine (AllReadyH.cons rfl (fun KK hK => ?_) AllReadyH.nil)
        obtain ⟨⟨z0, z1⟩, y0, y1⟩ := blk2 zB
        have Kn := box_set (p := .slice ra8 room.length rc8) (q := .slice a8 rows.length c8) zB
        have Sn := S8.box (p := .slice ra8 room.length rc8) (q := .slice a8 rows.length c8) zB
        have Bs : Below wd.heap.size wd ((w8.setCell ⟨wd.heap.size, 0, none⟩ (.slice ra8 room.length rc8)).setCell ⟨wd.heap.size, 1, none⟩ (.slice a8 rows.length c8)) := below_set zlo (below_set zlo B8)
        go_simp
        clear hHeld
        refine hK.out _ _ (by obtain ⟨⟨k0, k1⟩, -⟩ := blk2 (blk_keep Bs KOd); exact ⟨k0, k1, ble Bs d2, ble Bs d3, ble Bs d4⟩) (fun hHeld => ?_)
        clear hK KK
        change wpAnyH _ _ _ _ _ _ _ { tmps := List.toArray (_ :: _ :: _ :: _ :: _ :: _ :: _ :: _ :: _ :: .pointer (some ⟨wd.heap.size, 0, none⟩) :: _ :: _ :: _ :: _ :: _ :: _ :: _ :: _ :: _ :: _ :: _ :: _ :: _ :: _ :: _ :: _ :: _ :: _ :: _ :: _ :: .tuple #[.agg #[.slice ra8 room.length rc8, .slice a8 rows.length c8], .int .i64 cd] :: .agg #[.slice ra1 room.length rc1, .slice a1 rows.length c1] :: .slice (some ⟨lb, lo, none⟩) l.length lc :: .int .i64 k :: .pointer (some ⟨lb, lo + k * 3, none⟩) :: .agg #[.int .i64 x.f, .int .i64 x.t, .int .i64 x.m] :: .tuple #[.agg #[.slice ra8 room.length rc8, .slice a8 rows.length c8], .int .i64 cd] :: .agg #[.slice ra8 room.length rc8, .slice a8 rows.length c8] :: .int .i64 cd :: _ :: _ :: _ :: _ :: _ :: _ :: _ :: []), defers := [] } _
        refine wpAnyH_take (i := 11) (v := .int .i64 cd) rfl (by kernel_rfl) (by kernel_rfl) (by kernel_rfl) (fun _ _ _ h => h) (Or.inl ⟨by kernel_rfl, fun w hS => by go_simp⟩) hHeld ?_
        change wpAnyH _ _ _ _ _ _ _ { tmps := List.toArray (_ :: _ :: _ :: _ :: _ :: _ :: _ :: _ :: _ :: .pointer (some ⟨wd.heap.size, 0, none⟩) :: .int .i64 cd :: _ :: _ :: _ :: _ :: _ :: _ :: _ :: _ :: _ :: _ :: _ :: _ :: _ :: _ :: _ :: _ :: _ :: _ :: _ :: .tuple #[.agg #[.slice ra8 room.length rc8, .slice a8 rows.length c8], .int .i64 cd] :: .agg #[.slice ra1 room.length rc1, .slice a1 rows.length c1] :: .slice (some ⟨lb, lo, none⟩) l.length lc :: .int .i64 k :: .pointer (some ⟨lb, lo + k * 3, none⟩) :: .agg #[.int .i64 x.f, .int .i64 x.t, .int .i64 x.m] :: .tuple #[.agg #[.slice ra8 room.length rc8, .slice a8 rows.length c8], .int .i64 cd] :: .agg #[.slice ra8 room.length rc8, .slice a8 rows.length c8] :: .int .i64 cd :: _ :: _ :: _ :: _ :: _ :: _ :: _ :: []), defers := [] } _
        refine wpAnyH_done (by kernel_rfl) ?_ _
        generalize (w8.setCell ⟨wd.heap.size, 0, none⟩ (.slice ra8 room.length rc8)).setCell ⟨wd.heap.size, 1, none⟩ (.slice a8 rows.length c8) = wn at *
        have hNn := lt_of_block Kn
        have KOn := blk_keep Bs KOd
        have A2n := blk_keep Bs A2d
        have HBn := HBd.trans (Bs.mono hsd)
        have hOn := own_keep hOd Bs
        have hCd : ∀ b, (Value.slice ca k cc).ownBlock = some b → b < wd.heap.size := own_blk_lt hOd
        have hS8lo : ∀ b, SidB (.slice ra8 room.length rc8) (.slice a8 rows.length c8) vs8 b → wd.heap.size ≤ b := fun b hb => by have := (S8.blk b hb).1; omega
        obtain ⟨⟨n0, n1⟩, -⟩ := blk2 Kn
        obtain ⟨⟨q0, q1⟩, g0, g1⟩ := blk2 KOn
        have Sz := (Sn.base (B' := w.heap.size) (by omega)).box (p := .slice ra8 room.length rc8) (q := .slice a8 rows.length c8) KOn
        have Kz := box_set (p := .slice ra8 room.length rc8) (q := .slice a8 rows.length c8) KOn
        have Oz := own_same (w' := (wn.setCell ⟨O, 0, none⟩ (.slice ra8 room.length rc8)).setCell ⟨O, 1, none⟩ (.slice a8 rows.length c8)) hOn (fun b hb => by have := own_blk_ne hOn KOn (by decide) b hb; rw [heap_setCell this, heap_setCell this])
        have A2z : ((wn.setCell ⟨O, 0, none⟩ (.slice ra8 room.length rc8)).setCell ⟨O, 1, none⟩ (.slice a8 rows.length c8)).heap[w.heap.size + 1]? = _ := (heap_setCell (by omega)).trans ((heap_setCell (by omega)).trans A2n)
        have HBz : Below w.heap.size w ((wn.setCell ⟨O, 0, none⟩ (.slice ra8 room.length rc8)).setCell ⟨O, 1, none⟩ (.slice a8 rows.length c8)) := below_set (by omega) (below_set (by omega) HBn)
        clear Kn Sn KOn A2n HBn hOn S8 B8 Bs KOd A2d HBd hOd I1 R1 CO d0 d1 d2 d3 d4
        clear Ba zB zlo
        go_upto_region 10 with fail
        generalize hwz : (wn.setCell ⟨O, 0, none⟩ (.slice ra8 room.length rc8)).setCell ⟨O, 1, none⟩ (.slice a8 rows.length c8) = wz at *
        clear n0 n1 q0 q1 g0 g1 hwz
        have hOs9 := lt_of_block Kz
        have A2s := lt_of_block A2z
        have hsz9 := HBz.size
        go_wp2_with (at_builtin; refine wpList_append_own_at _ rfl _ _ 24 rfl w.heap.size 3 i0 (.int .i64 0) 1 8 Try.underlying24 hi hz0 hz1 hz2 rfl (by decide) _ _ _ rfl (Oz.alloc _) ⟨wz.heap.size, 0, none⟩ 1 1 [.int .i64 cd] rfl rfl (World.news_of_block (heap_alloc_new wz _)) (fun u hu => by simp at hu; subst hu; rfl) (by unfold maxLen; omega) (by omega) (by rw [sz1]; omega) ?_; intro v5 w5 hown hgrow _ hwh)
        have ba := balloc wz (.cells #[.int .i64 cd] 3)
        have hfr := hCd
        have O5 : w5.ownsRow w.heap.size 3 1 v5 (k + 1) (enc (playC room rows (l.take (k + 1)))) := by rw [hnc.out]; simpa [enc] using hown
        have S5 : SidO w.heap.size w5 _ _ vs8 room (leftS room rk x) := (Sz.below ba).keep (fun b hb => hgrow.block b (((Sz.below ba).blk b hb).2) (fun e => by have h1 := hS8lo b hb; have h2 := hfr b e.symm; omega))
        have A25 : w5.heap[w.heap.size + 1]? = _ := (hgrow.block (w.heap.size + 1) (by rw [sz1]; omega) (fun e => own_blk_ne (own_keep Oz ba) (blk_keep ba A2z) (by decide) _ e.symm rfl)).trans (blk_keep ba A2z)
        have K5 : w5.heap[O]? = _ := (hgrow.block O (by rw [sz1]; omega) (fun e => own_blk_ne (own_keep Oz ba) (blk_keep ba Kz) (by decide) _ e.symm rfl)).trans (blk_keep ba Kz)
        have HB5 : Below w.heap.size w w5 := (btrans HBz ba).grown hgrow (by rw [sz1]; omega) (own_from Oz (Nat.le_refl _))
        have far5 : ∀ b, v5.ownBlock = some b → ¬ SidB (.slice ra8 room.length rc8) (.slice a8 rows.length c8) vs8 b := fun b hb hh => by
          have h1 := (Sz.blk b hh).2
          rcases hwh with q | q
          · rw [q] at hb; have := hfr b hb; have := hS8lo b hh; omega
          · rw [q] at hb; have := Option.some.inj hb; rw [sz1] at this; omega
        clear hown hgrow Sz Kz Oz A2z HBz ba
        go_wp2
        go_roundw
        case rel => exact ⟨k + 1, _, _, _, _, vs8, by omega, by go_num, by rw [hnr.out]; exact S5, O5, far5, A25, K5, HB5⟩
        case measure => simp [intOf]; omega
    · obtain rfl : k = l.length := by omega
      rw [List.take_length] at hS hO
      have hcl2 : (playC room rows l).length = l.length := playC_len
      subst hcv
      have hO2 : wr.ownsRow w.heap.size 3 1 (.slice ca l.length cc) (playC room rows l).length (enc (playC room rows l)) := by rw [hcl2]; exact hO
      obtain ⟨⟨o0, o1⟩, -⟩ := blk2 KO
      obtain ⟨⟨r0, r1⟩, f0, f1⟩ := blk2 A2
      have hSV := hS.box (p := .slice ra1 room.length rc1) (q := .slice a1 rows.length c1) A2
      have KV := box_set (p := .slice ra1 room.length rc1) (q := .slice a1 rows.length c1) A2
      have hOV := own_same (w' := (wr.setCell ⟨w.heap.size + 1, 0, none⟩ (.slice ra1 room.length rc1)).setCell ⟨w.heap.size + 1, 1, none⟩ (.slice a1 rows.length c1)) hO2 (fun b hb => by have := own_blk_ne hO2 A2 (by decide) b hb; rw [heap_setCell this, heap_setCell this])
      have HBV : Below w.heap.size w ((wr.setCell ⟨w.heap.size + 1, 0, none⟩ (.slice ra1 room.length rc1)).setCell ⟨w.heap.size + 1, 1, none⟩ (.slice a1 rows.length c1)) := below_set (by omega) (below_set (by omega) HB)
      obtain ⟨⟨v0, v1⟩, -⟩ := blk2 KV
      replace hcl2 := hide hcl2
      clear hS HB A2 KV hO hO2 KO
      go_wp2
      generalize (wr.setCell ⟨w.heap.size + 1, 0, none⟩ (.slice ra1 room.length rc1)).setCell ⟨w.heap.size + 1, 1, none⟩ (.slice a1 rows.length c1) = V at *
      refine bodyPost_ret (v := .tuple #[.agg #[.slice ra1 room.length rc1, .slice a1 rows.length c1], .slice ca l.length cc]) (by simp [results, Try.results20, v0, v1, go_sem]) rfl ?_
      exact ⟨_, _, _, _, rfl, by rw [hyes.out.1]; exact hSV, by rw [hyes.out.2]; exact hOV, hfar, HBV⟩
end Go.Proofs.Ytipechbhhpagiaa
