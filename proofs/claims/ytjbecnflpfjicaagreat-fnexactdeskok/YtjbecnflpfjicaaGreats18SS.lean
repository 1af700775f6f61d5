/- Right sidings, of the model. -/
import Derived.Test.YtjbecnflpfjicaaGreats18CS
import Derived.Deep.RegionHeld3
import Derived.BigQuiet
namespace Go.Proofs.YtjbecnflpfjicaaGreat.s18
open Go.RowKit
theorem has_drop {zs : List Int} {x : Int} {k : Nat} (hk : k < zs.length) : decide (x ∈ zs.drop k) = (decide (zs[k] = x) || decide (x ∈ zs.drop (k + 1))) := by
  rw [List.drop_eq_getElem_cons hk, Bool.eq_iff_iff]
  simp only [Bool.or_eq_true, decide_eq_true_eq, List.mem_cons]
  constructor
  · rintro (h | h)
    · exact .inl h.symm
    · exact .inr h
  · rintro (h | h)
    · exact .inl h.symm
    · exact .inr h

set_option maxHeartbeats 800000 in
theorem cHas (a : Option Addr) (cap : Nat) (zs : List Int) (x : Int) (w : World) (hz : Ints w a zs) (hl : zs.length ≤ 1048576) :
    Calls Tryz.prog 36 #[.slice a zs.length cap, .int .i64 x] w fun e w' => e = .returned (.bool (decide (x ∈ zs))) ∧ w' = w := by
  generalize hr : decide (x ∈ zs) = res
  have hr0 : Hid (decide (x ∈ zs.drop 0) = res) := hr
  clear hr
  go_enter Tryz.func36, Tryz.ntmps36
  go_wp2
  go_loop [5] (fun i => ∃ k : Nat, k ≤ zs.length ∧ i = .int .i64 k ∧ Hid (decide (x ∈ zs.drop k) = res)) (fun i => zs.length - (intOf i).toNat)
  case atStart => exact ⟨0, Nat.zero_le _, rfl, hr0⟩
  case round =>
    obtain ⟨k, hk, rfl, hres⟩ := hrel
    clear hr0
    by_cases hlt : k < zs.length
    · rcases hz with h | ⟨b, off, rfl, hc⟩
      · simp [h] at hlt
      have q0 := hc k hlt
      have e0 : zs.getD k 0 = zs[k] := by simp [List.getD, hlt]
      rw [e0] at q0
      have hd := hide ((has_drop (x := x) hlt).symm.trans hres.out)
      generalize zs[k] = y at *
      clear hc e0 hres
      by_cases hy : y = x
      · have hf := hide (show res = true by rw [← hd.out]; simp [hy])
        clear hd
        subst hy
        go_wp2
        go_ret
        exact ⟨ret_bool hf.out.symm, rfl⟩
      · have hf := hide (show decide (x ∈ zs.drop (k + 1)) = res by rw [← hd.out]; simp [hy])
        clear hd
        go_wp2
        go_round
        case rel => exact ⟨k + 1, by omega, by go_num, hf⟩
        case measure => simp [intOf]; omega
    · obtain rfl : k = zs.length := by omega
      have hf := hide (show res = false by rw [← hres.out, List.drop_length]; simp)
      clear hz
      go_wp2
      go_ret
      exact ⟨ret_bool hf.out.symm, rfl⟩

theorem snoc_nodup {l : List Int} {x : Int} (h : l.Nodup) (hx : x ∉ l) : (l ++ [x]).Nodup := by
  rw [List.nodup_append]
  exact ⟨h, by simp, fun a ha b hb e => by simp at hb; subst hb; exact hx (e ▸ ha)⟩
theorem flat_split {rows : List (List Int)} {k : Nat} (hk : k < rows.length) (j : Nat) : ∃ r, rows.flatten = ((rows.take k).flatten ++ (rwA rows k).take j) ++ r := by
  refine ⟨(rwA rows k).drop j ++ (rows.drop (k + 1)).flatten, ?_⟩
  have e1 : rows.flatten = (rows.take (k + 1)).flatten ++ (rows.drop (k + 1)).flatten := by rw [← List.flatten_append, List.take_append_drop]
  rw [e1]
  have e2 : (rows.take (k + 1)).flatten = (rows.take k).flatten ++ rwA rows k := flat_take hk
  rw [e2, List.append_assoc, List.append_assoc]
  congr 1
  rw [← List.append_assoc, List.take_append_drop]
theorem not_nodup {rows : List (List Int)} {k j : Nat} (hk : k < rows.length) (hj : j < (rwA rows k).length) (h : (rwA rows k)[j] ∈ (rows.take k).flatten ++ (rwA rows k).take j) : ¬ rows.flatten.Nodup := by
  intro hn
  obtain ⟨r, hr⟩ := flat_split hk (j + 1)
  rw [hr, List.take_succ_eq_append_getElem hj, ← List.append_assoc] at hn
  rw [List.nodup_append] at hn
  have h1 := hn.1
  rw [List.nodup_append] at h1
  exact h1.2.2 _ h _ (by simp) rfl

set_option maxRecDepth 20000 in
set_option maxHeartbeats 6400000 in
theorem cSidS (ra : Option Addr) (rc : Nat) (room : List Int) (a : Option Addr) (c : Nat) (vs : List Value) (rows : List (List Int)) (w : World) (hM : Ints w ra room) (hR : RowsW w a vs rows) (hl : ∀ i, i < rows.length → (rwA rows i).length ≤ 1048576) :
    Calls Tryz.prog 16 #[sidVal ra room.length rc a rows.length c] w fun e w' => e = .returned (.bool (sidB room rows)) ∧ Below w.heap.size w w' := by
  obtain ⟨i0, hi, hz0, hz1, hz2⟩ := info_parts infoInts
  unfold sidVal
  cases h6 : inB room.length 1 6
  · have R := hide (show sidB room rows = false from sidB_not (fun h => by have := h.n1; have := h.n6; have := h.len; rcases inB_ff h6 with h | h <;> omega))
    have hW := balloc w (.cells #[.slice ra room.length rc, .slice a rows.length c] 44)
    go_enter Tryz.func16, Tryz.ntmps16
    go_wp2_with (first | (go_at_call 34; refine (cIn _ _ _ _).mono ?_; rintro e w9 ⟨rfl, hw9⟩; subst w9))
    go_ret
    exact ⟨ret_bool R.out.symm, hW⟩
  by_cases hlen : room.length = rows.length
  · rw [hlen] at h6
    obtain ⟨n1, n6⟩ := inB_true h6
    have hcell := hide hR.cell
    have heach := hide hR.each
    have hvl := hide hR.len
    have hlenH := hide hlen
    have hW := balloc w (.cells #[.slice ra rows.length rc, .slice a rows.length c] 44)
    have hBx := heap_alloc_new w (.cells #[.slice ra rows.length rc, .slice a rows.length c] 44)
    have hW0 := balloc (w.alloc (.cells #[.slice ra rows.length rc, .slice a rows.length c] 44)) (.cells #[] 3)
    have O0 : ((w.alloc (.cells #[.slice ra rows.length rc, .slice a rows.length c] 44)).alloc (.cells #[] 3)).ownsRow (w.heap.size + 1) 3 1 (.slice (some ⟨w.heap.size + 1, 0, none⟩) 0 0) ([] : List Int).length (enc []) := by
      have := World.ownsRow_made (base := w.heap.size + 1) (e := 3) (size := 1) (w.alloc (.cells #[.slice ra rows.length rc, .slice a rows.length c] 44)) #[] 0 (by simp) (by unfold maxLen; omega) rfl
      rw [sz1] at this
      exact this
    have hM2 : Hid (∃ b off, ra = some ⟨b, off, none⟩ ∧ ∀ i, i < rows.length → w.cell? ⟨b, off + i, none⟩ = some (Value.int .i64 (room.getD i 0))) := hide (by
      rcases hM with h | h
      · simp [h] at hlen; omega
      · rw [hlen] at h; exact h)
    rw [hlen]
    clear hlen hM hR
    have hSz : (w.alloc (.cells #[.slice ra rows.length rc, .slice a rows.length c] 44)).heap.size = w.heap.size + 1 := sz1 _ _
    go_enter Tryz.func16, Tryz.ntmps16
    go_wp2_with (first | (go_at_call 34; refine (cIn _ _ _ _).mono ?_; rintro e w9 ⟨rfl, hw9⟩; subst w9))
    generalize w.alloc (.cells #[.slice ra rows.length rc, .slice a rows.length c] 44) = W at *
    go_loopw [3, 4, 5, 6] (fun v i _ _ wr => ∃ (k : Nat) (Z : List Int), k ≤ rows.length ∧ i = .int .i64 k ∧ Hid (Z = (rows.take k).flatten ∧ Z.Nodup ∧ ∀ j, j < k → rowB (room.getD j 0) (rwA rows j) = true) ∧ Z.length ≤ 40 * k ∧ wr.ownsRow (w.heap.size + 1) 3 1 v Z.length (enc Z) ∧ Below (w.heap.size + 1) W wr) (fun _ i _ _ _ => rows.length - (intOf i).toNat)
    case atStart => exact ⟨0, [], by omega, rfl, hide ⟨by simp, by simp, fun j hj => by omega⟩, by simp, O0, by rw [hSz] at hW0; exact hW0⟩
    case round =>
      obtain ⟨k, Z, hk, rfl, hZ, hZl, hO, hb⟩ := hrel
      clear O0 hW0
      have hbx : Below W.heap.size W wr := by rw [hSz]; exact hb
      have hBr := (hbx.block w.heap.size (by omega)).trans hBx
      have x0 : wr.cell? ⟨w.heap.size, 0, none⟩ = some (.slice ra rows.length rc) := by rw [cell_blk hBr]; rfl
      have x1 : wr.cell? ⟨w.heap.size, 1, none⟩ = some (.slice a rows.length c) := by rw [cell_blk hBr]; rfl
      by_cases hlt : k < rows.length
      · obtain ⟨b1, o1, rfl, q1⟩ := hM2.out
        obtain ⟨bb, off, rfl, hc⟩ : ∃ b off, a = some ⟨b, off, none⟩ ∧ ∀ i, (hi : i < vs.length) → w.cell? ⟨b, off + i, none⟩ = some vs[i] := by
          rcases hcell.out with h | h
          · simp [h] at hlt
          · exact h
        have hkv : k < vs.length := by have := hvl.out; omega
        obtain ⟨ai, ci, hv, hI, -⟩ := heach.out k hkv
        have p1w := ble hW (q1 k hlt)
        have p2w := ble hW (hc k hkv)
        rw [hv] at p2w
        have p1 := ble hbx p1w
        have p2 := ble hbx p2w
        have hIw := hI.below hW
        have hX20 := hl k hlt
        have hbad := hide (show rowB (room.getD k 0) (rwA rows k) = false → sidB room rows = false from fun h => sidB_not (fun g => by rw [g.row k hlt] at h; cases h))
        have htw := hide (fun (j : Nat) (hj : j < (rwA rows k).length) (h : (rwA rows k)[j] ∈ (rows.take k).flatten ++ (rwA rows k).take j) => show sidB room rows = false from sidB_not (fun g => not_nodup hlt hj h g.nodup))
        have hnx := hide (flat_take hlt)
        have hrk := hide (show rowB (room.getD k 0) (rwA rows k) = true → ∀ j, j < k + 1 → rowB (room.getD j 0) (rwA rows j) = true from fun h j hj => by
          by_cases e : j = k
          · subst e; exact h
          · exact hZ.out.2.2 j (by omega))
        clear hc q1 hv hI
        generalize rwA rows k = X at *
        generalize room.getD k 0 = rk at *
        have HBa : Below w.heap.size w wr := btrans hW hbx
        cases h40 : inB rk 1 40
        · have R := hide (hbad.out (by simp [rowB, h40]))
          clear hbad htw hrk hnx
          go_wp2
          go_quiet (first | (go_at_call 34; with_reducible refine Calls.quiet_of_same (cIn _ _ _ _)))
          go_wp2
          go_ret
          exact ⟨ret_bool R.out.symm, bdraw HBa _⟩
        obtain ⟨r1, r2⟩ := inB_true h40
        by_cases hXl : (X.length : Int) ≤ rk
        · have hXl' : ¬ (rk < (X.length : Int)) := by omega
          have hXb : decide (rk < (X.length : Int)) = false := by simp; omega
          go_wp2
          go_quiet (first | (go_at_call 34; with_reducible refine Calls.quiet_of_same (cIn _ _ _ _)))
          go_wp2
          rw [h40]
          have Od := fun n => own_keep hO (bdraw (Below.refl _ wr) n)
          have bd := fun n => bdraw hb n
          clear x0 x1 p1 p2 hO hBr HBa hbx
          generalize wr = wo at *
          go_loopw [3, 5, 6] (fun v i _ wr => ∃ (j : Nat) (Z2 : List Int), j ≤ X.length ∧ i = .int .i64 j ∧ Hid (Z2 = Z ++ X.take j ∧ Z2.Nodup ∧ (X.take j).all wagB = true) ∧ Z2.length ≤ 40 * k + j ∧ wr.ownsRow (w.heap.size + 1) 3 1 v Z2.length (enc Z2) ∧ Below (w.heap.size + 1) W wr) (fun _ i _ _ => X.length - (intOf i).toNat)
          case atStart => exact ⟨0, Z, by omega, rfl, hide ⟨by simp, hZ.out.2.1, rfl⟩, by omega, Od _, bd _⟩
          case round =>
            obtain ⟨j, Z2, hj, rfl, hZ2, hZ2l, hO2, hb2⟩ := hrel
            clear Od bd
            have hbx : Below W.heap.size W wr := by rw [hSz]; exact hb2
            have hBr := (hbx.block w.heap.size (by omega)).trans hBx
            have x1 : wr.cell? ⟨w.heap.size, 1, none⟩ = some (.slice (some ⟨bb, off, none⟩) rows.length c) := by rw [cell_blk hBr]; rfl
            have p2 := ble hbx p2w
            have HBa : Below w.heap.size w wr := btrans hW hbx
            obtain ⟨va, vc, rfl⟩ := own_form hO2
            by_cases hjl : j < X.length
            · obtain ⟨xb, xo, rfl, qx⟩ : ∃ b off, ai = some ⟨b, off, none⟩ ∧ ∀ i, i < X.length → W.cell? ⟨b, off + i, none⟩ = some (Value.int .i64 (X.getD i 0)) := by
                rcases hIw with h | h
                · simp [h] at hjl
                · exact h
              have px := ble hbx (qx j hjl)
              have ex : X.getD j 0 = X[j] := by simp [List.getD, hjl]
              rw [ex] at px
              have htw2 := hide (show X[j] ∈ Z2 → sidB room rows = false from fun h => htw.out j hjl (by rw [← hZ.out.1, ← hZ2.out.1]; exact h))
              have hwb := hide (show wagB X[j] = false → sidB room rows = false from fun h => hbad.out (by
                have : X.all wagB = false := all_bad hjl h
                simp [rowB, this]))
              have hst := hide (show X[j] ∉ Z2 → wagB X[j] = true → Z2 ++ [X[j]] = Z ++ X.take (j + 1) ∧ (Z2 ++ [X[j]]).Nodup ∧ (X.take (j + 1)).all wagB = true from fun h1 h2 => ⟨by rw [hZ2.out.1, List.take_succ_eq_append_getElem hjl, List.append_assoc], snoc_nodup hZ2.out.2.1 h1, all_step hjl hZ2.out.2.2 h2⟩)
              clear qx ex
              generalize X[j] = x at *
              have CH := cHas va vc Z2 x wr (Ints.own hO2 rfl) (by omega)
              cases hwg : inB x 1 9999
              · have R := hide (hwb.out hwg)
                clear hwb htw2 hst CH
                go_wp2_with (first | (go_at_call 34; refine (cIn _ _ _ _).mono ?_; rintro e w9 ⟨rfl, hw9⟩; subst w9))
                go_ret
                exact ⟨ret_bool R.out.symm, HBa⟩
              by_cases hmem : x ∈ Z2
              · have R := hide (htw2.out hmem)
                rw [decide_eq_true hmem] at CH
                clear hwb htw2 hst hmem
                go_wp2_with (first | (go_at_call 34; refine (cIn _ _ _ _).mono ?_; rintro e w9 ⟨rfl, hw9⟩; subst w9) | (go_at_call 36; refine CH.mono ?_; rintro e w9 ⟨rfl, hw9⟩; subst w9))
                go_ret
                exact ⟨ret_bool R.out.symm, HBa⟩
              · have hst2 := hide (hst.out hmem hwg)
                rw [decide_eq_false hmem] at CH
                clear hwb htw2 hst hmem
                have hsz := hb2.size
                go_wp2_with (first | (go_at_call 34; refine (cIn _ _ _ _).mono ?_; rintro e w9 ⟨rfl, hw9⟩; subst w9) | (go_at_call 36; refine CH.mono ?_; rintro e w9 ⟨rfl, hw9⟩; subst w9) | (at_builtin; refine wpList_append_own _ rfl _ _ 29 rfl (w.heap.size + 1) 3 i0 (.int .i64 0) 1 8 Tryz.underlying29 hi hz0 hz1 hz2 rfl (by decide) _ _ _ rfl (hO2.alloc _) ⟨wr.heap.size, 0, none⟩ 1 1 [.int .i64 x] rfl rfl (World.news_of_block (heap_alloc_new wr _)) (fun u hu => by simp at hu; subst hu; rfl) (by unfold maxLen; omega) (by omega) (by simp; omega) ?_))
                intro v5 w5 hown' hgrow _
                have hfrom := own_from hO2 (Nat.le_refl _)
                have hb5 : Below (w.heap.size + 1) W w5 := (hb2.trans ((balloc wr (.cells #[.int .i64 x] 3)).mono (by omega))).grown hgrow (by simp; omega) hfrom
                have hO5 : w5.ownsRow (w.heap.size + 1) 3 1 v5 (Z2 ++ [x]).length (enc (Z2 ++ [x])) := by rw [List.length_append]; simpa [enc] using hown'
                clear hown' hgrow hO2 hb2 hfrom CH hbx HBa hBr
                go_wp2
                go_roundw
                case rel => exact ⟨j + 1, Z2 ++ [x], by omega, by go_num, hst2, by simp; omega, hO5, hb5⟩
                case measure => simp [intOf]; omega
            · obtain rfl : j = X.length := by omega
              have R := hide (hrk.out (rowB_iff.2 ⟨r1, r2, hXl, fun y hy => by have := hZ2.out.2.2; rw [List.take_length, List.all_eq_true] at this; exact inB_true (this y hy)⟩))
              have hZ5 : Hid (Z2 = (rows.take (k + 1)).flatten ∧ Z2.Nodup ∧ ∀ j, j < k + 1 → rowB (room.getD j 0) (rwA rows j) = true) := hide ⟨by rw [hnx.out, ← hZ.out.1, hZ2.out.1, List.take_length], hZ2.out.2.1, R.out⟩
              clear hZ2 hbad htw hrk
              go_wp2
              go_roundw
              case rel => exact ⟨k + 1, Z2, by omega, by go_num, hZ5, by omega, hO2, hb2⟩
              case measure => simp [intOf]; omega
        · have R := hide (hbad.out (by simp [rowB, hXl]))
          have hXl' : rk < (X.length : Int) := by omega
          clear hbad htw hrk hnx hXl
          go_wp2
          go_quiet (first | (go_at_call 34; with_reducible refine Calls.quiet_of_same (cIn _ _ _ _)))
          go_wp2
          go_ret
          exact ⟨ret_bool R.out.symm, bdraw HBa _⟩
      · obtain rfl : k = rows.length := by omega
        have R := hide (show sidB room rows = true from sidB_iff.2 ⟨by omega, by omega, hlenH.out, hZ.out.2.2, by have := hZ.out; rw [List.take_length] at this; rw [← this.1]; exact this.2.1⟩)
        have HBa : Below w.heap.size w wr := btrans hW hbx
        go_wp2
        go_ret
        exact ⟨ret_bool R.out.symm, HBa⟩
  · have R := hide (show sidB room rows = false from sidB_not (fun h => hlen h.len))
    have hne2 : ¬ ((rows.length : Int) = (room.length : Int)) := by omega
    have hW := balloc w (.cells #[.slice ra room.length rc, .slice a rows.length c] 44)
    go_enter Tryz.func16, Tryz.ntmps16
    go_wp2_with (first | (go_at_call 34; refine (cIn _ _ _ _).mono ?_; rintro e w9 ⟨rfl, hw9⟩; subst w9))
    go_ret
    exact ⟨ret_bool R.out.symm, hW⟩
end Go.Proofs.YtjbecnflpfjicaaGreat.s18
