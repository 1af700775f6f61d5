/- PlayShunts of the program. -/
import Derived.Test.YtipechbhhpagiaaCU
import Derived.Test.YtipechbhhpagiaaCV
namespace Go.Proofs.Ytipechbhhpagiaa
open Go.RowKit
def okPl (room : List Int) (rows : List (List Int)) (l : List ShV) : Prop := SidP room rows ∧ l.length ≤ 200
open Classical in
noncomputable def plR (room : List Int) (rows : List (List Int)) (l : List ShV) : List (List Int) := if okPl room rows l then playR room rows l else rows
open Classical in
noncomputable def plC (room : List Int) (rows : List (List Int)) (l : List ShV) : List Int := if okPl room rows l then playC room rows l else []
theorem pl_yes {room : List Int} {rows : List (List Int)} {l : List ShV} (h : okPl room rows l) : plR room rows l = playR room rows l ∧ plC room rows l = playC room rows l := ⟨by unfold plR; rw [if_pos h], by unfold plC; rw [if_pos h]⟩
theorem pl_no {room : List Int} {rows : List (List Int)} {l : List ShV} (h : ¬ okPl room rows l) : plR room rows l = rows ∧ plC room rows l = [] := ⟨by unfold plR; rw [if_neg h], by unfold plC; rw [if_neg h]⟩
def AnsPl (w : World) (room : List Int) (rows : List (List Int)) (cs : List Int) (e : Ending) (w' : World) : Prop :=
  ∃ rv v vs cv, e = .returned (.tuple #[.agg #[rv, v], cv]) ∧ SidO w.heap.size w' rv v vs room rows ∧ w'.ownsRow w.heap.size 3 1 cv cs.length (enc cs) ∧ (∀ k, cv.ownBlock = some k → ¬ SidB rv v vs k) ∧ Below w.heap.size w w'
theorem YardO.setOut {B Y c i : Nat} {w : World} {rv v u : Value} {vs : List Value} {room : List Int} {rows : List (List Int)} (h : YardO B w Y rv v vs room rows) (h1 : ¬ YB v vs c) (h2 : Y ≠ c) (h3 : rv.ownBlock ≠ some c) : YardO B (w.setCell ⟨c, i, none⟩ u) Y rv v vs room rows :=
  ⟨h.low, (heap_setCell h2).trans h.blk, h.room.same (fun k hk => heap_setCell (fun e => h3 (by rw [hk, e]))), h.tab.same (fun k hk => heap_setCell (fun e => h1 (.inl (by rw [hk, e])))) (fun j hj k hk => heap_setCell (fun e => h1 (.inr ⟨j, hj, by rw [hk, e]⟩))), h.far⟩
theorem shs_at {w : World} {b off : Nat} {l : List ShV} (h : ∀ i, i < l.length → w.cell? ⟨b, off + i * 3, none⟩ = some (.int .i64 (l.getD i ShV.zero).f) ∧ w.cell? ⟨b, off + i * 3 + 1, none⟩ = some (.int .i64 (l.getD i ShV.zero).t) ∧ w.cell? ⟨b, off + i * 3 + 2, none⟩ = some (.int .i64 (l.getD i ShV.zero).m)) {k : Nat} (hk : k < l.length) : w.cell? ⟨b, off + k * 3, none⟩ = some (.int .i64 l[k].f) ∧ w.cell? ⟨b, off + k * 3 + 1, none⟩ = some (.int .i64 l[k].t) ∧ w.cell? ⟨b, off + k * 3 + 2, none⟩ = some (.int .i64 l[k].m) := by
  have e : l.getD k ShV.zero = l[k] := by simp [List.getD, hk]
  have := h k hk
  rw [e] at this
  exact this
theorem al2 (w : World) (o1 o2 : Obj) : Below w.heap.size w ((w.alloc o1).alloc o2) ∧ ((w.alloc o1).alloc o2).heap[w.heap.size]? = some o1 ∧ ((w.alloc o1).alloc o2).heap[w.heap.size + 1]? = some o2 ∧ ((w.alloc o1).alloc o2).heap.size = w.heap.size + 1 + 1 := by
  have b1 := balloc w o1
  have b2 := balloc (w.alloc o1) o2
  have k1 := blk_keep b2 (heap_alloc_new w o1)
  have k2 := heap_alloc_new (w.alloc o1) o2
  rw [sz1] at k2
  exact ⟨btrans b1 b2, k1, k2, by rw [sz1, sz1]⟩
theorem code_step {n k : Nat} {cs : List Int} {c : Int} (hl : cs.length = k) (hk : k < n) : ((enc cs) ++ List.replicate (n - k) (Value.int .i64 0)).set k (Value.int .i64 c) = enc (cs ++ [c]) ++ List.replicate (n - (k + 1)) (Value.int .i64 0) := by
  rw [set_step _ _ _ _ (by simp [enc, hl]) hk]
  simp [enc]
set_option maxRecDepth 20000 in
set_option maxHeartbeats 6400000 in
theorem cPlayI (ra : Option Addr) (rc : Nat) (room : List Int) (a : Option Addr) (c : Nat) (us : List Value) (rows : List (List Int)) (la : Option Addr) (lc : Nat) (l : List ShV) (w : World) (hM : Ints w ra room) (hR : RowsW w a us rows) (hL : Shs w la l) (lM : room.length ≤ 1048576) (lR : rows.length ≤ 1048576) (lr : ∀ i, i < rows.length → (rwA rows i).length ≤ 1048576) (lL : l.length ≤ 1048576) :
    Calls Try.prog 14 #[.agg #[.slice ra room.length rc, .slice a rows.length c], .slice la l.length lc] w (AnsPl w room (plR room rows l) (plC room rows l)) := by
  obtain ⟨i0, hi, hz0, hz1, hz2⟩ := info_parts infoInts
  obtain ⟨HB, A0, A2, hz⟩ := al2 w (.cells #[.slice ra room.length rc, .slice a rows.length c] 27) (.cells #[.slice none 0 0, .slice none 0 0] 27)
  go_enter Try.func14, Try.ntmps14
  go_wp2_with fail
  generalize (w.alloc (Obj.cells #[Value.slice ra room.length rc, Value.slice a rows.length c] 27)).alloc (Obj.cells #[Value.slice none 0 0, Value.slice none 0 0] 27) = W at *
  refine (cYardOf ra rc room a c us rows W (hM.below HB) (hR.below HB) lM lR lr).mono ?_
  rintro e w1 ⟨Y, rv, v, vs, rfl, hY, hb⟩
  replace HB := btrans HB hb
  replace A2 := blk_keep hb A2
  clear hb A0
  generalize hBB : W.heap.size = B at *
  have hBlo : w.heap.size + 1 < B := by omega
  replace hz := hide hz
  have NO : ¬ okPl room rows l → (∃ b : Bool, sidB room rows = b ∧ (b = false ∨ (b = true ∧ 200 < l.length))) := by
    intro h
    cases hok : sidB room rows
    · exact ⟨_, rfl, .inl rfl⟩
    · refine ⟨_, rfl, .inr ⟨rfl, ?_⟩⟩
      by_cases h9 : l.length ≤ 200
      · exact absurd ⟨sidB_iff.1 hok, h9⟩ h
      · omega
  by_cases hok : okPl room rows l
  · have hyes := hide (pl_yes hok)
    have hP0 := hide hok.1
    have hl200 := hok.2
    have hsb : sidB room rows = true := sidB_iff.2 hok.1
    rw [hsb]
    have hn200 : ¬ ((200 : Int) < (l.length : Int)) := by omega
    clear hok NO hsb
    go_wp2_with (at_make; refine wpList_make_full _ rfl _ _ 24 rfl w1.heap.size 3 i0 (Value.int .i64 0) 1 Try.underlying24 hi hz0 hz1 _ _ _ _ l.length rfl rfl rfl rfl (by rw [hz2]; omega) (by unfold maxLen; omega) (Nat.le_refl _) ?_; intro w2 hown hgrow)
    have hown' : w2.ownsRow w1.heap.size 3 1 (.slice (some ⟨w1.heap.size, 0, none⟩) l.length l.length) l.length (enc (playC room rows (l.take 0)) ++ List.replicate (l.length - 0) (Value.int .i64 0)) := by
      simpa [toList_madeCells_one, Value.cells, playC, enc] using hown
    have hb2 : Below w1.heap.size w1 w2 := (Below.refl _ _).grown hgrow (Nat.le_refl _) (fun k hk => by cases hk)
    have hY2 : YardO B w2 Y rv v vs room (playR room rows (l.take 0)) := by simpa [playR] using hY.keep hb2
    have A22 := blk_keep hb2 A2
    have HB2 := btrans HB hb2
    have hYC : Y < w1.heap.size := lt_of_block hY.blk
    have hrvC : ∀ k, rv.ownBlock = some k → k < w1.heap.size := fun k hk => (hY.room.blk k hk).2.1
    have hfar0 : ¬ YB v vs w1.heap.size := by
      rintro (hk | ⟨j, hj, hk⟩)
      · have := (own_type hY.tab.own _ hk).2.1; omega
      · have := ((hY.tab.each j hj).blk _ hk).2.1; omega
    have hCB : B ≤ w1.heap.size := hY.size
    generalize hC : w1.heap.size = C at *
    clear hown hgrow hY hb2 A2 HB
    go_loopw [9, 10, 30] (fun _ _ i wr => ∃ (k : Nat) (vs : List Value), k ≤ l.length ∧ i = .int .i64 k ∧ YardO B wr Y rv v vs room (playR room rows (l.take k)) ∧ ¬ YB v vs C ∧ wr.ownsRow C 3 1 (.slice (some ⟨C, 0, none⟩) l.length l.length) l.length (enc (playC room rows (l.take k)) ++ List.replicate (l.length - k) (Value.int .i64 0)) ∧ wr.heap[w.heap.size + 1]? = some (.cells #[.slice none 0 0, .slice none 0 0] 27 (0, 0)) ∧ Below w.heap.size w wr) (fun _ _ i _ => l.length - (intOf i).toNat)
    case atStart => exact ⟨0, vs, by omega, rfl, hY2, hfar0, hown', A22, HB2⟩
    case round =>
      obtain ⟨k, vs, hk, rfl, hY, hfar, hO, A2, HB⟩ := hrel
      clear hY2 hfar0 hown' A22 HB2
      have hCs : C < wr.heap.size := owns_lt hO
      by_cases hlt : k < l.length
      · obtain ⟨lb, lo, rfl, hcl⟩ : ∃ b off, la = some ⟨b, off, none⟩ ∧ ∀ i, i < l.length → w.cell? ⟨b, off + i * 3, none⟩ = some (.int .i64 (l.getD i ShV.zero).f) ∧ w.cell? ⟨b, off + i * 3 + 1, none⟩ = some (.int .i64 (l.getD i ShV.zero).t) ∧ w.cell? ⟨b, off + i * 3 + 2, none⟩ = some (.int .i64 (l.getD i ShV.zero).m) := by
          rcases hL with q | q
          · simp [q] at hlt
          · exact q
        obtain ⟨p0, p1, p2⟩ := shs_at hcl hlt
        replace p0 := ble HB p0
        replace p1 := ble HB p1
        replace p2 := ble HB p2
        have hst := hide (List.take_succ_eq_append_getElem hlt)
        generalize hxk : l[k] = x at *
        have hb1 := balloc wr (.cells #[.int .i64 x.f, .int .i64 x.t, .int .i64 x.m] 37)
        have hY1 := hY.keep hb1
        have hO1 := own_keep hO hb1
        have A21 := blk_keep hb1 A2
        have HB1 := btrans HB hb1
        have CSh := cShuntF B Y rv v vs room _ x _ hY1 (hP0.out.play (xs := l.take k))
        have hnr : playR room rows (l.take (k + 1)) = leftS room (playR room rows (l.take k)) x := by rw [hst.out]; exact playR_snoc x
        have hnc : playC room rows (l.take (k + 1)) = playC room rows (l.take k) ++ [codeS room (playR room rows (l.take k)) x] := by rw [hst.out]; exact playC_snoc x
        have hcl2 : (playC room rows (l.take k)).length = k := by rw [playC_len, List.length_take]; omega
        unfold ShV.val at CSh
        have hxkH := hide hxk
        replace hnr := hide hnr
        replace hnc := hide hnc
        replace hcl2 := hide hcl2
        clear hcl hY hO A2 HB hst hxk
        generalize playR room rows (l.take k) = rk at *
        generalize hcd : codeS room rk x = cd at *
        go_wp2_with fail
        refine CSh.mono ?_
        rintro e w3 ⟨rfl, ⟨vs', hY3, hsub⟩, hb3, hF3⟩
        rw [hcd] at *
        have hfar3 : ¬ YB v vs' C := fun hh => by
          rcases hsub C hh with q | q
          · exact hfar q
          · rw [sz1] at q; omega
        have hO3 := own_same (w' := w3) hO1 (fun b hb => by
          simp [Value.ownBlock] at hb
          subst hb
          exact hF3.block _ (by rw [sz1]; omega) hfar)
        have A23 : w3.heap[w.heap.size + 1]? = _ := (hb3.block (w.heap.size + 1) (by omega)).trans A21
        have HB3 : Below w.heap.size w w3 := HB1.trans (hb3.mono (by omega))
        obtain ⟨hO4, -⟩ := hO3.stored k (Value.int .i64 cd)
        rw [code_step hcl2.out hlt, ← hnc.out] at hO4
        have hf4 := hO3.frozenAt k
        have hc4 : w3.cell? ⟨C, k, none⟩ = some (.int .i64 0) := by
          rw [hO3.cellAt k (by omega), List.getElem?_append_right (by simp [enc, hcl2.out])]
          simp [enc, hcl2.out, List.getElem?_replicate]
          omega
        have hY4 := hY3.setOut (c := C) (i := k) (u := .int .i64 cd) hfar3 (by omega) (fun e => by have := hrvC C e; omega)
        rw [← hnr.out] at hY4
        have A24 : (w3.setCell ⟨C, k, none⟩ (.int .i64 cd)).heap[w.heap.size + 1]? = _ := (heap_setCell (by omega)).trans A23
        have HB4 : Below w.heap.size w (w3.setCell ⟨C, k, none⟩ (.int .i64 cd)) := below_set (by omega) HB3
        clear hY1 hO1 A21 HB1 CSh hY3 hsub hb3 hF3 hO3 A23 HB3 p0 p1 p2
        go_wp2
        go_roundw
        case rel => exact ⟨k + 1, vs', by omega, by go_num, hY4, hfar3, hO4, A24, HB4⟩
        case measure => simp [intOf]; omega
      · obtain rfl : k = l.length := by omega
        rw [List.take_length] at hY hO
        have hcl2 : (playC room rows l).length = l.length := playC_len
        have hO2 : wr.ownsRow C 3 1 (.slice (some ⟨C, 0, none⟩) l.length l.length) (playC room rows l).length (enc (playC room rows l)) := by rw [hcl2]; simpa using hO
        have hlr : (playR room rows l).length = rows.length := playR_len
        replace hcl2 := hide hcl2
        have CB := cBack B Y rv v vs room (playR room rows l) wr hY (by rw [hlr]; exact lR)
        replace hlr := hide hlr
        have hYr := hide (fun j (hj : j < vs.length) => hY.tab.each j hj)
        have hRr := hide hY.room
        clear hO hY
        go_wp2_with fail
        refine CB.mono ?_
        rintro e w3 ⟨v2, rfl, hS, hb⟩
        have hO3 := own_keep hO2 hb
        have A23 := blk_keep hb A2
        have HB3 := btrans HB hb
        have hfar3 : ∀ k, (Value.slice (some ⟨C, 0, none⟩) l.length l.length).ownBlock = some k → ¬ SidB rv v2 vs k := by
          intro k hk
          simp [Value.ownBlock] at hk
          subst hk
          rintro (hh | hh | ⟨j, hj, hh⟩)
          · have := hrvC _ hh; omega
          · obtain ⟨-, -, c1, h1⟩ := own_type hS.tab.own _ hh
            obtain ⟨-, -, c2, h2⟩ := own_type hO3 _ rfl
            rw [h1] at h2
            simp only [Option.some.injEq, Obj.cells.injEq] at h2
            exact absurd h2.2.1 (by decide)
          · exact hfar (.inr ⟨j, hj, hh⟩)
        obtain ⟨ra2, rc2, a2, c2, rfl, rfl, -⟩ := hS.arg
        obtain ⟨⟨r0, r1⟩, f0, f1⟩ := blk2 A23
        generalize hNl : (playR room rows l).length = NL at *
        replace hNl := hide hNl
        have hSV := hS.box (p := .slice ra2 room.length rc2) (q := .slice a2 NL c2) A23
        have KV := box_set (p := .slice ra2 room.length rc2) (q := .slice a2 NL c2) A23
        have hOV := own_same (w' := (w3.setCell ⟨w.heap.size + 1, 0, none⟩ (.slice ra2 room.length rc2)).setCell ⟨w.heap.size + 1, 1, none⟩ (.slice a2 NL c2)) hO3 (fun b hb => by have := own_blk_ne hO3 A23 (by decide) b hb; rw [heap_setCell this, heap_setCell this])
        have HBV : Below w.heap.size w ((w3.setCell ⟨w.heap.size + 1, 0, none⟩ (.slice ra2 room.length rc2)).setCell ⟨w.heap.size + 1, 1, none⟩ (.slice a2 NL c2)) := below_set (by omega) (below_set (by omega) HB3)
        obtain ⟨⟨v0, v1⟩, -⟩ := blk2 KV
        clear hS HB3 hb HB A2 A23 KV hO3 hO2 CB
        go_wp2
        generalize (w3.setCell ⟨w.heap.size + 1, 0, none⟩ (.slice ra2 room.length rc2)).setCell ⟨w.heap.size + 1, 1, none⟩ (.slice a2 NL c2) = V at *
        refine bodyPost_ret (v := .tuple #[.agg #[.slice ra2 room.length rc2, .slice a2 NL c2], .slice (some ⟨C, 0, none⟩) l.length l.length]) (by simp [results, Try.results14, v0, v1, go_sem]) rfl ?_
        exact ⟨_, _, _, _, rfl, by rw [hyes.out.1]; exact hSV.base (by omega), by rw [hyes.out.2]; exact RowI.own_below hOV (by omega), hfar3, HBV⟩
  · have hno := hide (pl_no hok)
    obtain ⟨b, hb1, hb2⟩ := NO hok
    rw [hb1]
    clear hok NO hb1
    have FIN : ∀ w2 v2, SidO B w2 rv v2 vs room rows → Below w1.heap.size w1 w2 → True := fun _ _ _ _ => trivial
    rcases hb2 with rfl | ⟨rfl, h200⟩
    all_goals
      go_wp2_with fail
      refine (cBack _ Y rv v vs room rows w1 hY lR).mono ?_
      rintro e w2 ⟨v2, rfl, hS, hb⟩
      replace A2 := blk_keep hb A2
      have HB2 := btrans HB hb
      obtain ⟨ra2, rc2, a2, c2, rfl, rfl, -⟩ := hS.arg
      obtain ⟨⟨r0, r1⟩, f0, f1⟩ := blk2 A2
      have hSV := hS.box (p := .slice ra2 room.length rc2) (q := .slice a2 rows.length c2) A2
      have KV := box_set (p := .slice ra2 room.length rc2) (q := .slice a2 rows.length c2) A2
      have HBV : Below w.heap.size w ((w2.setCell ⟨w.heap.size + 1, 0, none⟩ (.slice ra2 room.length rc2)).setCell ⟨w.heap.size + 1, 1, none⟩ (.slice a2 rows.length c2)) := below_set (by omega) (below_set (by omega) HB2)
      obtain ⟨⟨v0, v1⟩, -⟩ := blk2 KV
      clear hS HB2 hb hY HB A2 KV FIN
      go_wp2
      generalize (w2.setCell ⟨w.heap.size + 1, 0, none⟩ (.slice ra2 room.length rc2)).setCell ⟨w.heap.size + 1, 1, none⟩ (.slice a2 rows.length c2) = V at *
      refine bodyPost_ret (v := .tuple #[.agg #[.slice ra2 room.length rc2, .slice a2 rows.length c2], .slice none 0 0]) (by simp [results, Try.results14, v0, v1, go_sem]) rfl ?_
      exact ⟨_, _, _, _, rfl, by rw [hno.out.1]; exact hSV.base (by omega), by rw [hno.out.2]; exact World.ownsRow_nil _ _ _ _, fun k hk => by simp [Value.ownBlock] at hk, HBV⟩
end Go.Proofs.Ytipechbhhpagiaa
