/- Draws: a right locomotive with its cars, a speed and a span. -/
import Derived.Test.YtcadgafenbmihabDC
namespace Go.Proofs.Ytcadgafenbmihab
open Go.RowKit Fl

attribute [local go_sem] run_store_float

theorem info27b : (Try.prog.info? 38).map (fun i => (i.zero, i.size, i.bytes)) = some (some (.agg #[.float .f64 0, .float .f64 0, .float .f64 0, .float .f64 0]), 4, 32) := info27
theorem train_of {es : List CarV} (h1 : 1 ≤ es.length) (h2 : es.length ≤ 40) (h : ∀ c ∈ es, carOk c = true) : trainOk es = true := by
  unfold trainOk lenOk okTo
  rw [List.take_length, Bool.and_eq_true, List.all_eq_true]
  exact ⟨by simp; omega, h⟩
theorem far7 {w : World} {b o b' k : Nat} {x v : Value} (h : w.cell? ⟨b', k, none⟩ = some v) (hne : b ≠ b') : (w.setCell ⟨b, o, none⟩ x).cell? ⟨b', k, none⟩ = some v := by
  refine Eq.trans (World.cell?_setCell_other w _ _ _ ?_) h
  intro e; cases e; exact hne rfl
theorem flat1 (q : CarV) : flat [q] = [.float .f64 q.m, .float .f64 q.a, .float .f64 q.b, .float .f64 q.c] := rfl

set_option maxRecDepth 20000 in
set_option maxHeartbeats 6400000 in
theorem c49 (a : Option Addr) (cap : Nat) (zs : List Int) (w : World) (hz : Bytes w a zs) (hl : zs.length ≤ 1048576) :
    Calls Try.prog 5 #[.slice a zs.length cap] w fun e w' => ∃ (p g v sp : Nat) (u : Value) (es : List CarV), e = .returned (.tuple #[.agg #[.float .f64 p, .float .f64 g], u, .float .f64 v, .float .f64 sp]) ∧ locoOk ⟨p, g⟩ = true ∧ trainOk es = true ∧ (∀ c ∈ es, c.m < 2 ^ 64) ∧ spd v = true ∧ sg v = false ∧ spn sp = true ∧
      w'.ownsRow w.heap.size 38 4 u es.length (flat es) ∧ Below w.heap.size w w' := by
  obtain ⟨i0, hi, hz0, hz1, hz2⟩ := info_parts2 info27b
  have HB0 := balloc w (.cells #[.float .f64 0, .float .f64 0] 26)
  have K0 : (w.alloc (.cells #[.float .f64 0, .float .f64 0] 26)).heap[w.heap.size]? = some (.cells #[.float .f64 0, .float .f64 0] 26 (0, 0)) := heap_alloc_new w _
  go_enter Try.func5, Try.ntmps5
  go_wp2_with fail
  refine (cnew a cap zs _ (hz.below HB0) hl).mono ?_
  rintro e w1 ⟨cb, rfl, hcb, C1, hb⟩
  have HB1 := btrans HB0 hb
  have K1 := blk_below K0 hb
  have hcb1 : w.heap.size < cb := by simp at hcb; omega
  have hcbne : some w.heap.size ≠ some cb := by intro e; simp at e; omega
  clear hb HB0 K0 hcb
  go_wp2_with fail
  refine (cbelow cb cap a zs 9000 _ C1 hl (by omega) (by omega)).mono ?_
  rintro e w2 ⟨x, rfl, x0, x1, C2, G2⟩
  have HB2 : Below w.heap.size w w2 := HB1.grown G2 HB1.size (fun k hk => by cases hk; omega)
  have K2 := blk_grow K1 G2 hcbne
  clear HB1 K1 C1 G2
  obtain ⟨n1, rfl⟩ := Int.eq_ofNat_of_zero_le x0
  have hP := draw_p (n := n1) (by omega)
  rw [show ((200 + n1 : Nat) : Int) = 200 + (n1 : Int) by omega] at hP
  go_wp2_with fail
  refine (cbelow cb cap a zs 900 _ C2 hl (by omega) (by omega)).mono ?_
  rintro e w3 ⟨y, rfl, y0, y1, C3, G3⟩
  have HB3 : Below w.heap.size w w3 := HB2.grown G3 HB2.size (fun k hk => by cases hk; omega)
  have K3 := blk_grow K2 G3 hcbne
  clear HB2 K2 C2 G3
  obtain ⟨n2, rfl⟩ := Int.eq_ofNat_of_zero_le y0
  obtain ⟨hG1, hG⟩ := draw_g (n := n2) (by omega)
  rw [show ((20 + n2 : Nat) : Int) = 20 + (n2 : Int) by omega] at hG hG1
  have og := fop hG1
  clear hG1
  generalize floatOfInt .f64 (200 + (n1 : Int)) = p at *
  generalize fdiv (floatOfInt .f64 (20 + (n2 : Int))) k2 = g at *
  have hloco : locoOk ⟨p, g⟩ = true := by unfold locoOk; rw [hP, hG]; rfl
  have hc3 := C3.lt (.inl rfl)
  have k3lt := lt_of_block K3
  -- the locomotive's box, the row
  have HB4 := btrans HB3 (balloc w3 (.cells #[.float .f64 p, .float .f64 g] 26))
  have K4 := blk_below K3 (balloc w3 (.cells #[.float .f64 p, .float .f64 g] 26))
  have C4 := C3.below (balloc w3 (.cells #[.float .f64 p, .float .f64 g] 26))
  have B4 : (w3.alloc (.cells #[.float .f64 p, .float .f64 g] 26)).heap[w3.heap.size]? = some (.cells #[.float .f64 p, .float .f64 g] 26 (0, 0)) := heap_alloc_new w3 _
  have hsz : (w3.alloc (.cells #[.float .f64 p, .float .f64 g] 26)).heap.size = w3.heap.size + 1 := by simp
  go_wp2_with fail
  generalize w3.alloc (.cells #[.float .f64 p, .float .f64 g] 26) = w4 at *
  generalize w3.heap.size = b7 at *
  have HB5 := btrans HB4 (balloc w4 (.cells #[] 38))
  have K5 := blk_below K4 (balloc w4 (.cells #[] 38))
  have C5 := C4.below (balloc w4 (.cells #[] 38))
  have B5 := blk_below B4 (balloc w4 (.cells #[] 38))
  have O5 : (w4.alloc (.cells #[] 38)).ownsRow (b7 + 1) 38 4 (.slice (some ⟨w4.heap.size, 0, none⟩) 0 0) 0 [] := World.ownsRow_made w4 #[] 0 (by omega) (by omega) rfl
  have hw5 : b7 + 1 ≤ (w4.alloc (.cells #[] 38)).heap.size := by simp; omega
  clear HB3 K3 C3 HB4 K4 C4 B4
  refine (cbelow cb cap a zs 4 _ C5 hl (by omega) (by omega)).mono ?_
  rintro e w6 ⟨nn, rfl, nn0, nn1, C6, G6⟩
  have hb7ne : some b7 ≠ some cb := by intro e; simp at e; omega
  have HB6 : Below w.heap.size w w6 := HB5.grown G6 HB5.size (fun k hk => by cases hk; omega)
  have K6 := blk_grow K5 G6 hcbne
  have B6 := blk_grow B5 G6 hb7ne
  have O6 := own_far O5 G6 (fun k hk => by have := own_from O5 (Nat.le_refl _) k hk; intro e; cases e; omega)
  have hw6 := Nat.le_trans hw5 G6.size
  clear HB5 K5 C5 B5 O5 G6 hw5 og
  go_wp2_with fail
  go_loopw [8, 9] (fun u ii wr => ∃ (es : List CarV) (I : Int), ii = .int .i64 I ∧ 0 ≤ I ∧ (es.length : Int) + I = 1 + nn ∧ (∀ c ∈ es, carOk c = true ∧ c.m < 2 ^ 64) ∧ wr.ownsRow (b7 + 1) 38 4 u es.length (flat es) ∧ Cur wr cb a cap zs ∧ Below w.heap.size w wr ∧ wr.heap[w.heap.size]? = some (.cells #[.float .f64 0, .float .f64 0] 26 (0, 0)) ∧ wr.heap[b7]? = some (.cells #[.float .f64 p, .float .f64 g] 26 (0, 0)) ∧ b7 + 1 ≤ wr.heap.size) (fun _ ii _ => (intOf ii).toNat)
  case atStart => exact ⟨[], 1 + nn, rfl, by omega, by simp, by simp, (by have := O6; rw [hsz] at this; exact this), C6, HB6, K6, B6, hw6⟩
  case round =>
    clear O6 C6 HB6 K6 B6 hw6
    obtain ⟨es, I, rfl, I0, hLI, hall, O, C, HB, K, B, hw⟩ := hrel
    by_cases hI : 0 < I
    · go_wp2_with fail
      refine (c66 cb cap a zs _ C hl).mono ?_
      rintro e w7 ⟨q, rfl, q1, q2, C7, G7⟩
      have HB7 : Below w.heap.size w w7 := HB.grown G7 HB.size (fun k hk => by cases hk; omega)
      have K7 := blk_grow K G7 hcbne
      have B7 := blk_grow B G7 hb7ne
      have O7 := own_far O G7 (fun k hk => by have := own_from O (Nat.le_refl _) k hk; intro e; cases e; omega)
      have hw7 := Nat.le_trans hw G7.size
      clear HB K B O hw G7 C
      unfold CarV.val
      go_wp2_with (at_builtin; refine wpList_append_own _ rfl _ _ 27 rfl (b7 + 1) 38 i0 (.agg #[.float .f64 0, .float .f64 0, .float .f64 0, .float .f64 0]) 4 32 Try.underlying27 hi hz0 hz1 hz2 rfl (by decide) _ _ _ rfl (O7.alloc _) ⟨w7.heap.size, 0, none⟩ 1 1 (flat [q]) rfl rfl ?c1 ?c2 ?c3 ?c4 ?c5 ?_)
      case c1 =>
        intro j u hj
        rw [flat1] at hj
        match j, hj with
        | 0, hj => simp at hj; subst hj; simp [Addr.add]
        | 1, hj => simp at hj; subst hj; simp [Addr.add]
        | 2, hj => simp at hj; subst hj; simp [Addr.add]
        | 3, hj => simp at hj; subst hj; simp [Addr.add]
      case c2 => intro u hu; rw [flat1] at hu; simp at hu; rcases hu with rfl | rfl | rfl | rfl <;> rfl
      case c3 => unfold maxLen; omega
      case c4 => omega
      case c5 => simp; omega
      intro v' w8 hown' hgrow _
      have hr := own_from O7 (Nat.le_refl _)
      have HB8 : Below w.heap.size w w8 := (btrans HB7 (balloc _ _)).grown hgrow (by have := HB7.size; simp; omega) (fun k hk => by have := hr k hk; have := lt_of_block K7; omega)
      have K8 := blk_grow (blk_below K7 (balloc _ _)) hgrow (fun e => by have := hr _ e.symm; omega)
      have B8 := blk_grow (blk_below B7 (balloc _ _)) hgrow (fun e => by have := hr _ e.symm; omega)
      have C8 := C7.keep (w' := w8) (fun k hk => by
        have hk1 : k < w7.heap.size := C7.lt hk
        have hk2 : k < b7 + 1 := by
          rcases hk with rfl | hk
          · omega
          · obtain ⟨hne, off, ha⟩ := hk
            rcases hz with hz | ⟨b', off', ha', hc'⟩
            · exact absurd hz hne
            · rw [ha] at ha'; simp only [Option.some.injEq, Addr.mk.injEq] at ha'
              have := cell_lt (hc' 0 (by cases zs <;> simp_all)).1
              omega
        exact (hgrow.block k (by simp; omega) (fun e => by have := hr _ e.symm; omega)).trans (Below.heap_alloc w7 _ k hk1))
      have hw8 : b7 + 1 ≤ w8.heap.size := by have := hgrow.size; simp at this; omega
      have O8 : w8.ownsRow (b7 + 1) 38 4 v' (es ++ [q]).length (flat (es ++ [q])) := by
        rw [flat_app, List.length_append]; exact hown'
      clear hown' hgrow O7 C7 HB7 K7 B7 hr hw7
      go_wp2
      go_roundw
      case rel => exact ⟨es ++ [q], I - 1, by go_num, by omega, by simp; omega, by intro c hc; rcases List.mem_append.1 hc with h | h; exact hall c h; simp at h; subst h; exact ⟨q1, q2⟩, O8, C8, HB8, K8, B8, hw8⟩
      case measure => simp [intOf]; omega
    · obtain rfl : I = 0 := by omega
      have ht := train_of (es := es) (by omega) (by omega) (fun c hc => (hall c hc).1)
      have h64 : ∀ c ∈ es, c.m < 2 ^ 64 := fun c hc => (hall c hc).2
      have hO := own_form O
      clear hall
      have b0 := Go.Joins.cell_of_block B 0
      have b1 := Go.Joins.cell_of_block B 1
      have hblt := lt_of_block B
      have hKlt := lt_of_block K
      have hne7 : w.heap.size ≠ b7 := by omega
      go_wp2_with fail
      go_region_held3 (fun w' => w'.cell? ⟨b7, 0, none⟩ = some (.float .f64 p) ∧ w'.cell? ⟨b7, 1, none⟩ = some (.float .f64 g)) (first | go_keep | (refine ⟨by assumption, by assumption⟩) | (go_split_ands; refine ⟨far7 (by assumption) hne7, far7 (by assumption) hne7⟩)) (first
        | (go_at_call 12; with_reducible refine (cbelow cb cap a zs 400 _ (Cur.below C (Below.refl _ wr).drew) hl (by omega) (by omega)).mono ?_; rintro e w7 ⟨x3, rfl, x30, x31, C7, G7⟩; have B7 := blk_grow (w := wr.drew) B G7 hb7ne; have K7 := blk_grow (w := wr.drew) K G7 hcbne; have z0 := Go.Joins.cell_of_block B7 0; have z1 := Go.Joins.cell_of_block B7 1; obtain ⟨n3, rfl⟩ := Int.eq_ofNat_of_zero_le x30; obtain ⟨v1, v2, v3⟩ := draw_v (n := n3) (by omega); have o7 := fop v1; clear v1)
        | (go_at_call 12; with_reducible refine (cbelow cb cap a zs 40 _ C7 hl (by omega) (by omega)).mono ?_; rintro e w8 ⟨x4, rfl, x40, x41, C8, G8⟩; have B8 := blk_grow B7 G8 hb7ne; have K8 := blk_grow K7 G8 hcbne; have y0 := Go.Joins.cell_of_block B8 0; have y1 := Go.Joins.cell_of_block B8 1; obtain ⟨n4, rfl⟩ := Int.eq_ofNat_of_zero_le x40; obtain ⟨u1, u2, u3⟩ := draw_sp (n := n4) (by omega); have o8 := fop u1; clear u1; have r0 := Go.Joins.cell_of_block K8 0; have r1 := Go.Joins.cell_of_block K8 1; have f0 := Go.Joins.unfrozen_of_block K8 0; have f1 := Go.Joins.unfrozen_of_block K8 1))
      generalize fdiv (floatOfInt .f64 (n3 : Int)) k8 = fv3 at *
      generalize fdiv (floatOfInt .f64 (n4 : Int)) k8 = fv4 at *
      have G7' : wr.grownBy w7 (some cb) := ⟨G7.os, G7.tape, G7.output, G7.size, G7.block⟩
      have O8 := own_far (own_far O G7' (fun k hk => by have := own_from O (Nat.le_refl _) k hk; intro e; cases e; omega)) G8 (fun k hk => by have := own_from O (Nat.le_refl _) k hk; intro e; cases e; omega)
      have HB8 : Below w.heap.size w w8 := (HB.grown G7' HB.size (fun k hk => by cases hk; omega)).grown G8 (Nat.le_trans HB.size G7.size) (fun k hk => by cases hk; omega)
      have L1 := Go.Joins.block_setCell (i := 0) K8 (.float .f64 p)
      have L2 := Go.Joins.block_setCell (i := 1) L1 (.float .f64 g)
      simp only [List.setIfInBounds_toArray, List.set_cons_succ, List.set_cons_zero] at L2
      have O9 := ownsRow_setCell_below (a := ⟨w.heap.size, 1, none⟩) (ownsRow_setCell_below (a := ⟨w.heap.size, 0, none⟩) O8 (by show w.heap.size < b7 + 1; omega) (.float .f64 p)) (by show w.heap.size < b7 + 1; omega) (.float .f64 g)
      have HB9 := bset (i := 1) (u := .float .f64 g) (bset (i := 0) (u := .float .f64 p) HB8 (Nat.le_refl _)) (Nat.le_refl _)
      have s0 := Go.Joins.cell_of_block L2 0
      have s1 := Go.Joins.cell_of_block L2 1
      go_wp2_with fail
      refine bodyPost_ret (v := .tuple #[.agg #[.float .f64 p, .float .f64 g], u8, .float .f64 fv3, .float .f64 fv4]) (by simp [results, Try.results5, go_sem, s0, s1]) rfl ⟨p, g, fv3, fv4, _, es, rfl, hloco, ht, h64, v2, v3, u2, Go.Joins.ownsRow_le O9 (by omega), HB9⟩
end Go.Proofs.Ytcadgafenbmihab
