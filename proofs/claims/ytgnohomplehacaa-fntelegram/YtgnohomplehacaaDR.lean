/- A drawn telegram. -/
import Derived.Test.YtgnohomplehacaaDT
namespace Go.Proofs.Ytgnohomplehacaa
open Go.RowKit
def DrawnR (w : World) (e : Ending) (w' : World) : Prop :=
  ∃ (t : TelV) (v : Value), e = .returned (.agg #[.int .i64 t.q, .int .i64 t.k, v]) ∧ okT t = true ∧ By t.b ∧ t.b.length ≤ 6 ∧ w'.ownsRow w.heap.size 5 1 v t.b.length (enc8 t.b) ∧ Below w.heap.size w w'
set_option maxRecDepth 100000 in
set_option maxHeartbeats 12800000 in
theorem cDrawR (cb cap : Nat) (a : Option Addr) (bs : List Int) (w0 : World) (C0 : Cur w0 cb a cap bs) (hl : bs.length ≤ 1048576) :
    Calls Try.prog 47 #[.pointer (some ⟨cb, 0, none⟩)] w0 fun e w' => ∃ (t : TelV) (v : Value), e = .returned (.agg #[.int .i64 t.q, .int .i64 t.k, v]) ∧ okT t = true ∧ By t.b ∧ t.b.length ≤ 6 ∧ w'.ownsRow w0.heap.size 5 1 v t.b.length (enc8 t.b) ∧ w0.grownBy w' (some cb) := by
  obtain ⟨i1, hi1, hy0, hy1, hy2⟩ := info_parts infoBys
  have hcB : cb < w0.heap.size := C0.lt (.inl rfl)
  have hOn : ∀ k, OnCur cb a bs k → k < w0.heap.size := fun k hk => C0.lt hk
  have A1 := balloc w0 (.cells #[.int .i64 0, .int .i64 0, .slice none 0 0] 25)
  have C1 := C0.below A1
  have Q0 := one_block w0 (.cells #[.int .i64 0, .int .i64 0, .slice none 0 0] 25)
  have G0 := gofr (some cb) A1
  go_enter Try.func47, Try.ntmps47
  go_wp2_with fail
  generalize w0.alloc (.cells #[.int .i64 0, .int .i64 0, .slice none 0 0] 25) = wA at *
  refine (cbelow cb cap a bs 256 _ C1 hl (by omega) (by omega)).mono ?_
  rintro e w1 ⟨q, rfl, q0, q1, C2, G2⟩
  have Q1 := far_blk G2 Q0 (fun j hj => by simp at hj; omega)
  replace G0 := gtrans G0 G2
  clear C1 G2 Q0 A1 C0
  go_wp2_with fail
  refine (cbelow cb cap a bs 16 _ C2 hl (by omega) (by omega)).mono ?_
  rintro e w2 ⟨k, rfl, k0, k1, C3, G3⟩
  have Q2 := far_blk G3 Q1 (fun j hj => by simp at hj; omega)
  replace G0 := gtrans G0 G3
  clear C2 G3 Q1
  have K0 := one_block w2 (.cells #[.int .i64 q, .int .i64 k, .slice none 0 0] 25)
  have A2 := balloc w2 (.cells #[.int .i64 q, .int .i64 k, .slice none 0 0] 25)
  have htb : w0.heap.size ≤ w2.heap.size := G0.size
  have hrt : w0.heap.size ≠ w2.heap.size := by have := lt_of_block Q2; omega
  have C4 := C3.below A2
  have Q3 := blk_keep A2 Q2
  replace G0 := gtrans G0 (gofr _ A2)
  clear C3 Q2 A2
  go_wp2_with fail
  generalize w2.alloc (.cells #[.int .i64 q, .int .i64 k, .slice none 0 0] 25) = w3 at *
  generalize w2.heap.size = tb at *
  refine (cbelow cb cap a bs 7 _ C4 hl (by omega) (by omega)).mono ?_
  rintro e w4 ⟨n3, rfl, n30, n31, C5, G5⟩
  have Q4 := far_blk G5 Q3 (fun j hj => by simp at hj; omega)
  have K4 := far_blk G5 K0 (fun j hj => by simp at hj; omega)
  replace G0 := gtrans G0 G5
  have hn3 : n3 ≤ 6 := by omega
  clear C4 G5 Q3 K0 n31
  go_wp2
  go_loopw [4] (fun ii wr => ∃ (bd : List Int) (m : Nat) (v : Value) (I : Int), ii = .int .i64 I ∧ 0 ≤ I ∧ Hid ((bd.length : Int) + I = n3) ∧ Hid (By bd) ∧ Hid (bd.length = m) ∧ wr.ownsRow w0.heap.size 5 1 v m (enc8 bd) ∧ wr.heap[tb]? = some (.cells #[.int .i64 q, .int .i64 k, v] 25 (0, 0)) ∧ wr.heap[w0.heap.size]? = some (.cells #[.int .i64 0, .int .i64 0, .slice none 0 0] 25 (0, 0)) ∧ Cur wr cb a cap bs ∧ w0.grownBy wr (some cb)) (fun ii _ => (intOf ii).toNat)
  case atStart => exact ⟨[], 0, .slice none 0 0, n3, rfl, n30, hide (by simp), hide By.nil, hide rfl, World.ownsRow_nil _ _ _ _, K4, Q4, C5, G0⟩
  case round =>
    clear K4 Q4 C5 G0
    obtain ⟨bd, m, v, I, rfl, I0, hLI, hBy, hm, O, K, Q, C, hG⟩ := hrel
    have hml : m ≤ 6 := by have := hLI.out; have := hm.out; omega
    have hI4 : I ≤ 6 := by have := hLI.out; omega
    obtain ⟨va, vc, hv⟩ := own_form O
    subst hv
    by_cases hI : 0 < I
    · go_wp2_with fail
      refine wp_region_held_drew (S := (fun _ => True)) (by kernel_rfl) ?_ (fun hHeld => ?_)
      · trivial
      have Bd : Below wr.heap.size wr wr.drew := (Below.refl _ _).drew
      have Kd := blk_keep Bd K
      have Qd := blk_keep Bd Q
      have Od := own_keep O Bd
      have Cd := C.below Bd
      have Gd := gtrans hG (gofr _ Bd)
      have pd := (blk3 Kd).1.2.2
      clear K Q O C hG
      generalize wr.drew = wd at *
      refine wpAnyH_take (i := 0) (v := .pointer (some ⟨tb, 2, none⟩)) rfl (by kernel_rfl) (by kernel_rfl) (by kernel_rfl) (fun _ _ _ h => h) (Or.inl ⟨by kernel_rfl, fun w hS => by go_simp⟩) hHeld ?_
      change wpAnyH _ _ _ _ _ _ _ { tmps := List.toArray (_ :: _ :: _ :: _ :: _ :: _ :: _ :: _ :: _ :: _ :: _ :: _ :: _ :: _ :: _ :: _ :: .pointer (some ⟨tb, 2, none⟩) :: _ :: _ :: _ :: _ :: _ :: _ :: _ :: _ :: _ :: _ :: _ :: []), defers := [] } _
      refine wpAnyH_take (i := 2) (v := .pointer (some ⟨cb, 0, none⟩)) rfl (by kernel_rfl) (by kernel_rfl) (by kernel_rfl) (fun _ _ _ h => h) (Or.inl ⟨by kernel_rfl, fun w hS => by go_simp⟩) hHeld ?_
      change wpAnyH _ _ _ _ _ _ _ { tmps := List.toArray (_ :: _ :: _ :: _ :: _ :: _ :: _ :: _ :: _ :: _ :: _ :: _ :: _ :: _ :: _ :: _ :: .pointer (some ⟨tb, 2, none⟩) :: _ :: .pointer (some ⟨cb, 0, none⟩) :: _ :: _ :: _ :: _ :: _ :: _ :: _ :: _ :: _ :: []), defers := [] } _
      refine wpAnyH_take (i := 3) (v := .pointer (some ⟨cb, 0, none⟩)) rfl (by kernel_rfl) (by kernel_rfl) (by kernel_rfl) (fun _ _ _ h => h) (Or.inl ⟨by kernel_rfl, fun w hS => by go_simp⟩) hHeld ?_
      change wpAnyH _ _ _ _ _ _ _ { tmps := List.toArray (_ :: _ :: _ :: _ :: _ :: _ :: _ :: _ :: _ :: _ :: _ :: _ :: _ :: _ :: _ :: _ :: .pointer (some ⟨tb, 2, none⟩) :: _ :: .pointer (some ⟨cb, 0, none⟩) :: .pointer (some ⟨cb, 0, none⟩) :: _ :: _ :: _ :: _ :: _ :: _ :: _ :: _ :: []), defers := [] } _
      refine wpAnyH_ready (rs := [1, 4]) (by kernel_rfl) (by simp) ?_
      refine (AllReadyH.cons rfl (fun KK hK => ?_) (AllReadyH.cons rfl (fun KK hK => ?_) AllReadyH.nil))
      · skip
        go_simp
        clear hHeld
        refine hK.out _ _ (trivial) (fun hHeld => ?_)
        clear hK KK
        change wpAnyH _ _ _ _ _ _ _ { tmps := List.toArray (_ :: _ :: _ :: _ :: _ :: _ :: _ :: _ :: _ :: _ :: _ :: _ :: _ :: _ :: _ :: _ :: .pointer (some ⟨tb, 2, none⟩) :: .slice va m vc :: .pointer (some ⟨cb, 0, none⟩) :: .pointer (some ⟨cb, 0, none⟩) :: _ :: _ :: _ :: _ :: _ :: _ :: _ :: _ :: []), defers := [] } _
        refine wpAnyH_ready (rs := [4]) (by kernel_rfl) (by simp) ?_
        refine (AllReadyH.cons rfl (fun KK hK => ?_) AllReadyH.nil)
        go_simp
        refine (cbelow cb cap a bs 256 _ Cd hl (by omega) (by omega)).mono ?_
        rintro e we ⟨r, rfl, r0, r1, Ce, Ge⟩
        have Ke := far_blk Ge Kd (fun j hj => by simp at hj; omega)
        have Qe := far_blk Ge Qd (fun j hj => by simp at hj; omega)
        have Oe := own_far Od Ge (fun k hk e => by have := own_from Od (Nat.le_refl _) k hk; simp at e; omega)
        have GE := gtrans Gd Ge
        have pe := (blk3 Ke).1.2.2
        go_wp2_with fail
        clear hHeld
        refine hK.out _ _ (trivial) (fun hHeld => ?_)
        clear hK KK
        change wpAnyH _ _ _ _ _ _ _ { tmps := List.toArray (_ :: _ :: _ :: _ :: _ :: _ :: _ :: _ :: _ :: _ :: _ :: _ :: _ :: _ :: _ :: _ :: .pointer (some ⟨tb, 2, none⟩) :: .slice va m vc :: .pointer (some ⟨cb, 0, none⟩) :: .pointer (some ⟨cb, 0, none⟩) :: .int .i64 r :: _ :: _ :: _ :: _ :: _ :: _ :: _ :: []), defers := [] } _
        refine wpAnyH_ready (rs := [5]) (by kernel_rfl) (by simp) ?_
        refine (AllReadyH.cons rfl (fun KK hK => ?_) AllReadyH.nil)
        go_simp
        have A6 := balloc we (.cells #[.int .i64 125, .int .i64 126, .int .i64 93, .int .i64 94, .int .i64 r, .int .i64 0] 3)
        have F := six we 125 126 93 94 r 0
        have hcw : cb < we.heap.size := Ce.lt (.inl rfl)
        have hnb : ∀ z, (some (⟨we.heap.size, 0, none⟩ : Addr)) = some z → z.block ≠ cb := fun z hz => by injection hz with hz; subst hz; show we.heap.size ≠ cb; omega
        have Cf := Ce.below A6
        have Kf := blk_keep A6 Ke
        have Qf := blk_keep A6 Qe
        have Of := own_keep Oe A6
        have GF := gtrans GE (gofr _ A6)
        have pf := (blk3 Kf).1.2.2
        clear hHeld
        refine hK.out _ _ (trivial) (fun hHeld => ?_)
        clear hK KK
        change wpAnyH _ _ _ _ _ _ _ { tmps := List.toArray (_ :: _ :: _ :: _ :: _ :: _ :: _ :: _ :: _ :: _ :: _ :: _ :: _ :: _ :: _ :: _ :: .pointer (some ⟨tb, 2, none⟩) :: .slice va m vc :: .pointer (some ⟨cb, 0, none⟩) :: .pointer (some ⟨cb, 0, none⟩) :: .int .i64 r :: .slice (some ⟨we.heap.size, 0, none⟩) 6 6 :: _ :: _ :: _ :: _ :: _ :: _ :: []), defers := [] } _
        refine wpAnyH_ready (rs := [6]) (by kernel_rfl) (by simp) ?_
        refine (AllReadyH.cons rfl (fun KK hK => ?_) AllReadyH.nil)
        go_simp
        refine (cPick cb cap a bs _ 6 [125, 126, 93, 94, r, 0] _ Cf hl F hnb (by simp) (by simp)).mono ?_
        rintro e wg ⟨x, rfl, hx, Cg, Gg⟩
        have hx2 : 0 ≤ x ∧ x ≤ 255 := by simp at hx; omega
        have Kg := far_blk Gg Kf (fun j hj => by simp at hj; omega)
        have Qg := far_blk Gg Qf (fun j hj => by simp at hj; omega)
        have Og := own_far Of Gg (fun k hk e => by have := own_from Of (Nat.le_refl _) k hk; simp at e; omega)
        have GG := gtrans GF Gg
        have pg := (blk3 Kg).1.2.2
        have wr8 := wrap8 x hx2.1 hx2.2
        clear hx
        go_wp2_with fail
        clear hHeld
        refine hK.out _ _ (trivial) (fun hHeld => ?_)
        clear hK KK
        change wpAnyH _ _ _ _ _ _ _ { tmps := List.toArray (_ :: _ :: _ :: _ :: _ :: _ :: _ :: _ :: _ :: _ :: _ :: _ :: _ :: _ :: _ :: _ :: .pointer (some ⟨tb, 2, none⟩) :: .slice va m vc :: .pointer (some ⟨cb, 0, none⟩) :: .pointer (some ⟨cb, 0, none⟩) :: .int .i64 r :: .slice (some ⟨we.heap.size, 0, none⟩) 6 6 :: .int .i64 x :: _ :: _ :: _ :: _ :: _ :: []), defers := [] } _
        refine wpAnyH_take (i := 7) (v := .int .u8 x) rfl (by kernel_rfl) (by kernel_rfl) (by kernel_rfl) (fun _ _ _ h => h) (Or.inl ⟨by kernel_rfl, fun w hS => by go_simp⟩) hHeld ?_
        change wpAnyH _ _ _ _ _ _ _ { tmps := List.toArray (_ :: _ :: _ :: _ :: _ :: _ :: _ :: _ :: _ :: _ :: _ :: _ :: _ :: _ :: _ :: _ :: .pointer (some ⟨tb, 2, none⟩) :: .slice va m vc :: .pointer (some ⟨cb, 0, none⟩) :: .pointer (some ⟨cb, 0, none⟩) :: .int .i64 r :: .slice (some ⟨we.heap.size, 0, none⟩) 6 6 :: .int .i64 x :: .int .u8 x :: _ :: _ :: _ :: _ :: []), defers := [] } _
        refine wpAnyH_ready (rs := [8]) (by kernel_rfl) (by simp) ?_
        refine (AllReadyH.cons rfl (fun KK hK => ?_) AllReadyH.nil)
        go_simp
        have p1 := ble (balloc wg (.cells #[.int .u8 x] 5)) pg
        clear hHeld
        refine hK.out _ _ (trivial) (fun hHeld => ?_)
        clear hK KK
        change wpAnyH _ _ _ _ _ _ _ { tmps := List.toArray (_ :: _ :: _ :: _ :: _ :: _ :: _ :: _ :: _ :: _ :: _ :: _ :: _ :: _ :: _ :: _ :: .pointer (some ⟨tb, 2, none⟩) :: .slice va m vc :: .pointer (some ⟨cb, 0, none⟩) :: .pointer (some ⟨cb, 0, none⟩) :: .int .i64 r :: .slice (some ⟨we.heap.size, 0, none⟩) 6 6 :: .int .i64 x :: .int .u8 x :: .slice (some ⟨wg.heap.size, 0, none⟩) 1 1 :: _ :: _ :: _ :: []), defers := [] } _
        refine wpAnyH_ready (rs := [9]) (by kernel_rfl) (by simp) ?_
        refine (AllReadyH.cons rfl (fun KK hK => ?_) AllReadyH.nil)
        have hsg := GG.size
        have sz1 : (wg.alloc (.cells #[.int .u8 x] 5)).heap.size = wg.heap.size + 1 := by simp
        refine step_append_lies _ (by rfl) _ _ 22 (by rfl) w0.heap.size 5 i1 (.int .u8 0) 1 1 Try.underlying22 hi1 hy0 hy1 hy2 rfl (by omega) (.slice va m vc) m (enc8 bd) (by rfl) (own_keep Og (balloc wg (.cells #[.int .u8 x] 5))) ⟨wg.heap.size, 0, none⟩ 1 1 [.int .u8 x] (by rfl) rfl (World.news_of_block (heap_alloc_new wg _)) (fun u hu => by simp at hu; subst hu; rfl) (by omega) (by unfold maxLen; omega) (by omega) (by rw [sz1]; omega) (wg.heap.size + 1) (by rw [sz1]) ?_
        intro g gc w3 hown hgrow hwh hgl
        have hfrom := own_from Og (Nat.le_refl _)
        have K3 := blk_app Kg hgrow (fun e => own_apartB Og Kg (by decide) _ e rfl)
        have Q3 := blk_app Qg hgrow (fun e => own_apartB Og Qg (by decide) _ e rfl)
        have C3 := (Cg.below (balloc wg (.cells #[.int .u8 x] 5))).grow hOn hgrow hfrom
        have G3 := grown_far (gtrans GG (gofr _ (balloc wg (.cells #[.int .u8 x] 5)))) hgrow hfrom
        have p3 := (blk3 K3).1.2.2
        have f3 := (blk3 K3).2.2.2
        have hneb := own_apartB hown K3 (by decide)
        clear hHeld
        refine hK.out _ _ (trivial) (fun hHeld => ?_)
        clear hK KK
        change wpAnyH _ _ _ _ _ _ _ { tmps := List.toArray (_ :: _ :: _ :: _ :: _ :: _ :: _ :: _ :: _ :: _ :: _ :: _ :: _ :: _ :: _ :: _ :: .pointer (some ⟨tb, 2, none⟩) :: .slice va m vc :: .pointer (some ⟨cb, 0, none⟩) :: .pointer (some ⟨cb, 0, none⟩) :: .int .i64 r :: .slice (some ⟨we.heap.size, 0, none⟩) 6 6 :: .int .i64 x :: .int .u8 x :: .slice (some ⟨wg.heap.size, 0, none⟩) 1 1 :: .slice (some ⟨g, 0, none⟩) (m + 1) gc :: _ :: _ :: []), defers := [] } _
        refine wpAnyH_take (i := 10) (v := .pointer (some ⟨tb, 2, none⟩)) rfl (by kernel_rfl) (by kernel_rfl) (by kernel_rfl) (fun _ _ _ h => h) (Or.inl ⟨by kernel_rfl, fun w hS => by go_simp⟩) hHeld ?_
        change wpAnyH _ _ _ _ _ _ _ { tmps := List.toArray (_ :: _ :: _ :: _ :: _ :: _ :: _ :: _ :: _ :: _ :: _ :: _ :: _ :: _ :: _ :: _ :: .pointer (some ⟨tb, 2, none⟩) :: .slice va m vc :: .pointer (some ⟨cb, 0, none⟩) :: .pointer (some ⟨cb, 0, none⟩) :: .int .i64 r :: .slice (some ⟨we.heap.size, 0, none⟩) 6 6 :: .int .i64 x :: .int .u8 x :: .slice (some ⟨wg.heap.size, 0, none⟩) 1 1 :: .slice (some ⟨g, 0, none⟩) (m + 1) gc :: .pointer (some ⟨tb, 2, none⟩) :: _ :: []), defers := [] } _
        refine wpAnyH_ready (rs := [11]) (by kernel_rfl) (by simp) ?_
        refine (AllReadyH.cons rfl (fun KK hK => ?_) AllReadyH.nil)
        go_simp
        have K4 := box_one (u := (.slice (some ⟨g, 0, none⟩) (m + 1) gc)) K3
        have Q4 := blk_other (i := 2) (v := (.slice (some ⟨g, 0, none⟩) (m + 1) gc)) Q3 hrt
        have C4 := C3.grow hOn (grown_set w3 tb 2 (.slice (some ⟨g, 0, none⟩) (m + 1) gc)) (fun k hk => by simp at hk; omega)
        have G4 := grown_far G3 (grown_set w3 tb 2 (.slice (some ⟨g, 0, none⟩) (m + 1) gc)) (fun k hk => by simp at hk; omega)
        have R4 : (w3.setCell ⟨tb, 2, none⟩ (.slice (some ⟨g, 0, none⟩) (m + 1) gc)).ownsRow w0.heap.size 5 1 (.slice (some ⟨g, 0, none⟩) (m + 1) gc) (m + 1) (enc8 (bd ++ [x])) := own_set (by simpa [enc8] using hown) hneb
        clear hHeld
        refine hK.out _ _ (trivial) (fun hHeld => ?_)
        clear hK KK
        change wpAnyH _ _ _ _ _ _ _ { tmps := List.toArray (_ :: _ :: _ :: _ :: _ :: _ :: _ :: _ :: _ :: _ :: _ :: _ :: _ :: _ :: _ :: _ :: .pointer (some ⟨tb, 2, none⟩) :: .slice va m vc :: .pointer (some ⟨cb, 0, none⟩) :: .pointer (some ⟨cb, 0, none⟩) :: .int .i64 r :: .slice (some ⟨we.heap.size, 0, none⟩) 6 6 :: .int .i64 x :: .int .u8 x :: .slice (some ⟨wg.heap.size, 0, none⟩) 1 1 :: .slice (some ⟨g, 0, none⟩) (m + 1) gc :: .pointer (some ⟨tb, 2, none⟩) :: _ :: []), defers := [] } _
        refine wpAnyH_done (by kernel_rfl) ?_ _
        clear hown hgrow hwh hgl hfrom K3 Q3 C3 G3 p3 f3 hneb hsg sz1
        have hL9 : Hid (((bd ++ [x]).length : Int) + (I - 1) = n3) := hide (by have := hLI.out; rw [List.length_append]; push_cast; simp; omega)
        have hB9 : Hid (By (bd ++ [x])) := hide (hBy.out.app (By.one hx2.1 hx2.2))
        have hm9 : Hid ((bd ++ [x]).length = m + 1) := hide (by rw [List.length_append, hm.out]; rfl)
        go_wp2
        go_roundw
        case rel => exact ⟨_, _, _, I - 1, rfl, by omega, hL9, hB9, hm9, R4, K4, Q4, C4, G4⟩
        case measure => simp [intOf]; omega
      · skip
        go_simp
        refine (cbelow cb cap a bs 256 _ Cd hl (by omega) (by omega)).mono ?_
        rintro e we ⟨r, rfl, r0, r1, Ce, Ge⟩
        have Ke := far_blk Ge Kd (fun j hj => by simp at hj; omega)
        have Qe := far_blk Ge Qd (fun j hj => by simp at hj; omega)
        have Oe := own_far Od Ge (fun k hk e => by have := own_from Od (Nat.le_refl _) k hk; simp at e; omega)
        have GE := gtrans Gd Ge
        have pe := (blk3 Ke).1.2.2
        go_wp2_with fail
        clear hHeld
        refine hK.out _ _ (trivial) (fun hHeld => ?_)
        clear hK KK
        change wpAnyH _ _ _ _ _ _ _ { tmps := List.toArray (_ :: _ :: _ :: _ :: _ :: _ :: _ :: _ :: _ :: _ :: _ :: _ :: _ :: _ :: _ :: _ :: .pointer (some ⟨tb, 2, none⟩) :: _ :: .pointer (some ⟨cb, 0, none⟩) :: .pointer (some ⟨cb, 0, none⟩) :: .int .i64 r :: _ :: _ :: _ :: _ :: _ :: _ :: _ :: []), defers := [] } _
        refine wpAnyH_ready (rs := [1, 5]) (by kernel_rfl) (by simp) ?_
        refine (AllReadyH.cons rfl (fun KK hK => ?_) (AllReadyH.cons rfl (fun KK hK => ?_) AllReadyH.nil))
        · skip
          go_simp
          clear hHeld
          refine hK.out _ _ (trivial) (fun hHeld => ?_)
          clear hK KK
          change wpAnyH _ _ _ _ _ _ _ { tmps := List.toArray (_ :: _ :: _ :: _ :: _ :: _ :: _ :: _ :: _ :: _ :: _ :: _ :: _ :: _ :: _ :: _ :: .pointer (some ⟨tb, 2, none⟩) :: .slice va m vc :: .pointer (some ⟨cb, 0, none⟩) :: .pointer (some ⟨cb, 0, none⟩) :: .int .i64 r :: _ :: _ :: _ :: _ :: _ :: _ :: _ :: []), defers := [] } _
          refine wpAnyH_ready (rs := [5]) (by kernel_rfl) (by simp) ?_
          refine (AllReadyH.cons rfl (fun KK hK => ?_) AllReadyH.nil)
          go_simp
          have A6 := balloc we (.cells #[.int .i64 125, .int .i64 126, .int .i64 93, .int .i64 94, .int .i64 r, .int .i64 0] 3)
          have F := six we 125 126 93 94 r 0
          have hcw : cb < we.heap.size := Ce.lt (.inl rfl)
          have hnb : ∀ z, (some (⟨we.heap.size, 0, none⟩ : Addr)) = some z → z.block ≠ cb := fun z hz => by injection hz with hz; subst hz; show we.heap.size ≠ cb; omega
          have Cf := Ce.below A6
          have Kf := blk_keep A6 Ke
          have Qf := blk_keep A6 Qe
          have Of := own_keep Oe A6
          have GF := gtrans GE (gofr _ A6)
          have pf := (blk3 Kf).1.2.2
          clear hHeld
          refine hK.out _ _ (trivial) (fun hHeld => ?_)
          clear hK KK
          change wpAnyH _ _ _ _ _ _ _ { tmps := List.toArray (_ :: _ :: _ :: _ :: _ :: _ :: _ :: _ :: _ :: _ :: _ :: _ :: _ :: _ :: _ :: _ :: .pointer (some ⟨tb, 2, none⟩) :: .slice va m vc :: .pointer (some ⟨cb, 0, none⟩) :: .pointer (some ⟨cb, 0, none⟩) :: .int .i64 r :: .slice (some ⟨we.heap.size, 0, none⟩) 6 6 :: _ :: _ :: _ :: _ :: _ :: _ :: []), defers := [] } _
          refine wpAnyH_ready (rs := [6]) (by kernel_rfl) (by simp) ?_
          refine (AllReadyH.cons rfl (fun KK hK => ?_) AllReadyH.nil)
          go_simp
          refine (cPick cb cap a bs _ 6 [125, 126, 93, 94, r, 0] _ Cf hl F hnb (by simp) (by simp)).mono ?_
          rintro e wg ⟨x, rfl, hx, Cg, Gg⟩
          have hx2 : 0 ≤ x ∧ x ≤ 255 := by simp at hx; omega
          have Kg := far_blk Gg Kf (fun j hj => by simp at hj; omega)
          have Qg := far_blk Gg Qf (fun j hj => by simp at hj; omega)
          have Og := own_far Of Gg (fun k hk e => by have := own_from Of (Nat.le_refl _) k hk; simp at e; omega)
          have GG := gtrans GF Gg
          have pg := (blk3 Kg).1.2.2
          have wr8 := wrap8 x hx2.1 hx2.2
          clear hx
          go_wp2_with fail
          clear hHeld
          refine hK.out _ _ (trivial) (fun hHeld => ?_)
          clear hK KK
          change wpAnyH _ _ _ _ _ _ _ { tmps := List.toArray (_ :: _ :: _ :: _ :: _ :: _ :: _ :: _ :: _ :: _ :: _ :: _ :: _ :: _ :: _ :: _ :: .pointer (some ⟨tb, 2, none⟩) :: .slice va m vc :: .pointer (some ⟨cb, 0, none⟩) :: .pointer (some ⟨cb, 0, none⟩) :: .int .i64 r :: .slice (some ⟨we.heap.size, 0, none⟩) 6 6 :: .int .i64 x :: _ :: _ :: _ :: _ :: _ :: []), defers := [] } _
          refine wpAnyH_take (i := 7) (v := .int .u8 x) rfl (by kernel_rfl) (by kernel_rfl) (by kernel_rfl) (fun _ _ _ h => h) (Or.inl ⟨by kernel_rfl, fun w hS => by go_simp⟩) hHeld ?_
          change wpAnyH _ _ _ _ _ _ _ { tmps := List.toArray (_ :: _ :: _ :: _ :: _ :: _ :: _ :: _ :: _ :: _ :: _ :: _ :: _ :: _ :: _ :: _ :: .pointer (some ⟨tb, 2, none⟩) :: .slice va m vc :: .pointer (some ⟨cb, 0, none⟩) :: .pointer (some ⟨cb, 0, none⟩) :: .int .i64 r :: .slice (some ⟨we.heap.size, 0, none⟩) 6 6 :: .int .i64 x :: .int .u8 x :: _ :: _ :: _ :: _ :: []), defers := [] } _
          refine wpAnyH_ready (rs := [8]) (by kernel_rfl) (by simp) ?_
          refine (AllReadyH.cons rfl (fun KK hK => ?_) AllReadyH.nil)
          go_simp
          have p1 := ble (balloc wg (.cells #[.int .u8 x] 5)) pg
          clear hHeld
          refine hK.out _ _ (trivial) (fun hHeld => ?_)
          clear hK KK
          change wpAnyH _ _ _ _ _ _ _ { tmps := List.toArray (_ :: _ :: _ :: _ :: _ :: _ :: _ :: _ :: _ :: _ :: _ :: _ :: _ :: _ :: _ :: _ :: .pointer (some ⟨tb, 2, none⟩) :: .slice va m vc :: .pointer (some ⟨cb, 0, none⟩) :: .pointer (some ⟨cb, 0, none⟩) :: .int .i64 r :: .slice (some ⟨we.heap.size, 0, none⟩) 6 6 :: .int .i64 x :: .int .u8 x :: .slice (some ⟨wg.heap.size, 0, none⟩) 1 1 :: _ :: _ :: _ :: []), defers := [] } _
          refine wpAnyH_ready (rs := [9]) (by kernel_rfl) (by simp) ?_
          refine (AllReadyH.cons rfl (fun KK hK => ?_) AllReadyH.nil)
          have hsg := GG.size
          have sz1 : (wg.alloc (.cells #[.int .u8 x] 5)).heap.size = wg.heap.size + 1 := by simp
          refine step_append_lies _ (by rfl) _ _ 22 (by rfl) w0.heap.size 5 i1 (.int .u8 0) 1 1 Try.underlying22 hi1 hy0 hy1 hy2 rfl (by omega) (.slice va m vc) m (enc8 bd) (by rfl) (own_keep Og (balloc wg (.cells #[.int .u8 x] 5))) ⟨wg.heap.size, 0, none⟩ 1 1 [.int .u8 x] (by rfl) rfl (World.news_of_block (heap_alloc_new wg _)) (fun u hu => by simp at hu; subst hu; rfl) (by omega) (by unfold maxLen; omega) (by omega) (by rw [sz1]; omega) (wg.heap.size + 1) (by rw [sz1]) ?_
          intro g gc w3 hown hgrow hwh hgl
          have hfrom := own_from Og (Nat.le_refl _)
          have K3 := blk_app Kg hgrow (fun e => own_apartB Og Kg (by decide) _ e rfl)
          have Q3 := blk_app Qg hgrow (fun e => own_apartB Og Qg (by decide) _ e rfl)
          have C3 := (Cg.below (balloc wg (.cells #[.int .u8 x] 5))).grow hOn hgrow hfrom
          have G3 := grown_far (gtrans GG (gofr _ (balloc wg (.cells #[.int .u8 x] 5)))) hgrow hfrom
          have p3 := (blk3 K3).1.2.2
          have f3 := (blk3 K3).2.2.2
          have hneb := own_apartB hown K3 (by decide)
          clear hHeld
          refine hK.out _ _ (trivial) (fun hHeld => ?_)
          clear hK KK
          change wpAnyH _ _ _ _ _ _ _ { tmps := List.toArray (_ :: _ :: _ :: _ :: _ :: _ :: _ :: _ :: _ :: _ :: _ :: _ :: _ :: _ :: _ :: _ :: .pointer (some ⟨tb, 2, none⟩) :: .slice va m vc :: .pointer (some ⟨cb, 0, none⟩) :: .pointer (some ⟨cb, 0, none⟩) :: .int .i64 r :: .slice (some ⟨we.heap.size, 0, none⟩) 6 6 :: .int .i64 x :: .int .u8 x :: .slice (some ⟨wg.heap.size, 0, none⟩) 1 1 :: .slice (some ⟨g, 0, none⟩) (m + 1) gc :: _ :: _ :: []), defers := [] } _
          refine wpAnyH_take (i := 10) (v := .pointer (some ⟨tb, 2, none⟩)) rfl (by kernel_rfl) (by kernel_rfl) (by kernel_rfl) (fun _ _ _ h => h) (Or.inl ⟨by kernel_rfl, fun w hS => by go_simp⟩) hHeld ?_
          change wpAnyH _ _ _ _ _ _ _ { tmps := List.toArray (_ :: _ :: _ :: _ :: _ :: _ :: _ :: _ :: _ :: _ :: _ :: _ :: _ :: _ :: _ :: _ :: .pointer (some ⟨tb, 2, none⟩) :: .slice va m vc :: .pointer (some ⟨cb, 0, none⟩) :: .pointer (some ⟨cb, 0, none⟩) :: .int .i64 r :: .slice (some ⟨we.heap.size, 0, none⟩) 6 6 :: .int .i64 x :: .int .u8 x :: .slice (some ⟨wg.heap.size, 0, none⟩) 1 1 :: .slice (some ⟨g, 0, none⟩) (m + 1) gc :: .pointer (some ⟨tb, 2, none⟩) :: _ :: []), defers := [] } _
          refine wpAnyH_ready (rs := [11]) (by kernel_rfl) (by simp) ?_
          refine (AllReadyH.cons rfl (fun KK hK => ?_) AllReadyH.nil)
          go_simp
          have K4 := box_one (u := (.slice (some ⟨g, 0, none⟩) (m + 1) gc)) K3
          have Q4 := blk_other (i := 2) (v := (.slice (some ⟨g, 0, none⟩) (m + 1) gc)) Q3 hrt
          have C4 := C3.grow hOn (grown_set w3 tb 2 (.slice (some ⟨g, 0, none⟩) (m + 1) gc)) (fun k hk => by simp at hk; omega)
          have G4 := grown_far G3 (grown_set w3 tb 2 (.slice (some ⟨g, 0, none⟩) (m + 1) gc)) (fun k hk => by simp at hk; omega)
          have R4 : (w3.setCell ⟨tb, 2, none⟩ (.slice (some ⟨g, 0, none⟩) (m + 1) gc)).ownsRow w0.heap.size 5 1 (.slice (some ⟨g, 0, none⟩) (m + 1) gc) (m + 1) (enc8 (bd ++ [x])) := own_set (by simpa [enc8] using hown) hneb
          clear hHeld
          refine hK.out _ _ (trivial) (fun hHeld => ?_)
          clear hK KK
          change wpAnyH _ _ _ _ _ _ _ { tmps := List.toArray (_ :: _ :: _ :: _ :: _ :: _ :: _ :: _ :: _ :: _ :: _ :: _ :: _ :: _ :: _ :: _ :: .pointer (some ⟨tb, 2, none⟩) :: .slice va m vc :: .pointer (some ⟨cb, 0, none⟩) :: .pointer (some ⟨cb, 0, none⟩) :: .int .i64 r :: .slice (some ⟨we.heap.size, 0, none⟩) 6 6 :: .int .i64 x :: .int .u8 x :: .slice (some ⟨wg.heap.size, 0, none⟩) 1 1 :: .slice (some ⟨g, 0, none⟩) (m + 1) gc :: .pointer (some ⟨tb, 2, none⟩) :: _ :: []), defers := [] } _
          refine wpAnyH_done (by kernel_rfl) ?_ _
          clear hown hgrow hwh hgl hfrom K3 Q3 C3 G3 p3 f3 hneb hsg sz1
          have hL9 : Hid (((bd ++ [x]).length : Int) + (I - 1) = n3) := hide (by have := hLI.out; rw [List.length_append]; push_cast; simp; omega)
          have hB9 : Hid (By (bd ++ [x])) := hide (hBy.out.app (By.one hx2.1 hx2.2))
          have hm9 : Hid ((bd ++ [x]).length = m + 1) := hide (by rw [List.length_append, hm.out]; rfl)
          go_wp2
          go_roundw
          case rel => exact ⟨_, _, _, I - 1, rfl, by omega, hL9, hB9, hm9, R4, K4, Q4, C4, G4⟩
          case measure => simp [intOf]; omega
        · skip
          go_simp
          have A6 := balloc we (.cells #[.int .i64 125, .int .i64 126, .int .i64 93, .int .i64 94, .int .i64 r, .int .i64 0] 3)
          have F := six we 125 126 93 94 r 0
          have hcw : cb < we.heap.size := Ce.lt (.inl rfl)
          have hnb : ∀ z, (some (⟨we.heap.size, 0, none⟩ : Addr)) = some z → z.block ≠ cb := fun z hz => by injection hz with hz; subst hz; show we.heap.size ≠ cb; omega
          have Cf := Ce.below A6
          have Kf := blk_keep A6 Ke
          have Qf := blk_keep A6 Qe
          have Of := own_keep Oe A6
          have GF := gtrans GE (gofr _ A6)
          have pf := (blk3 Kf).1.2.2
          clear hHeld
          refine hK.out _ _ (trivial) (fun hHeld => ?_)
          clear hK KK
          change wpAnyH _ _ _ _ _ _ _ { tmps := List.toArray (_ :: _ :: _ :: _ :: _ :: _ :: _ :: _ :: _ :: _ :: _ :: _ :: _ :: _ :: _ :: _ :: .pointer (some ⟨tb, 2, none⟩) :: _ :: .pointer (some ⟨cb, 0, none⟩) :: .pointer (some ⟨cb, 0, none⟩) :: .int .i64 r :: .slice (some ⟨we.heap.size, 0, none⟩) 6 6 :: _ :: _ :: _ :: _ :: _ :: _ :: []), defers := [] } _
          refine wpAnyH_ready (rs := [1, 6]) (by kernel_rfl) (by simp) ?_
          refine (AllReadyH.cons rfl (fun KK hK => ?_) (AllReadyH.cons rfl (fun KK hK => ?_) AllReadyH.nil))
          · skip
            go_simp
            clear hHeld
            refine hK.out _ _ (trivial) (fun hHeld => ?_)
            clear hK KK
            change wpAnyH _ _ _ _ _ _ _ { tmps := List.toArray (_ :: _ :: _ :: _ :: _ :: _ :: _ :: _ :: _ :: _ :: _ :: _ :: _ :: _ :: _ :: _ :: .pointer (some ⟨tb, 2, none⟩) :: .slice va m vc :: .pointer (some ⟨cb, 0, none⟩) :: .pointer (some ⟨cb, 0, none⟩) :: .int .i64 r :: .slice (some ⟨we.heap.size, 0, none⟩) 6 6 :: _ :: _ :: _ :: _ :: _ :: _ :: []), defers := [] } _
            refine wpAnyH_ready (rs := [6]) (by kernel_rfl) (by simp) ?_
            refine (AllReadyH.cons rfl (fun KK hK => ?_) AllReadyH.nil)
            go_simp
            refine (cPick cb cap a bs _ 6 [125, 126, 93, 94, r, 0] _ Cf hl F hnb (by simp) (by simp)).mono ?_
            rintro e wg ⟨x, rfl, hx, Cg, Gg⟩
            have hx2 : 0 ≤ x ∧ x ≤ 255 := by simp at hx; omega
            have Kg := far_blk Gg Kf (fun j hj => by simp at hj; omega)
            have Qg := far_blk Gg Qf (fun j hj => by simp at hj; omega)
            have Og := own_far Of Gg (fun k hk e => by have := own_from Of (Nat.le_refl _) k hk; simp at e; omega)
            have GG := gtrans GF Gg
            have pg := (blk3 Kg).1.2.2
            have wr8 := wrap8 x hx2.1 hx2.2
            clear hx
            go_wp2_with fail
            clear hHeld
            refine hK.out _ _ (trivial) (fun hHeld => ?_)
            clear hK KK
            change wpAnyH _ _ _ _ _ _ _ { tmps := List.toArray (_ :: _ :: _ :: _ :: _ :: _ :: _ :: _ :: _ :: _ :: _ :: _ :: _ :: _ :: _ :: _ :: .pointer (some ⟨tb, 2, none⟩) :: .slice va m vc :: .pointer (some ⟨cb, 0, none⟩) :: .pointer (some ⟨cb, 0, none⟩) :: .int .i64 r :: .slice (some ⟨we.heap.size, 0, none⟩) 6 6 :: .int .i64 x :: _ :: _ :: _ :: _ :: _ :: []), defers := [] } _
            refine wpAnyH_take (i := 7) (v := .int .u8 x) rfl (by kernel_rfl) (by kernel_rfl) (by kernel_rfl) (fun _ _ _ h => h) (Or.inl ⟨by kernel_rfl, fun w hS => by go_simp⟩) hHeld ?_
            change wpAnyH _ _ _ _ _ _ _ { tmps := List.toArray (_ :: _ :: _ :: _ :: _ :: _ :: _ :: _ :: _ :: _ :: _ :: _ :: _ :: _ :: _ :: _ :: .pointer (some ⟨tb, 2, none⟩) :: .slice va m vc :: .pointer (some ⟨cb, 0, none⟩) :: .pointer (some ⟨cb, 0, none⟩) :: .int .i64 r :: .slice (some ⟨we.heap.size, 0, none⟩) 6 6 :: .int .i64 x :: .int .u8 x :: _ :: _ :: _ :: _ :: []), defers := [] } _
            refine wpAnyH_ready (rs := [8]) (by kernel_rfl) (by simp) ?_
            refine (AllReadyH.cons rfl (fun KK hK => ?_) AllReadyH.nil)
            go_simp
            have p1 := ble (balloc wg (.cells #[.int .u8 x] 5)) pg
            clear hHeld
            refine hK.out _ _ (trivial) (fun hHeld => ?_)
            clear hK KK
            change wpAnyH _ _ _ _ _ _ _ { tmps := List.toArray (_ :: _ :: _ :: _ :: _ :: _ :: _ :: _ :: _ :: _ :: _ :: _ :: _ :: _ :: _ :: _ :: .pointer (some ⟨tb, 2, none⟩) :: .slice va m vc :: .pointer (some ⟨cb, 0, none⟩) :: .pointer (some ⟨cb, 0, none⟩) :: .int .i64 r :: .slice (some ⟨we.heap.size, 0, none⟩) 6 6 :: .int .i64 x :: .int .u8 x :: .slice (some ⟨wg.heap.size, 0, none⟩) 1 1 :: _ :: _ :: _ :: []), defers := [] } _
            refine wpAnyH_ready (rs := [9]) (by kernel_rfl) (by simp) ?_
            refine (AllReadyH.cons rfl (fun KK hK => ?_) AllReadyH.nil)
            have hsg := GG.size
            have sz1 : (wg.alloc (.cells #[.int .u8 x] 5)).heap.size = wg.heap.size + 1 := by simp
            refine step_append_lies _ (by rfl) _ _ 22 (by rfl) w0.heap.size 5 i1 (.int .u8 0) 1 1 Try.underlying22 hi1 hy0 hy1 hy2 rfl (by omega) (.slice va m vc) m (enc8 bd) (by rfl) (own_keep Og (balloc wg (.cells #[.int .u8 x] 5))) ⟨wg.heap.size, 0, none⟩ 1 1 [.int .u8 x] (by rfl) rfl (World.news_of_block (heap_alloc_new wg _)) (fun u hu => by simp at hu; subst hu; rfl) (by omega) (by unfold maxLen; omega) (by omega) (by rw [sz1]; omega) (wg.heap.size + 1) (by rw [sz1]) ?_
            intro g gc w3 hown hgrow hwh hgl
            have hfrom := own_from Og (Nat.le_refl _)
            have K3 := blk_app Kg hgrow (fun e => own_apartB Og Kg (by decide) _ e rfl)
            have Q3 := blk_app Qg hgrow (fun e => own_apartB Og Qg (by decide) _ e rfl)
            have C3 := (Cg.below (balloc wg (.cells #[.int .u8 x] 5))).grow hOn hgrow hfrom
            have G3 := grown_far (gtrans GG (gofr _ (balloc wg (.cells #[.int .u8 x] 5)))) hgrow hfrom
            have p3 := (blk3 K3).1.2.2
            have f3 := (blk3 K3).2.2.2
            have hneb := own_apartB hown K3 (by decide)
            clear hHeld
            refine hK.out _ _ (trivial) (fun hHeld => ?_)
            clear hK KK
            change wpAnyH _ _ _ _ _ _ _ { tmps := List.toArray (_ :: _ :: _ :: _ :: _ :: _ :: _ :: _ :: _ :: _ :: _ :: _ :: _ :: _ :: _ :: _ :: .pointer (some ⟨tb, 2, none⟩) :: .slice va m vc :: .pointer (some ⟨cb, 0, none⟩) :: .pointer (some ⟨cb, 0, none⟩) :: .int .i64 r :: .slice (some ⟨we.heap.size, 0, none⟩) 6 6 :: .int .i64 x :: .int .u8 x :: .slice (some ⟨wg.heap.size, 0, none⟩) 1 1 :: .slice (some ⟨g, 0, none⟩) (m + 1) gc :: _ :: _ :: []), defers := [] } _
            refine wpAnyH_take (i := 10) (v := .pointer (some ⟨tb, 2, none⟩)) rfl (by kernel_rfl) (by kernel_rfl) (by kernel_rfl) (fun _ _ _ h => h) (Or.inl ⟨by kernel_rfl, fun w hS => by go_simp⟩) hHeld ?_
            change wpAnyH _ _ _ _ _ _ _ { tmps := List.toArray (_ :: _ :: _ :: _ :: _ :: _ :: _ :: _ :: _ :: _ :: _ :: _ :: _ :: _ :: _ :: _ :: .pointer (some ⟨tb, 2, none⟩) :: .slice va m vc :: .pointer (some ⟨cb, 0, none⟩) :: .pointer (some ⟨cb, 0, none⟩) :: .int .i64 r :: .slice (some ⟨we.heap.size, 0, none⟩) 6 6 :: .int .i64 x :: .int .u8 x :: .slice (some ⟨wg.heap.size, 0, none⟩) 1 1 :: .slice (some ⟨g, 0, none⟩) (m + 1) gc :: .pointer (some ⟨tb, 2, none⟩) :: _ :: []), defers := [] } _
            refine wpAnyH_ready (rs := [11]) (by kernel_rfl) (by simp) ?_
            refine (AllReadyH.cons rfl (fun KK hK => ?_) AllReadyH.nil)
            go_simp
            have K4 := box_one (u := (.slice (some ⟨g, 0, none⟩) (m + 1) gc)) K3
            have Q4 := blk_other (i := 2) (v := (.slice (some ⟨g, 0, none⟩) (m + 1) gc)) Q3 hrt
            have C4 := C3.grow hOn (grown_set w3 tb 2 (.slice (some ⟨g, 0, none⟩) (m + 1) gc)) (fun k hk => by simp at hk; omega)
            have G4 := grown_far G3 (grown_set w3 tb 2 (.slice (some ⟨g, 0, none⟩) (m + 1) gc)) (fun k hk => by simp at hk; omega)
            have R4 : (w3.setCell ⟨tb, 2, none⟩ (.slice (some ⟨g, 0, none⟩) (m + 1) gc)).ownsRow w0.heap.size 5 1 (.slice (some ⟨g, 0, none⟩) (m + 1) gc) (m + 1) (enc8 (bd ++ [x])) := own_set (by simpa [enc8] using hown) hneb
            clear hHeld
            refine hK.out _ _ (trivial) (fun hHeld => ?_)
            clear hK KK
            change wpAnyH _ _ _ _ _ _ _ { tmps := List.toArray (_ :: _ :: _ :: _ :: _ :: _ :: _ :: _ :: _ :: _ :: _ :: _ :: _ :: _ :: _ :: _ :: .pointer (some ⟨tb, 2, none⟩) :: .slice va m vc :: .pointer (some ⟨cb, 0, none⟩) :: .pointer (some ⟨cb, 0, none⟩) :: .int .i64 r :: .slice (some ⟨we.heap.size, 0, none⟩) 6 6 :: .int .i64 x :: .int .u8 x :: .slice (some ⟨wg.heap.size, 0, none⟩) 1 1 :: .slice (some ⟨g, 0, none⟩) (m + 1) gc :: .pointer (some ⟨tb, 2, none⟩) :: _ :: []), defers := [] } _
            refine wpAnyH_done (by kernel_rfl) ?_ _
            clear hown hgrow hwh hgl hfrom K3 Q3 C3 G3 p3 f3 hneb hsg sz1
            have hL9 : Hid (((bd ++ [x]).length : Int) + (I - 1) = n3) := hide (by have := hLI.out; rw [List.length_append]; push_cast; simp; omega)
            have hB9 : Hid (By (bd ++ [x])) := hide (hBy.out.app (By.one hx2.1 hx2.2))
            have hm9 : Hid ((bd ++ [x]).length = m + 1) := hide (by rw [List.length_append, hm.out]; rfl)
            go_wp2
            go_roundw
            case rel => exact ⟨_, _, _, I - 1, rfl, by omega, hL9, hB9, hm9, R4, K4, Q4, C4, G4⟩
            case measure => simp [intOf]; omega
          · skip
            go_simp
            refine (cPick cb cap a bs _ 6 [125, 126, 93, 94, r, 0] _ Cf hl F hnb (by simp) (by simp)).mono ?_
            rintro e wg ⟨x, rfl, hx, Cg, Gg⟩
            have hx2 : 0 ≤ x ∧ x ≤ 255 := by simp at hx; omega
            have Kg := far_blk Gg Kf (fun j hj => by simp at hj; omega)
            have Qg := far_blk Gg Qf (fun j hj => by simp at hj; omega)
            have Og := own_far Of Gg (fun k hk e => by have := own_from Of (Nat.le_refl _) k hk; simp at e; omega)
            have GG := gtrans GF Gg
            have pg := (blk3 Kg).1.2.2
            have wr8 := wrap8 x hx2.1 hx2.2
            clear hx
            go_wp2_with fail
            clear hHeld
            refine hK.out _ _ (trivial) (fun hHeld => ?_)
            clear hK KK
            change wpAnyH _ _ _ _ _ _ _ { tmps := List.toArray (_ :: _ :: _ :: _ :: _ :: _ :: _ :: _ :: _ :: _ :: _ :: _ :: _ :: _ :: _ :: _ :: .pointer (some ⟨tb, 2, none⟩) :: _ :: .pointer (some ⟨cb, 0, none⟩) :: .pointer (some ⟨cb, 0, none⟩) :: .int .i64 r :: .slice (some ⟨we.heap.size, 0, none⟩) 6 6 :: .int .i64 x :: _ :: _ :: _ :: _ :: _ :: []), defers := [] } _
            refine wpAnyH_take (i := 7) (v := .int .u8 x) rfl (by kernel_rfl) (by kernel_rfl) (by kernel_rfl) (fun _ _ _ h => h) (Or.inl ⟨by kernel_rfl, fun w hS => by go_simp⟩) hHeld ?_
            change wpAnyH _ _ _ _ _ _ _ { tmps := List.toArray (_ :: _ :: _ :: _ :: _ :: _ :: _ :: _ :: _ :: _ :: _ :: _ :: _ :: _ :: _ :: _ :: .pointer (some ⟨tb, 2, none⟩) :: _ :: .pointer (some ⟨cb, 0, none⟩) :: .pointer (some ⟨cb, 0, none⟩) :: .int .i64 r :: .slice (some ⟨we.heap.size, 0, none⟩) 6 6 :: .int .i64 x :: .int .u8 x :: _ :: _ :: _ :: _ :: []), defers := [] } _
            refine wpAnyH_ready (rs := [1, 8]) (by kernel_rfl) (by simp) ?_
            refine (AllReadyH.cons rfl (fun KK hK => ?_) (AllReadyH.cons rfl (fun KK hK => ?_) AllReadyH.nil))
            · skip
              go_simp
              clear hHeld
              refine hK.out _ _ (trivial) (fun hHeld => ?_)
              clear hK KK
              change wpAnyH _ _ _ _ _ _ _ { tmps := List.toArray (_ :: _ :: _ :: _ :: _ :: _ :: _ :: _ :: _ :: _ :: _ :: _ :: _ :: _ :: _ :: _ :: .pointer (some ⟨tb, 2, none⟩) :: .slice va m vc :: .pointer (some ⟨cb, 0, none⟩) :: .pointer (some ⟨cb, 0, none⟩) :: .int .i64 r :: .slice (some ⟨we.heap.size, 0, none⟩) 6 6 :: .int .i64 x :: .int .u8 x :: _ :: _ :: _ :: _ :: []), defers := [] } _
              refine wpAnyH_ready (rs := [8]) (by kernel_rfl) (by simp) ?_
              refine (AllReadyH.cons rfl (fun KK hK => ?_) AllReadyH.nil)
              go_simp
              have p1 := ble (balloc wg (.cells #[.int .u8 x] 5)) pg
              clear hHeld
              refine hK.out _ _ (trivial) (fun hHeld => ?_)
              clear hK KK
              change wpAnyH _ _ _ _ _ _ _ { tmps := List.toArray (_ :: _ :: _ :: _ :: _ :: _ :: _ :: _ :: _ :: _ :: _ :: _ :: _ :: _ :: _ :: _ :: .pointer (some ⟨tb, 2, none⟩) :: .slice va m vc :: .pointer (some ⟨cb, 0, none⟩) :: .pointer (some ⟨cb, 0, none⟩) :: .int .i64 r :: .slice (some ⟨we.heap.size, 0, none⟩) 6 6 :: .int .i64 x :: .int .u8 x :: .slice (some ⟨wg.heap.size, 0, none⟩) 1 1 :: _ :: _ :: _ :: []), defers := [] } _
              refine wpAnyH_ready (rs := [9]) (by kernel_rfl) (by simp) ?_
              refine (AllReadyH.cons rfl (fun KK hK => ?_) AllReadyH.nil)
              have hsg := GG.size
              have sz1 : (wg.alloc (.cells #[.int .u8 x] 5)).heap.size = wg.heap.size + 1 := by simp
              refine step_append_lies _ (by rfl) _ _ 22 (by rfl) w0.heap.size 5 i1 (.int .u8 0) 1 1 Try.underlying22 hi1 hy0 hy1 hy2 rfl (by omega) (.slice va m vc) m (enc8 bd) (by rfl) (own_keep Og (balloc wg (.cells #[.int .u8 x] 5))) ⟨wg.heap.size, 0, none⟩ 1 1 [.int .u8 x] (by rfl) rfl (World.news_of_block (heap_alloc_new wg _)) (fun u hu => by simp at hu; subst hu; rfl) (by omega) (by unfold maxLen; omega) (by omega) (by rw [sz1]; omega) (wg.heap.size + 1) (by rw [sz1]) ?_
              intro g gc w3 hown hgrow hwh hgl
              have hfrom := own_from Og (Nat.le_refl _)
              have K3 := blk_app Kg hgrow (fun e => own_apartB Og Kg (by decide) _ e rfl)
              have Q3 := blk_app Qg hgrow (fun e => own_apartB Og Qg (by decide) _ e rfl)
              have C3 := (Cg.below (balloc wg (.cells #[.int .u8 x] 5))).grow hOn hgrow hfrom
              have G3 := grown_far (gtrans GG (gofr _ (balloc wg (.cells #[.int .u8 x] 5)))) hgrow hfrom
              have p3 := (blk3 K3).1.2.2
              have f3 := (blk3 K3).2.2.2
              have hneb := own_apartB hown K3 (by decide)
              clear hHeld
              refine hK.out _ _ (trivial) (fun hHeld => ?_)
              clear hK KK
              change wpAnyH _ _ _ _ _ _ _ { tmps := List.toArray (_ :: _ :: _ :: _ :: _ :: _ :: _ :: _ :: _ :: _ :: _ :: _ :: _ :: _ :: _ :: _ :: .pointer (some ⟨tb, 2, none⟩) :: .slice va m vc :: .pointer (some ⟨cb, 0, none⟩) :: .pointer (some ⟨cb, 0, none⟩) :: .int .i64 r :: .slice (some ⟨we.heap.size, 0, none⟩) 6 6 :: .int .i64 x :: .int .u8 x :: .slice (some ⟨wg.heap.size, 0, none⟩) 1 1 :: .slice (some ⟨g, 0, none⟩) (m + 1) gc :: _ :: _ :: []), defers := [] } _
              refine wpAnyH_take (i := 10) (v := .pointer (some ⟨tb, 2, none⟩)) rfl (by kernel_rfl) (by kernel_rfl) (by kernel_rfl) (fun _ _ _ h => h) (Or.inl ⟨by kernel_rfl, fun w hS => by go_simp⟩) hHeld ?_
              change wpAnyH _ _ _ _ _ _ _ { tmps := List.toArray (_ :: _ :: _ :: _ :: _ :: _ :: _ :: _ :: _ :: _ :: _ :: _ :: _ :: _ :: _ :: _ :: .pointer (some ⟨tb, 2, none⟩) :: .slice va m vc :: .pointer (some ⟨cb, 0, none⟩) :: .pointer (some ⟨cb, 0, none⟩) :: .int .i64 r :: .slice (some ⟨we.heap.size, 0, none⟩) 6 6 :: .int .i64 x :: .int .u8 x :: .slice (some ⟨wg.heap.size, 0, none⟩) 1 1 :: .slice (some ⟨g, 0, none⟩) (m + 1) gc :: .pointer (some ⟨tb, 2, none⟩) :: _ :: []), defers := [] } _
              refine wpAnyH_ready (rs := [11]) (by kernel_rfl) (by simp) ?_
              refine (AllReadyH.cons rfl (fun KK hK => ?_) AllReadyH.nil)
              go_simp
              have K4 := box_one (u := (.slice (some ⟨g, 0, none⟩) (m + 1) gc)) K3
              have Q4 := blk_other (i := 2) (v := (.slice (some ⟨g, 0, none⟩) (m + 1) gc)) Q3 hrt
              have C4 := C3.grow hOn (grown_set w3 tb 2 (.slice (some ⟨g, 0, none⟩) (m + 1) gc)) (fun k hk => by simp at hk; omega)
              have G4 := grown_far G3 (grown_set w3 tb 2 (.slice (some ⟨g, 0, none⟩) (m + 1) gc)) (fun k hk => by simp at hk; omega)
              have R4 : (w3.setCell ⟨tb, 2, none⟩ (.slice (some ⟨g, 0, none⟩) (m + 1) gc)).ownsRow w0.heap.size 5 1 (.slice (some ⟨g, 0, none⟩) (m + 1) gc) (m + 1) (enc8 (bd ++ [x])) := own_set (by simpa [enc8] using hown) hneb
              clear hHeld
              refine hK.out _ _ (trivial) (fun hHeld => ?_)
              clear hK KK
              change wpAnyH _ _ _ _ _ _ _ { tmps := List.toArray (_ :: _ :: _ :: _ :: _ :: _ :: _ :: _ :: _ :: _ :: _ :: _ :: _ :: _ :: _ :: _ :: .pointer (some ⟨tb, 2, none⟩) :: .slice va m vc :: .pointer (some ⟨cb, 0, none⟩) :: .pointer (some ⟨cb, 0, none⟩) :: .int .i64 r :: .slice (some ⟨we.heap.size, 0, none⟩) 6 6 :: .int .i64 x :: .int .u8 x :: .slice (some ⟨wg.heap.size, 0, none⟩) 1 1 :: .slice (some ⟨g, 0, none⟩) (m + 1) gc :: .pointer (some ⟨tb, 2, none⟩) :: _ :: []), defers := [] } _
              refine wpAnyH_done (by kernel_rfl) ?_ _
              clear hown hgrow hwh hgl hfrom K3 Q3 C3 G3 p3 f3 hneb hsg sz1
              have hL9 : Hid (((bd ++ [x]).length : Int) + (I - 1) = n3) := hide (by have := hLI.out; rw [List.length_append]; push_cast; simp; omega)
              have hB9 : Hid (By (bd ++ [x])) := hide (hBy.out.app (By.one hx2.1 hx2.2))
              have hm9 : Hid ((bd ++ [x]).length = m + 1) := hide (by rw [List.length_append, hm.out]; rfl)
              go_wp2
              go_roundw
              case rel => exact ⟨_, _, _, I - 1, rfl, by omega, hL9, hB9, hm9, R4, K4, Q4, C4, G4⟩
              case measure => simp [intOf]; omega
            · skip
              go_simp
              have p1 := ble (balloc wg (.cells #[.int .u8 x] 5)) pg
              clear hHeld
              refine hK.out _ _ (trivial) (fun hHeld => ?_)
              clear hK KK
              change wpAnyH _ _ _ _ _ _ _ { tmps := List.toArray (_ :: _ :: _ :: _ :: _ :: _ :: _ :: _ :: _ :: _ :: _ :: _ :: _ :: _ :: _ :: _ :: .pointer (some ⟨tb, 2, none⟩) :: _ :: .pointer (some ⟨cb, 0, none⟩) :: .pointer (some ⟨cb, 0, none⟩) :: .int .i64 r :: .slice (some ⟨we.heap.size, 0, none⟩) 6 6 :: .int .i64 x :: .int .u8 x :: .slice (some ⟨wg.heap.size, 0, none⟩) 1 1 :: _ :: _ :: _ :: []), defers := [] } _
              refine wpAnyH_ready (rs := [1]) (by kernel_rfl) (by simp) ?_
              refine (AllReadyH.cons rfl (fun KK hK => ?_) AllReadyH.nil)
              go_simp
              clear hHeld
              refine hK.out _ _ (trivial) (fun hHeld => ?_)
              clear hK KK
              change wpAnyH _ _ _ _ _ _ _ { tmps := List.toArray (_ :: _ :: _ :: _ :: _ :: _ :: _ :: _ :: _ :: _ :: _ :: _ :: _ :: _ :: _ :: _ :: .pointer (some ⟨tb, 2, none⟩) :: .slice va m vc :: .pointer (some ⟨cb, 0, none⟩) :: .pointer (some ⟨cb, 0, none⟩) :: .int .i64 r :: .slice (some ⟨we.heap.size, 0, none⟩) 6 6 :: .int .i64 x :: .int .u8 x :: .slice (some ⟨wg.heap.size, 0, none⟩) 1 1 :: _ :: _ :: _ :: []), defers := [] } _
              refine wpAnyH_ready (rs := [9]) (by kernel_rfl) (by simp) ?_
              refine (AllReadyH.cons rfl (fun KK hK => ?_) AllReadyH.nil)
              have hsg := GG.size
              have sz1 : (wg.alloc (.cells #[.int .u8 x] 5)).heap.size = wg.heap.size + 1 := by simp
              refine step_append_lies _ (by rfl) _ _ 22 (by rfl) w0.heap.size 5 i1 (.int .u8 0) 1 1 Try.underlying22 hi1 hy0 hy1 hy2 rfl (by omega) (.slice va m vc) m (enc8 bd) (by rfl) (own_keep Og (balloc wg (.cells #[.int .u8 x] 5))) ⟨wg.heap.size, 0, none⟩ 1 1 [.int .u8 x] (by rfl) rfl (World.news_of_block (heap_alloc_new wg _)) (fun u hu => by simp at hu; subst hu; rfl) (by omega) (by unfold maxLen; omega) (by omega) (by rw [sz1]; omega) (wg.heap.size + 1) (by rw [sz1]) ?_
              intro g gc w3 hown hgrow hwh hgl
              have hfrom := own_from Og (Nat.le_refl _)
              have K3 := blk_app Kg hgrow (fun e => own_apartB Og Kg (by decide) _ e rfl)
              have Q3 := blk_app Qg hgrow (fun e => own_apartB Og Qg (by decide) _ e rfl)
              have C3 := (Cg.below (balloc wg (.cells #[.int .u8 x] 5))).grow hOn hgrow hfrom
              have G3 := grown_far (gtrans GG (gofr _ (balloc wg (.cells #[.int .u8 x] 5)))) hgrow hfrom
              have p3 := (blk3 K3).1.2.2
              have f3 := (blk3 K3).2.2.2
              have hneb := own_apartB hown K3 (by decide)
              clear hHeld
              refine hK.out _ _ (trivial) (fun hHeld => ?_)
              clear hK KK
              change wpAnyH _ _ _ _ _ _ _ { tmps := List.toArray (_ :: _ :: _ :: _ :: _ :: _ :: _ :: _ :: _ :: _ :: _ :: _ :: _ :: _ :: _ :: _ :: .pointer (some ⟨tb, 2, none⟩) :: .slice va m vc :: .pointer (some ⟨cb, 0, none⟩) :: .pointer (some ⟨cb, 0, none⟩) :: .int .i64 r :: .slice (some ⟨we.heap.size, 0, none⟩) 6 6 :: .int .i64 x :: .int .u8 x :: .slice (some ⟨wg.heap.size, 0, none⟩) 1 1 :: .slice (some ⟨g, 0, none⟩) (m + 1) gc :: _ :: _ :: []), defers := [] } _
              refine wpAnyH_take (i := 10) (v := .pointer (some ⟨tb, 2, none⟩)) rfl (by kernel_rfl) (by kernel_rfl) (by kernel_rfl) (fun _ _ _ h => h) (Or.inl ⟨by kernel_rfl, fun w hS => by go_simp⟩) hHeld ?_
              change wpAnyH _ _ _ _ _ _ _ { tmps := List.toArray (_ :: _ :: _ :: _ :: _ :: _ :: _ :: _ :: _ :: _ :: _ :: _ :: _ :: _ :: _ :: _ :: .pointer (some ⟨tb, 2, none⟩) :: .slice va m vc :: .pointer (some ⟨cb, 0, none⟩) :: .pointer (some ⟨cb, 0, none⟩) :: .int .i64 r :: .slice (some ⟨we.heap.size, 0, none⟩) 6 6 :: .int .i64 x :: .int .u8 x :: .slice (some ⟨wg.heap.size, 0, none⟩) 1 1 :: .slice (some ⟨g, 0, none⟩) (m + 1) gc :: .pointer (some ⟨tb, 2, none⟩) :: _ :: []), defers := [] } _
              refine wpAnyH_ready (rs := [11]) (by kernel_rfl) (by simp) ?_
              refine (AllReadyH.cons rfl (fun KK hK => ?_) AllReadyH.nil)
              go_simp
              have K4 := box_one (u := (.slice (some ⟨g, 0, none⟩) (m + 1) gc)) K3
              have Q4 := blk_other (i := 2) (v := (.slice (some ⟨g, 0, none⟩) (m + 1) gc)) Q3 hrt
              have C4 := C3.grow hOn (grown_set w3 tb 2 (.slice (some ⟨g, 0, none⟩) (m + 1) gc)) (fun k hk => by simp at hk; omega)
              have G4 := grown_far G3 (grown_set w3 tb 2 (.slice (some ⟨g, 0, none⟩) (m + 1) gc)) (fun k hk => by simp at hk; omega)
              have R4 : (w3.setCell ⟨tb, 2, none⟩ (.slice (some ⟨g, 0, none⟩) (m + 1) gc)).ownsRow w0.heap.size 5 1 (.slice (some ⟨g, 0, none⟩) (m + 1) gc) (m + 1) (enc8 (bd ++ [x])) := own_set (by simpa [enc8] using hown) hneb
              clear hHeld
              refine hK.out _ _ (trivial) (fun hHeld => ?_)
              clear hK KK
              change wpAnyH _ _ _ _ _ _ _ { tmps := List.toArray (_ :: _ :: _ :: _ :: _ :: _ :: _ :: _ :: _ :: _ :: _ :: _ :: _ :: _ :: _ :: _ :: .pointer (some ⟨tb, 2, none⟩) :: .slice va m vc :: .pointer (some ⟨cb, 0, none⟩) :: .pointer (some ⟨cb, 0, none⟩) :: .int .i64 r :: .slice (some ⟨we.heap.size, 0, none⟩) 6 6 :: .int .i64 x :: .int .u8 x :: .slice (some ⟨wg.heap.size, 0, none⟩) 1 1 :: .slice (some ⟨g, 0, none⟩) (m + 1) gc :: .pointer (some ⟨tb, 2, none⟩) :: _ :: []), defers := [] } _
              refine wpAnyH_done (by kernel_rfl) ?_ _
              clear hown hgrow hwh hgl hfrom K3 Q3 C3 G3 p3 f3 hneb hsg sz1
              have hL9 : Hid (((bd ++ [x]).length : Int) + (I - 1) = n3) := hide (by have := hLI.out; rw [List.length_append]; push_cast; simp; omega)
              have hB9 : Hid (By (bd ++ [x])) := hide (hBy.out.app (By.one hx2.1 hx2.2))
              have hm9 : Hid ((bd ++ [x]).length = m + 1) := hide (by rw [List.length_append, hm.out]; rfl)
              go_wp2
              go_roundw
              case rel => exact ⟨_, _, _, I - 1, rfl, by omega, hL9, hB9, hm9, R4, K4, Q4, C4, G4⟩
              case measure => simp [intOf]; omega
    · have hok : Hid (okT ⟨q, k, bd⟩ = true) := hide (by
        unfold okT telB
        rw [inB_yes q0 (by omega), inB_yes k0 (by omega)]
        have := hm.out
        simp; omega)
      obtain ⟨⟨x0, x1, x2⟩, -⟩ := blk3 K
      obtain ⟨⟨a0, a1, a2⟩, e0, e1, e2⟩ := blk3 Q
      have hne := own_apartB O Q (by decide)
      have hb1 := C.grow hOn (grown_set wr w0.heap.size 0 (.int .i64 q)) (fun k hk => by simp at hk; omega)
      have GZ := grown_far (grown_far (grown_far hG (grown_set wr w0.heap.size 0 (.int .i64 q)) (fun k hk => by simp at hk; omega)) (grown_set _ w0.heap.size 1 (.int .i64 k)) (fun k hk => by simp at hk; omega)) (grown_set _ w0.heap.size 2 (.slice va m vc)) (fun k hk => by simp at hk; omega)
      have hO3 := own_set (b := w0.heap.size) (i := 2) (u := .slice va m vc) (own_set (b := w0.heap.size) (i := 1) (u := .int .i64 k) (own_set (b := w0.heap.size) (i := 0) (u := .int .i64 q) O hne) hne) hne
      have hmm := hm
      clear hb1 K C hG O hne
      go_wp2_with fail
      refine bodyPost_ret (v := .agg #[.int .i64 q, .int .i64 k, .slice va m vc]) (by simp [results, Try.results47, go_sem, a0, a1, a2]) rfl ⟨⟨q, k, bd⟩, .slice va m vc, rfl, hok.out, hBy.out, by show bd.length ≤ 6; rw [hmm.out]; exact hml, ?_, GZ⟩
      show World.ownsRow _ _ _ _ _ bd.length _
      rw [hmm.out]
      exact hO3
set_option maxHeartbeats 1600000 in
theorem cDrawT1 (cap : Nat) (a : Option Addr) (bs : List Int) (w : World) (hz : Bytes w a bs) (hl : bs.length ≤ 1048576) :
    Calls Try.prog 14 #[.slice a bs.length cap] w (DrawnR w) := by
  have A1 := balloc w (.cells #[.int .i64 0, .int .i64 0, .slice none 0 0] 25)
  have Q0 := one_block w (.cells #[.int .i64 0, .int .i64 0, .slice none 0 0] 25)
  go_enter Try.func14, Try.ntmps14
  go_wp2_with fail
  generalize w.alloc (.cells #[.int .i64 0, .int .i64 0, .slice none 0 0] 25) = wA at *
  refine (cnew a cap bs _ (hz.below A1) hl).mono ?_
  rintro e w0 ⟨cb, rfl, hcb, C0, b0⟩
  have Q1 := blk_keep b0 Q0
  have HB := btrans A1 b0
  have hcw : w.heap.size ≤ cb := by have := A1.size; omega
  have hcq : w.heap.size ≠ cb := by have := lt_of_block Q0; omega
  clear A1 Q0 b0 hcb
  go_wp2_with fail
  refine (cDrawR cb cap a bs w0 C0 hl).mono ?_
  rintro e w1 ⟨⟨q, k, bd⟩, v, rfl, h1, h2, h3, O, G⟩
  have Q2 := far_blk G Q1 (fun j hj => by simp at hj; omega)
  have HB1 : Below w.heap.size w w1 := HB.grown G HB.size (fun k hk => by cases hk; exact hcw)
  dsimp only at h2 h3 O
  obtain ⟨m, hm⟩ : ∃ m, bd.length = m := ⟨_, rfl⟩
  rw [hm] at O h3
  obtain ⟨va, vc, rfl⟩ := own_form O
  have O2 := own_base O HB.size
  have hne := own_apartB O Q2 (by decide)
  obtain ⟨⟨a0, a1, a2⟩, e0, e1, e2⟩ := blk3 Q2
  have hO3 := own_set (b := w.heap.size) (i := 2) (u := .slice va m vc) (own_set (b := w.heap.size) (i := 1) (u := .int .i64 k) (own_set (b := w.heap.size) (i := 0) (u := .int .i64 q) O2 hne) hne) hne
  have B3 := below_set (o := 2) (v := .slice va m vc) (Nat.le_refl _) (below_set (o := 1) (v := .int .i64 k) (Nat.le_refl _) (below_set (o := 0) (v := .int .i64 q) (Nat.le_refl _) HB1))
  replace hm := hide hm
  replace h1 := hide h1
  clear C0 Q1 HB G Q2 HB1 O O2 hne
  go_wp2_with fail
  refine bodyPost_ret (v := .agg #[.int .i64 q, .int .i64 k, .slice va m vc]) (by simp [results, Try.results14, go_sem, a0, a1, a2]) rfl ⟨⟨q, k, bd⟩, .slice va m vc, rfl, h1.out, h2, by show bd.length ≤ 6; rw [hm.out]; exact h3, ?_, B3⟩
  show World.ownsRow _ _ _ _ _ bd.length _
  rw [hm.out]
  exact hO3
end Go.Proofs.Ytgnohomplehacaa
