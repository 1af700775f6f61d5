/- Drawn lists of telegrams. -/
import Derived.Test.YtgnohomplehacaaDK
import Derived.Test.YtgnohomplehacaaWX
import Derived.Test.YtgnohomplehacaaWS
namespace Go.Proofs.Ytgnohomplehacaa
open Go.RowKit
def Ints (w : World) (a : Option Addr) (zs : List Int) : Prop :=
  zs = [] ∨ ∃ b off, a = some ⟨b, off, none⟩ ∧ ∀ i, i < zs.length → w.cell? ⟨b, off + i, none⟩ = some (.int .i64 (zs.getD i 0))
theorem Ints.off {w w' : World} {b : Option Addr} {xs : List Int} {cb : Nat} (h : Ints w b xs) (hg : w.grownBy w' (some cb)) (hbc : ∀ x, b = some x → x.block ≠ cb) : Ints w' b xs := by
  rcases h with h | ⟨g, off, rfl, hc⟩
  · exact .inl h
  · refine .inr ⟨g, off, rfl, fun i hi => ?_⟩
    have hx := hc i hi
    have hb := hg.block g (cell_lt hx) (by simpa using hbc _ rfl)
    simp only [World.cell?] at hx ⊢
    rw [hb]
    exact hx

set_option maxHeartbeats 800000 in
theorem cPick (cb cap : Nat) (a : Option Addr) (zs : List Int) (b : Option Addr) (cp : Nat) (xs : List Int) (w : World) (hc : Cur w cb a cap zs) (hl : zs.length ≤ 1048576) (hx : Ints w b xs) (hbc : ∀ x, b = some x → x.block ≠ cb) (h1 : 1 ≤ xs.length) (h2 : xs.length ≤ 1000) :
    Calls Try.prog 62 #[.pointer (some ⟨cb, 0, none⟩), .slice b xs.length cp] w fun e w' => ∃ r, e = .returned (.int .i64 r) ∧ r ∈ xs ∧ Cur w' cb a cap zs ∧ w.grownBy w' (some cb) := by
  go_enter Try.func62, Try.ntmps62
  go_wp2_with fail
  refine (cbelow cb cap a zs xs.length _ hc hl (by omega) (by omega)).mono ?_
  rintro e w1 ⟨y, rfl, y0, y1, C1, G1⟩
  have hx1 := hx.off G1 hbc
  rcases hx1 with h | ⟨nb, off, rfl, hcl⟩
  · simp [h] at h1
  have hy : y.toNat < xs.length := by omega
  have q := hcl y.toNat hy
  have hmem : xs.getD y.toNat 0 ∈ xs := by simp [List.getD, hy]
  generalize xs.getD y.toNat 0 = r at *
  clear hcl hc hx
  go_wp2
  go_ret
  exact ⟨r, rfl, hmem, C1, G1⟩
theorem eight (w : World) (x0 x1 x2 x3 x4 x5 x6 x7 : Int) : Ints (w.alloc (.cells #[.int .i64 x0, .int .i64 x1, .int .i64 x2, .int .i64 x3, .int .i64 x4, .int .i64 x5, .int .i64 x6, .int .i64 x7] 3)) (some ⟨w.heap.size, 0, none⟩) [x0, x1, x2, x3, x4, x5, x6, x7] := by
  refine .inr ⟨_, 0, rfl, fun i hi => ?_⟩
  match i, hi with
  | 0, _ => simp
  | 1, _ => simp
  | 2, _ => simp
  | 3, _ => simp
  | 4, _ => simp
  | 5, _ => simp
  | 6, _ => simp
  | 7, _ => simp
  | (k + 8), hi => simp at hi; omega
theorem six (w : World) (x0 x1 x2 x3 x4 x5 : Int) : Ints (w.alloc (.cells #[.int .i64 x0, .int .i64 x1, .int .i64 x2, .int .i64 x3, .int .i64 x4, .int .i64 x5] 3)) (some ⟨w.heap.size, 0, none⟩) [x0, x1, x2, x3, x4, x5] := by
  refine .inr ⟨_, 0, rfl, fun i hi => ?_⟩
  match i, hi with
  | 0, _ => simp
  | 1, _ => simp
  | 2, _ => simp
  | 3, _ => simp
  | 4, _ => simp
  | 5, _ => simp
  | (k + 6), hi => simp at hi; omega
theorem far_blk {w w' : World} {r : Option Nat} (hg : w.grownBy w' r) {g : Nat} {o : Obj} (h : w.heap[g]? = some o) (hne : ∀ j, r = some j → g ≠ j) : w'.heap[g]? = some o :=
  (hg.block g (lt_of_block h) (fun e => hne g e.symm rfl)).trans h
theorem gofr {w w' : World} (r : Option Nat) (h : Below w.heap.size w w') : w.grownBy w' r := ⟨h.os, h.tape, h.output, h.size, fun k hk _ => h.block k hk⟩
theorem box_one {w : World} {g : Nat} {q k : Int} {v u : Value} (h : w.heap[g]? = some (.cells #[.int .i64 q, .int .i64 k, v] 25 (0, 0))) : (w.setCell ⟨g, 2, none⟩ u).heap[g]? = some (.cells #[.int .i64 q, .int .i64 k, u] 25 (0, 0)) := by
  have h3 := blk_set (i := 2) (v := u) h
  simpa using h3
/-- A box of the rows' own type that is none of the list's is turned. -/
theorem TabT.setBox {B b i : Nat} {w : World} {v u : Value} {cs : List TC} {ts : List TelV} {cl : Array Value} {f : Nat × Nat} (h : TabT B w v cs ts) (hb : w.heap[b]? = some (.cells cl 25 f)) (hv : ∀ k, v.ownBlock = some k → k ≠ b) : TabT B (w.setCell ⟨b, i, none⟩ u) v cs ts :=
  ⟨own_set h.own hv, h.len, fun j hj => ⟨(h.each j hj).1, (h.each j hj).2.1, own_set (h.each j hj).2.2 (own_apartB (h.each j hj).2.2 hb (by decide))⟩, h.pair⟩
/-- A drawn telegram is right. -/
structure DTel (t : TelV) : Prop where
  q0 : 0 ≤ t.q
  q1 : t.q ≤ 255
  k0 : 0 ≤ t.k
  k1 : t.k ≤ 5
  len : t.b.length ≤ 1
  by_ : By t.b
theorem DTel.ok {t : TelV} (h : DTel t) : okT t = true := by
  unfold okT telB
  rw [inB_yes h.q0 h.q1, inB_yes h.k0 (by have := h.k1; omega)]
  have := h.len
  simp; omega
def DrawnT (w : World) (e : Ending) (w' : World) : Prop :=
  ∃ (ts : List TelV) (cs : List TC) (v : Value), e = .returned v ∧ ts.length ≤ 17 ∧ (∀ t ∈ ts, DTel t) ∧ TabT w.heap.size w' v cs ts ∧ Below w.heap.size w w'
set_option maxRecDepth 100000 in
set_option maxHeartbeats 12800000 in
theorem cDrawL (cb cap : Nat) (a : Option Addr) (bs : List Int) (w0 : World) (C0 : Cur w0 cb a cap bs) (hl : bs.length ≤ 1048576) :
    Calls Try.prog 55 #[.pointer (some ⟨cb, 0, none⟩), .slice a bs.length cap] w0 fun e w' => ∃ (ts : List TelV) (cs : List TC) (v : Value), e = .returned v ∧ ts.length ≤ 17 ∧ (∀ t ∈ ts, DTel t) ∧ TabT w0.heap.size w' v cs ts ∧ w0.grownBy w' (some cb) := by
  obtain ⟨i1, hi1, hy0, hy1, hy2⟩ := info_parts infoBys
  have hcB : cb < w0.heap.size := C0.lt (.inl rfl)
  have hOn : ∀ k, OnCur cb a bs k → k < w0.heap.size := fun k hk => C0.lt hk
  have A1 := balloc w0 (.cells #[] 25)
  have C1 := C0.below A1
  have T0 : TabT w0.heap.size (w0.alloc (.cells #[] 25)) (.slice (some ⟨w0.heap.size, 0, none⟩) 0 0) [] [] := TabT.of0 (World.ownsRow_made w0 _ 0 (Nat.le_refl _) (by unfold maxLen; omega) (by simp))
  go_enter Try.func55, Try.ntmps55
  go_wp2_with fail
  refine (csize a bs.length cap 16 _ hl (by omega) (by omega)).mono ?_
  rintro e w1 ⟨r0, rfl, hr1, hr2, hw⟩
  subst w1
  go_wp2_with fail
  refine (cbelow cb cap a bs (2 + r0) _ C1 hl (by omega) (by omega)).mono ?_
  rintro e w1 ⟨n3, rfl, n30, n31, C2, G2⟩
  have TA := T0.far G2 hcB
  have GA := gtrans (gofr (some cb) A1) G2
  have hn3 : n3 ≤ 17 := by omega
  clear A1 C1 T0 G2 C0 n31 hr1 hr2
  go_wp2
  go_loopw [5, 6, 7, 8] (fun o sq ii _ wr => ∃ (ts : List TelV) (cs : List TC) (I s : Int), ii = .int .i64 I ∧ sq = .int .i64 s ∧ 0 ≤ I ∧ 0 ≤ s ∧ s ≤ 255 ∧ Hid ((ts.length : Int) + I = n3) ∧ Hid (∀ t ∈ ts, DTel t) ∧ TabT w0.heap.size wr o cs ts ∧ Cur wr cb a cap bs ∧ w0.grownBy wr (some cb)) (fun _ _ ii _ _ => (intOf ii).toNat)
  case atStart => exact ⟨[], [], n3, 0, rfl, rfl, n30, by omega, by omega, hide (by simp), hide (fun t ht => by simp at ht), TA, C2, GA⟩
  case round =>
    clear TA GA C2
    obtain ⟨ts, cs, I, s, rfl, rfl, I0, s0, s1, hLI, hW, T, C, hG⟩ := hrel
    have hml : ts.length ≤ 17 := by have := hLI.out; omega
    have hI4 : I ≤ 17 := by have := hLI.out; omega
    obtain ⟨oa, oc, hov⟩ := own_form T.own
    subst hov
    by_cases hI : 0 < I
    · go_wp2_with fail
      refine (cbelow cb cap a bs 6 _ C hl (by omega) (by omega)).mono ?_
      rintro e wa ⟨r5, rfl, r50, r51, Ca, Ga⟩
      replace T := T.far Ga hcB
      replace hG := gtrans hG Ga
      clear C Ga
      have F := eight wa 1 1 1 2 2 2 3 r5
      have hA := balloc wa (.cells #[.int .i64 1, .int .i64 1, .int .i64 1, .int .i64 2, .int .i64 2, .int .i64 2, .int .i64 3, .int .i64 r5] 3)
      have hcw : cb < wa.heap.size := Ca.lt (.inl rfl)
      have hnb : ∀ x, (some (⟨wa.heap.size, 0, none⟩ : Addr)) = some x → x.block ≠ cb := fun x hx => by injection hx with hx; subst hx; show wa.heap.size ≠ cb; omega
      replace Ca := Ca.below hA
      replace T := T.below hA
      replace hG := gtrans hG (gofr _ hA)
      clear hA hcw
      go_wp2_with fail
      refine (cPick cb cap a bs _ 8 [1, 1, 1, 2, 2, 2, 3, r5] _ Ca hl F hnb (by simp) (by simp)).mono ?_
      rintro e wb ⟨kd, rfl, hkd, Cb, Gb⟩
      have hkd2 : 0 ≤ kd ∧ kd ≤ 5 := by simp at hkd; omega
      obtain ⟨kd0, kd1⟩ := hkd2
      replace T := T.far Gb hcB
      replace hG := gtrans hG Gb
      clear F hnb hkd Ca Gb
      have K0 := one_block wb (.cells #[.int .i64 s, .int .i64 kd, .slice none 0 0] 25)
      have hA := balloc wb (.cells #[.int .i64 s, .int .i64 kd, .slice none 0 0] 25)
      have htb : w0.heap.size ≤ wb.heap.size := hG.size
      have hpairB : ∀ k, (Value.slice oa ts.length oc).ownBlock = some k → k ≠ wb.heap.size := fun k hk e => by have := own_blk_lt T.own k hk; omega
      replace Cb := Cb.below hA
      replace T := T.below hA
      replace hG := gtrans hG (gofr _ hA)
      clear hA
      go_wp2_with fail
      generalize wb.alloc (.cells #[.int .i64 s, .int .i64 kd, .slice none 0 0] 25) = wx at *
      generalize wb.heap.size = tb at *
      refine (conce cb cap a bs 9 _ Cb hl (by omega) (by omega)).mono ?_
      rintro e wy ⟨on, rfl, C, Gy⟩
      have K := far_blk Gy K0 (fun j hj => by simp at hj; omega)
      replace T := T.far Gy hcB
      replace hG := gtrans hG Gy
      clear Gy Cb K0
      cases on
      · go_wp2_with fail
        refine wp_region_held_drew (S := (fun _ => True)) (by kernel_rfl) ?_ (fun hHeld => ?_)
        · trivial
        have Bd : Below wy.heap.size wy wy.drew := (Below.refl _ _).drew
        have Kd := blk_keep Bd K
        have Td := T.below Bd
        have Cd := C.below Bd
        have Gd := gtrans hG (gofr _ Bd)
        have pd := (blk3 Kd).1.2.2
        clear K T C hG
        generalize wy.drew = wd at *
        refine wpAnyH_take (i := 0) (v := .pointer (some ⟨tb, 2, none⟩)) rfl (by kernel_rfl) (by kernel_rfl) (by kernel_rfl) (fun _ _ _ h => h) (Or.inl ⟨by kernel_rfl, fun w hS => by go_simp⟩) hHeld ?_
        change wpAnyH _ _ _ _ _ _ _ { tmps := List.toArray (_ :: _ :: _ :: _ :: _ :: _ :: _ :: _ :: _ :: _ :: _ :: _ :: _ :: _ :: _ :: _ :: _ :: _ :: _ :: _ :: _ :: _ :: _ :: _ :: _ :: _ :: _ :: _ :: _ :: .pointer (some ⟨tb, 2, none⟩) :: _ :: _ :: _ :: _ :: _ :: _ :: _ :: _ :: _ :: _ :: _ :: _ :: _ :: _ :: _ :: _ :: _ :: _ :: []), defers := [] } _
        refine wpAnyH_take (i := 2) (v := .pointer (some ⟨cb, 0, none⟩)) rfl (by kernel_rfl) (by kernel_rfl) (by kernel_rfl) (fun _ _ _ h => h) (Or.inl ⟨by kernel_rfl, fun w hS => by go_simp⟩) hHeld ?_
        change wpAnyH _ _ _ _ _ _ _ { tmps := List.toArray (_ :: _ :: _ :: _ :: _ :: _ :: _ :: _ :: _ :: _ :: _ :: _ :: _ :: _ :: _ :: _ :: _ :: _ :: _ :: _ :: _ :: _ :: _ :: _ :: _ :: _ :: _ :: _ :: _ :: .pointer (some ⟨tb, 2, none⟩) :: _ :: .pointer (some ⟨cb, 0, none⟩) :: _ :: _ :: _ :: _ :: _ :: _ :: _ :: _ :: _ :: _ :: _ :: _ :: _ :: _ :: _ :: _ :: []), defers := [] } _
        refine wpAnyH_ready (rs := [1, 3]) (by kernel_rfl) (by simp) ?_
        refine (AllReadyH.cons rfl (fun KK hK => ?_) (AllReadyH.cons rfl (fun KK hK => ?_) AllReadyH.nil))
        · skip
          go_simp
          clear hHeld
          refine hK.out _ _ (trivial) (fun hHeld => ?_)
          clear hK KK
          change wpAnyH _ _ _ _ _ _ _ { tmps := List.toArray (_ :: _ :: _ :: _ :: _ :: _ :: _ :: _ :: _ :: _ :: _ :: _ :: _ :: _ :: _ :: _ :: _ :: _ :: _ :: _ :: _ :: _ :: _ :: _ :: _ :: _ :: _ :: _ :: _ :: .pointer (some ⟨tb, 2, none⟩) :: .slice none 0 0 :: .pointer (some ⟨cb, 0, none⟩) :: _ :: _ :: _ :: _ :: _ :: _ :: _ :: _ :: _ :: _ :: _ :: _ :: _ :: _ :: _ :: _ :: []), defers := [] } _
          refine wpAnyH_ready (rs := [3]) (by kernel_rfl) (by simp) ?_
          refine (AllReadyH.cons rfl (fun KK hK => ?_) AllReadyH.nil)
          go_simp
          refine (cbelow cb cap a bs 9 _ Cd hl (by omega) (by omega)).mono ?_
          rintro e we ⟨r, rfl, r0, r1, Ce, Ge⟩
          have KE := far_blk Ge Kd (fun j hj => by simp at hj; omega)
          have TE := Td.far Ge hcB
          have GE := gtrans Gd Ge
          have wr8 := wrap8 r r0 (by omega)
          have pe := (blk3 KE).1.2.2
          have fe := (blk3 KE).2.2.2
          go_wp2_with fail
          clear hHeld
          refine hK.out _ _ (trivial) (fun hHeld => ?_)
          clear hK KK
          change wpAnyH _ _ _ _ _ _ _ { tmps := List.toArray (_ :: _ :: _ :: _ :: _ :: _ :: _ :: _ :: _ :: _ :: _ :: _ :: _ :: _ :: _ :: _ :: _ :: _ :: _ :: _ :: _ :: _ :: _ :: _ :: _ :: _ :: _ :: _ :: _ :: .pointer (some ⟨tb, 2, none⟩) :: .slice none 0 0 :: .pointer (some ⟨cb, 0, none⟩) :: .int .i64 r :: _ :: _ :: _ :: _ :: _ :: _ :: _ :: _ :: _ :: _ :: _ :: _ :: _ :: _ :: _ :: []), defers := [] } _
          refine wpAnyH_take (i := 4) (v := .int .u8 r) rfl (by kernel_rfl) (by kernel_rfl) (by kernel_rfl) (fun _ _ _ h => h) (Or.inl ⟨by kernel_rfl, fun w hS => by go_simp⟩) hHeld ?_
          change wpAnyH _ _ _ _ _ _ _ { tmps := List.toArray (_ :: _ :: _ :: _ :: _ :: _ :: _ :: _ :: _ :: _ :: _ :: _ :: _ :: _ :: _ :: _ :: _ :: _ :: _ :: _ :: _ :: _ :: _ :: _ :: _ :: _ :: _ :: _ :: _ :: .pointer (some ⟨tb, 2, none⟩) :: .slice none 0 0 :: .pointer (some ⟨cb, 0, none⟩) :: .int .i64 r :: .int .u8 r :: _ :: _ :: _ :: _ :: _ :: _ :: _ :: _ :: _ :: _ :: _ :: _ :: _ :: _ :: []), defers := [] } _
          refine wpAnyH_ready (rs := [5]) (by kernel_rfl) (by simp) ?_
          refine (AllReadyH.cons rfl (fun KK hK => ?_) AllReadyH.nil)
          go_simp
          have p1 := ble (balloc we (.cells #[.int .u8 r] 5)) pe
          clear hHeld
          refine hK.out _ _ (trivial) (fun hHeld => ?_)
          clear hK KK
          change wpAnyH _ _ _ _ _ _ _ { tmps := List.toArray (_ :: _ :: _ :: _ :: _ :: _ :: _ :: _ :: _ :: _ :: _ :: _ :: _ :: _ :: _ :: _ :: _ :: _ :: _ :: _ :: _ :: _ :: _ :: _ :: _ :: _ :: _ :: _ :: _ :: .pointer (some ⟨tb, 2, none⟩) :: .slice none 0 0 :: .pointer (some ⟨cb, 0, none⟩) :: .int .i64 r :: .int .u8 r :: .slice (some ⟨we.heap.size, 0, none⟩) 1 1 :: _ :: _ :: _ :: _ :: _ :: _ :: _ :: _ :: _ :: _ :: _ :: _ :: _ :: []), defers := [] } _
          refine wpAnyH_ready (rs := [6]) (by kernel_rfl) (by simp) ?_
          refine (AllReadyH.cons rfl (fun KK hK => ?_) AllReadyH.nil)
          refine step_append_lies _ (by rfl) _ _ 22 (by rfl) we.heap.size 5 i1 (.int .u8 0) 1 1 Try.underlying22 hi1 hy0 hy1 hy2 rfl (by omega) (.slice none 0 0) 0 (enc8 []) (by rfl) (World.ownsRow_nil _ _ _ _) ⟨we.heap.size, 0, none⟩ 1 1 [.int .u8 r] (by rfl) rfl (World.news_of_block (heap_alloc_new we _)) (fun u hu => by simp at hu; subst hu; rfl) (by omega) (by unfold maxLen; omega) (by omega) (by simp) (we.heap.size + 1) (by simp) ?_
          intro g gc w3 hown hgrow hwh hgl
          have B3 : Below we.heap.size we w3 := below_app (n := 0) (xs := []) (Below.refl _ _) (Nat.le_refl _) (World.ownsRow_nil _ _ 5 1) hgrow
          have K3 := blk_keep B3 KE
          have T3 := TE.below B3
          have C3 := Ce.below B3
          have G3 := gtrans GE (gofr _ B3)
          have p3 := (blk3 K3).1.2.2
          have f3 := (blk3 K3).2.2.2
          have hpr3 : Hid (∀ j, (hj : j < cs.length) → ∀ k, cs[j].v.ownBlock = some k → (Value.slice (some ⟨g, 0, none⟩) 1 gc).ownBlock ≠ some k) := hide (fun j hj k hk e => by have h1 := own_blk_lt (TE.each j hj).2.2 k hk; have h2 := own_from hown (Nat.le_refl _) k e; omega)
          have hneb := own_apartB hown K3 (by decide)
          clear hHeld
          refine hK.out _ _ (trivial) (fun hHeld => ?_)
          clear hK KK
          change wpAnyH _ _ _ _ _ _ _ { tmps := List.toArray (_ :: _ :: _ :: _ :: _ :: _ :: _ :: _ :: _ :: _ :: _ :: _ :: _ :: _ :: _ :: _ :: _ :: _ :: _ :: _ :: _ :: _ :: _ :: _ :: _ :: _ :: _ :: _ :: _ :: .pointer (some ⟨tb, 2, none⟩) :: .slice none 0 0 :: .pointer (some ⟨cb, 0, none⟩) :: .int .i64 r :: .int .u8 r :: .slice (some ⟨we.heap.size, 0, none⟩) 1 1 :: .slice (some ⟨g, 0, none⟩) 1 gc :: _ :: _ :: _ :: _ :: _ :: _ :: _ :: _ :: _ :: _ :: _ :: _ :: []), defers := [] } _
          refine wpAnyH_take (i := 7) (v := .pointer (some ⟨tb, 2, none⟩)) rfl (by kernel_rfl) (by kernel_rfl) (by kernel_rfl) (fun _ _ _ h => h) (Or.inl ⟨by kernel_rfl, fun w hS => by go_simp⟩) hHeld ?_
          change wpAnyH _ _ _ _ _ _ _ { tmps := List.toArray (_ :: _ :: _ :: _ :: _ :: _ :: _ :: _ :: _ :: _ :: _ :: _ :: _ :: _ :: _ :: _ :: _ :: _ :: _ :: _ :: _ :: _ :: _ :: _ :: _ :: _ :: _ :: _ :: _ :: .pointer (some ⟨tb, 2, none⟩) :: .slice none 0 0 :: .pointer (some ⟨cb, 0, none⟩) :: .int .i64 r :: .int .u8 r :: .slice (some ⟨we.heap.size, 0, none⟩) 1 1 :: .slice (some ⟨g, 0, none⟩) 1 gc :: .pointer (some ⟨tb, 2, none⟩) :: _ :: _ :: _ :: _ :: _ :: _ :: _ :: _ :: _ :: _ :: _ :: []), defers := [] } _
          refine wpAnyH_ready (rs := [8]) (by kernel_rfl) (by simp) ?_
          refine (AllReadyH.cons rfl (fun KK hK => ?_) AllReadyH.nil)
          go_simp
          have K4 := box_one (u := .slice (some ⟨g, 0, none⟩) 1 gc) K3
          have T4 := T3.setBox (i := 2) (u := .slice (some ⟨g, 0, none⟩) 1 gc) K3 hpairB
          have C4 := C3.grow hOn (grown_set w3 tb 2 (.slice (some ⟨g, 0, none⟩) 1 gc)) (fun k hk => by simp at hk; omega)
          have G4 := grown_far G3 (grown_set w3 tb 2 (.slice (some ⟨g, 0, none⟩) 1 gc)) (fun k hk => by simp at hk; omega)
          have R4 : (w3.setCell ⟨tb, 2, none⟩ (.slice (some ⟨g, 0, none⟩) 1 gc)).ownsRow w0.heap.size 5 1 (.slice (some ⟨g, 0, none⟩) 1 gc) 1 (enc8 [r]) := own_base (own_set (by simpa [enc8] using hown) hneb) (by have := GE.size; omega)
          clear hHeld
          refine hK.out _ _ (trivial) (fun hHeld => ?_)
          clear hK KK
          change wpAnyH _ _ _ _ _ _ _ { tmps := List.toArray (_ :: _ :: _ :: _ :: _ :: _ :: _ :: _ :: _ :: _ :: _ :: _ :: _ :: _ :: _ :: _ :: _ :: _ :: _ :: _ :: _ :: _ :: _ :: _ :: _ :: _ :: _ :: _ :: _ :: .pointer (some ⟨tb, 2, none⟩) :: .slice none 0 0 :: .pointer (some ⟨cb, 0, none⟩) :: .int .i64 r :: .int .u8 r :: .slice (some ⟨we.heap.size, 0, none⟩) 1 1 :: .slice (some ⟨g, 0, none⟩) 1 gc :: .pointer (some ⟨tb, 2, none⟩) :: _ :: _ :: _ :: _ :: _ :: _ :: _ :: _ :: _ :: _ :: _ :: []), defers := [] } _
          refine wpAnyH_done (by kernel_rfl) ?_ _
          clear hown hgrow hwh hgl p1 KE TE GE B3 K3 T3 C3 G3 p3 f3 hneb Ce Ge pe fe Kd Td Gd Cd pd
          generalize w3.setCell ⟨tb, 2, none⟩ (.slice (some ⟨g, 0, none⟩) 1 gc) = wX at *
          obtain ⟨⟨y0, y1, y2⟩, -⟩ := blk3 K4
          have hot := T4.own
          have hszX := G4.size
          obtain ⟨v9, w9, hrun, hrow, hgrow9⟩ := app_tel ⟨s, kd, .slice (some ⟨g, 0, none⟩) 1 gc⟩ rfl hot (by omega) hszX
          dsimp only at hrun hrow hgrow9
          have A := balloc wX (.cells #[.int .i64 s, .int .i64 kd, .slice (some ⟨g, 0, none⟩) 1 gc] 25)
          have hfrom := own_from hot (Nat.le_refl _)
          have T9 : TabT w0.heap.size w9 v9 (cs ++ [⟨s, kd, .slice (some ⟨g, 0, none⟩) 1 gc⟩]) (ts ++ [⟨s, kd, [r]⟩]) := (T4.below A).push (t := ⟨s, kd, [r]⟩) (by exact hrow) (by exact hgrow9) (by exact own_keep R4 A) hpr3.out
          have C9 := (C4.below A).grow hOn hgrow9 hfrom
          have G9 := grown_far (gtrans G4 (gofr _ A)) hgrow9 hfrom
          obtain ⟨ra9, rc9, rfl⟩ := own_form hrow
          have hW9 : Hid (∀ t ∈ ts ++ [⟨s, kd, [r]⟩], DTel t) := hide (fun t ht => by
            rcases List.mem_append.1 ht with h | h
            · exact hW.out t h
            · simp at h; subst h; exact ⟨s0, s1, kd0, kd1, by simp, By.one r0 (by omega)⟩)
          clear hot hrow hgrow9 A hfrom hW T4 C4 G4 K4 R4 hpr3
          go_wp2_with (at_builtin; refine Go.Lib.wpList_append_run _ rfl _ _ _ _ rfl _ _ rfl rfl _ _ hrun ?_)
          clear hrun y0 y1 y2
          have F := eight w9 1 1 1 1 1 1 0 2
          have hA := balloc w9 (.cells #[.int .i64 1, .int .i64 1, .int .i64 1, .int .i64 1, .int .i64 1, .int .i64 1, .int .i64 0, .int .i64 2] 3)
          have hcw : cb < w9.heap.size := C9.lt (.inl rfl)
          have hnb : ∀ x, (some (⟨w9.heap.size, 0, none⟩ : Addr)) = some x → x.block ≠ cb := fun x hx => by injection hx with hx; subst hx; show w9.heap.size ≠ cb; omega
          replace C9 := C9.below hA
          replace T9 := T9.below hA
          replace G9 := gtrans G9 (gofr _ hA)
          clear hA hcw hszX
          refine (cPick cb cap a bs _ 8 [1, 1, 1, 1, 1, 1, 0, 2] _ C9 hl F hnb (by simp) (by simp)).mono ?_
          rintro e wc ⟨p, rfl, hp, C10, Gc⟩
          have hp2 : 0 ≤ p ∧ p ≤ 2 := by simp at hp; omega
          have T10 := T9.far Gc hcB
          have G10 := gtrans G9 Gc
          clear F hnb hp T9 G9 C9 Gc
          have hws : IntKind.i64.wrap (s + p) = s + p := wrap_in _ (by omega) (by omega)
          obtain ⟨s9, hs9⟩ : ∃ s9, (s + p).tmod 256 = s9 := ⟨_, rfl⟩
          have hs90 : 0 ≤ s9 ∧ s9 ≤ 255 := by rw [← hs9, Int.tmod_eq_emod_of_nonneg (by omega)]; omega
          have hws9 : IntKind.i64.wrap s9 = s9 := wrap_in _ (by omega) (by omega)
          have hL9 : Hid (((ts ++ [(⟨s, kd, [r]⟩ : TelV)]).length : Int) + (I - 1) = n3) := hide (by have := hLI.out; rw [List.length_append]; push_cast; simp; omega)
          go_wp2
          go_roundw
          case rel => exact ⟨_, _, I - 1, s9, rfl, rfl, by omega, hs90.1, hs90.2, hL9, hW9, T10, C10, G10⟩
          case measure => simp [intOf]; omega
          
        · skip
          go_simp
          refine (cbelow cb cap a bs 9 _ Cd hl (by omega) (by omega)).mono ?_
          rintro e we ⟨r, rfl, r0, r1, Ce, Ge⟩
          have KE := far_blk Ge Kd (fun j hj => by simp at hj; omega)
          have TE := Td.far Ge hcB
          have GE := gtrans Gd Ge
          have wr8 := wrap8 r r0 (by omega)
          have pe := (blk3 KE).1.2.2
          have fe := (blk3 KE).2.2.2
          go_wp2_with fail
          clear hHeld
          refine hK.out _ _ (trivial) (fun hHeld => ?_)
          clear hK KK
          change wpAnyH _ _ _ _ _ _ _ { tmps := List.toArray (_ :: _ :: _ :: _ :: _ :: _ :: _ :: _ :: _ :: _ :: _ :: _ :: _ :: _ :: _ :: _ :: _ :: _ :: _ :: _ :: _ :: _ :: _ :: _ :: _ :: _ :: _ :: _ :: _ :: .pointer (some ⟨tb, 2, none⟩) :: _ :: .pointer (some ⟨cb, 0, none⟩) :: .int .i64 r :: _ :: _ :: _ :: _ :: _ :: _ :: _ :: _ :: _ :: _ :: _ :: _ :: _ :: _ :: _ :: []), defers := [] } _
          refine wpAnyH_take (i := 4) (v := .int .u8 r) rfl (by kernel_rfl) (by kernel_rfl) (by kernel_rfl) (fun _ _ _ h => h) (Or.inl ⟨by kernel_rfl, fun w hS => by go_simp⟩) hHeld ?_
          change wpAnyH _ _ _ _ _ _ _ { tmps := List.toArray (_ :: _ :: _ :: _ :: _ :: _ :: _ :: _ :: _ :: _ :: _ :: _ :: _ :: _ :: _ :: _ :: _ :: _ :: _ :: _ :: _ :: _ :: _ :: _ :: _ :: _ :: _ :: _ :: _ :: .pointer (some ⟨tb, 2, none⟩) :: _ :: .pointer (some ⟨cb, 0, none⟩) :: .int .i64 r :: .int .u8 r :: _ :: _ :: _ :: _ :: _ :: _ :: _ :: _ :: _ :: _ :: _ :: _ :: _ :: _ :: []), defers := [] } _
          refine wpAnyH_ready (rs := [1, 5]) (by kernel_rfl) (by simp) ?_
          refine (AllReadyH.cons rfl (fun KK hK => ?_) (AllReadyH.cons rfl (fun KK hK => ?_) AllReadyH.nil))
          · skip
            go_simp
            clear hHeld
            refine hK.out _ _ (trivial) (fun hHeld => ?_)
            clear hK KK
            change wpAnyH _ _ _ _ _ _ _ { tmps := List.toArray (_ :: _ :: _ :: _ :: _ :: _ :: _ :: _ :: _ :: _ :: _ :: _ :: _ :: _ :: _ :: _ :: _ :: _ :: _ :: _ :: _ :: _ :: _ :: _ :: _ :: _ :: _ :: _ :: _ :: .pointer (some ⟨tb, 2, none⟩) :: .slice none 0 0 :: .pointer (some ⟨cb, 0, none⟩) :: .int .i64 r :: .int .u8 r :: _ :: _ :: _ :: _ :: _ :: _ :: _ :: _ :: _ :: _ :: _ :: _ :: _ :: _ :: []), defers := [] } _
            refine wpAnyH_ready (rs := [5]) (by kernel_rfl) (by simp) ?_
            refine (AllReadyH.cons rfl (fun KK hK => ?_) AllReadyH.nil)
            go_simp
            have p1 := ble (balloc we (.cells #[.int .u8 r] 5)) pe
            clear hHeld
            refine hK.out _ _ (trivial) (fun hHeld => ?_)
            clear hK KK
            change wpAnyH _ _ _ _ _ _ _ { tmps := List.toArray (_ :: _ :: _ :: _ :: _ :: _ :: _ :: _ :: _ :: _ :: _ :: _ :: _ :: _ :: _ :: _ :: _ :: _ :: _ :: _ :: _ :: _ :: _ :: _ :: _ :: _ :: _ :: _ :: _ :: .pointer (some ⟨tb, 2, none⟩) :: .slice none 0 0 :: .pointer (some ⟨cb, 0, none⟩) :: .int .i64 r :: .int .u8 r :: .slice (some ⟨we.heap.size, 0, none⟩) 1 1 :: _ :: _ :: _ :: _ :: _ :: _ :: _ :: _ :: _ :: _ :: _ :: _ :: _ :: []), defers := [] } _
            refine wpAnyH_ready (rs := [6]) (by kernel_rfl) (by simp) ?_
            refine (AllReadyH.cons rfl (fun KK hK => ?_) AllReadyH.nil)
            refine step_append_lies _ (by rfl) _ _ 22 (by rfl) we.heap.size 5 i1 (.int .u8 0) 1 1 Try.underlying22 hi1 hy0 hy1 hy2 rfl (by omega) (.slice none 0 0) 0 (enc8 []) (by rfl) (World.ownsRow_nil _ _ _ _) ⟨we.heap.size, 0, none⟩ 1 1 [.int .u8 r] (by rfl) rfl (World.news_of_block (heap_alloc_new we _)) (fun u hu => by simp at hu; subst hu; rfl) (by omega) (by unfold maxLen; omega) (by omega) (by simp) (we.heap.size + 1) (by simp) ?_
            intro g gc w3 hown hgrow hwh hgl
            have B3 : Below we.heap.size we w3 := below_app (n := 0) (xs := []) (Below.refl _ _) (Nat.le_refl _) (World.ownsRow_nil _ _ 5 1) hgrow
            have K3 := blk_keep B3 KE
            have T3 := TE.below B3
            have C3 := Ce.below B3
            have G3 := gtrans GE (gofr _ B3)
            have p3 := (blk3 K3).1.2.2
            have f3 := (blk3 K3).2.2.2
            have hpr3 : Hid (∀ j, (hj : j < cs.length) → ∀ k, cs[j].v.ownBlock = some k → (Value.slice (some ⟨g, 0, none⟩) 1 gc).ownBlock ≠ some k) := hide (fun j hj k hk e => by have h1 := own_blk_lt (TE.each j hj).2.2 k hk; have h2 := own_from hown (Nat.le_refl _) k e; omega)
            have hneb := own_apartB hown K3 (by decide)
            clear hHeld
            refine hK.out _ _ (trivial) (fun hHeld => ?_)
            clear hK KK
            change wpAnyH _ _ _ _ _ _ _ { tmps := List.toArray (_ :: _ :: _ :: _ :: _ :: _ :: _ :: _ :: _ :: _ :: _ :: _ :: _ :: _ :: _ :: _ :: _ :: _ :: _ :: _ :: _ :: _ :: _ :: _ :: _ :: _ :: _ :: _ :: _ :: .pointer (some ⟨tb, 2, none⟩) :: .slice none 0 0 :: .pointer (some ⟨cb, 0, none⟩) :: .int .i64 r :: .int .u8 r :: .slice (some ⟨we.heap.size, 0, none⟩) 1 1 :: .slice (some ⟨g, 0, none⟩) 1 gc :: _ :: _ :: _ :: _ :: _ :: _ :: _ :: _ :: _ :: _ :: _ :: _ :: []), defers := [] } _
            refine wpAnyH_take (i := 7) (v := .pointer (some ⟨tb, 2, none⟩)) rfl (by kernel_rfl) (by kernel_rfl) (by kernel_rfl) (fun _ _ _ h => h) (Or.inl ⟨by kernel_rfl, fun w hS => by go_simp⟩) hHeld ?_
            change wpAnyH _ _ _ _ _ _ _ { tmps := List.toArray (_ :: _ :: _ :: _ :: _ :: _ :: _ :: _ :: _ :: _ :: _ :: _ :: _ :: _ :: _ :: _ :: _ :: _ :: _ :: _ :: _ :: _ :: _ :: _ :: _ :: _ :: _ :: _ :: _ :: .pointer (some ⟨tb, 2, none⟩) :: .slice none 0 0 :: .pointer (some ⟨cb, 0, none⟩) :: .int .i64 r :: .int .u8 r :: .slice (some ⟨we.heap.size, 0, none⟩) 1 1 :: .slice (some ⟨g, 0, none⟩) 1 gc :: .pointer (some ⟨tb, 2, none⟩) :: _ :: _ :: _ :: _ :: _ :: _ :: _ :: _ :: _ :: _ :: _ :: []), defers := [] } _
            refine wpAnyH_ready (rs := [8]) (by kernel_rfl) (by simp) ?_
            refine (AllReadyH.cons rfl (fun KK hK => ?_) AllReadyH.nil)
            go_simp
            have K4 := box_one (u := .slice (some ⟨g, 0, none⟩) 1 gc) K3
            have T4 := T3.setBox (i := 2) (u := .slice (some ⟨g, 0, none⟩) 1 gc) K3 hpairB
            have C4 := C3.grow hOn (grown_set w3 tb 2 (.slice (some ⟨g, 0, none⟩) 1 gc)) (fun k hk => by simp at hk; omega)
            have G4 := grown_far G3 (grown_set w3 tb 2 (.slice (some ⟨g, 0, none⟩) 1 gc)) (fun k hk => by simp at hk; omega)
            have R4 : (w3.setCell ⟨tb, 2, none⟩ (.slice (some ⟨g, 0, none⟩) 1 gc)).ownsRow w0.heap.size 5 1 (.slice (some ⟨g, 0, none⟩) 1 gc) 1 (enc8 [r]) := own_base (own_set (by simpa [enc8] using hown) hneb) (by have := GE.size; omega)
            clear hHeld
            refine hK.out _ _ (trivial) (fun hHeld => ?_)
            clear hK KK
            change wpAnyH _ _ _ _ _ _ _ { tmps := List.toArray (_ :: _ :: _ :: _ :: _ :: _ :: _ :: _ :: _ :: _ :: _ :: _ :: _ :: _ :: _ :: _ :: _ :: _ :: _ :: _ :: _ :: _ :: _ :: _ :: _ :: _ :: _ :: _ :: _ :: .pointer (some ⟨tb, 2, none⟩) :: .slice none 0 0 :: .pointer (some ⟨cb, 0, none⟩) :: .int .i64 r :: .int .u8 r :: .slice (some ⟨we.heap.size, 0, none⟩) 1 1 :: .slice (some ⟨g, 0, none⟩) 1 gc :: .pointer (some ⟨tb, 2, none⟩) :: _ :: _ :: _ :: _ :: _ :: _ :: _ :: _ :: _ :: _ :: _ :: []), defers := [] } _
            refine wpAnyH_done (by kernel_rfl) ?_ _
            clear hown hgrow hwh hgl p1 KE TE GE B3 K3 T3 C3 G3 p3 f3 hneb Ce Ge pe fe Kd Td Gd Cd pd
            generalize w3.setCell ⟨tb, 2, none⟩ (.slice (some ⟨g, 0, none⟩) 1 gc) = wX at *
            obtain ⟨⟨y0, y1, y2⟩, -⟩ := blk3 K4
            have hot := T4.own
            have hszX := G4.size
            obtain ⟨v9, w9, hrun, hrow, hgrow9⟩ := app_tel ⟨s, kd, .slice (some ⟨g, 0, none⟩) 1 gc⟩ rfl hot (by omega) hszX
            dsimp only at hrun hrow hgrow9
            have A := balloc wX (.cells #[.int .i64 s, .int .i64 kd, .slice (some ⟨g, 0, none⟩) 1 gc] 25)
            have hfrom := own_from hot (Nat.le_refl _)
            have T9 : TabT w0.heap.size w9 v9 (cs ++ [⟨s, kd, .slice (some ⟨g, 0, none⟩) 1 gc⟩]) (ts ++ [⟨s, kd, [r]⟩]) := (T4.below A).push (t := ⟨s, kd, [r]⟩) (by exact hrow) (by exact hgrow9) (by exact own_keep R4 A) hpr3.out
            have C9 := (C4.below A).grow hOn hgrow9 hfrom
            have G9 := grown_far (gtrans G4 (gofr _ A)) hgrow9 hfrom
            obtain ⟨ra9, rc9, rfl⟩ := own_form hrow
            have hW9 : Hid (∀ t ∈ ts ++ [⟨s, kd, [r]⟩], DTel t) := hide (fun t ht => by
              rcases List.mem_append.1 ht with h | h
              · exact hW.out t h
              · simp at h; subst h; exact ⟨s0, s1, kd0, kd1, by simp, By.one r0 (by omega)⟩)
            clear hot hrow hgrow9 A hfrom hW T4 C4 G4 K4 R4 hpr3
            go_wp2_with (at_builtin; refine Go.Lib.wpList_append_run _ rfl _ _ _ _ rfl _ _ rfl rfl _ _ hrun ?_)
            clear hrun y0 y1 y2
            have F := eight w9 1 1 1 1 1 1 0 2
            have hA := balloc w9 (.cells #[.int .i64 1, .int .i64 1, .int .i64 1, .int .i64 1, .int .i64 1, .int .i64 1, .int .i64 0, .int .i64 2] 3)
            have hcw : cb < w9.heap.size := C9.lt (.inl rfl)
            have hnb : ∀ x, (some (⟨w9.heap.size, 0, none⟩ : Addr)) = some x → x.block ≠ cb := fun x hx => by injection hx with hx; subst hx; show w9.heap.size ≠ cb; omega
            replace C9 := C9.below hA
            replace T9 := T9.below hA
            replace G9 := gtrans G9 (gofr _ hA)
            clear hA hcw hszX
            refine (cPick cb cap a bs _ 8 [1, 1, 1, 1, 1, 1, 0, 2] _ C9 hl F hnb (by simp) (by simp)).mono ?_
            rintro e wc ⟨p, rfl, hp, C10, Gc⟩
            have hp2 : 0 ≤ p ∧ p ≤ 2 := by simp at hp; omega
            have T10 := T9.far Gc hcB
            have G10 := gtrans G9 Gc
            clear F hnb hp T9 G9 C9 Gc
            have hws : IntKind.i64.wrap (s + p) = s + p := wrap_in _ (by omega) (by omega)
            obtain ⟨s9, hs9⟩ : ∃ s9, (s + p).tmod 256 = s9 := ⟨_, rfl⟩
            have hs90 : 0 ≤ s9 ∧ s9 ≤ 255 := by rw [← hs9, Int.tmod_eq_emod_of_nonneg (by omega)]; omega
            have hws9 : IntKind.i64.wrap s9 = s9 := wrap_in _ (by omega) (by omega)
            have hL9 : Hid (((ts ++ [(⟨s, kd, [r]⟩ : TelV)]).length : Int) + (I - 1) = n3) := hide (by have := hLI.out; rw [List.length_append]; push_cast; simp; omega)
            go_wp2
            go_roundw
            case rel => exact ⟨_, _, I - 1, s9, rfl, rfl, by omega, hs90.1, hs90.2, hL9, hW9, T10, C10, G10⟩
            case measure => simp [intOf]; omega
            
          · skip
            go_simp
            have p1 := ble (balloc we (.cells #[.int .u8 r] 5)) pe
            clear hHeld
            refine hK.out _ _ (trivial) (fun hHeld => ?_)
            clear hK KK
            change wpAnyH _ _ _ _ _ _ _ { tmps := List.toArray (_ :: _ :: _ :: _ :: _ :: _ :: _ :: _ :: _ :: _ :: _ :: _ :: _ :: _ :: _ :: _ :: _ :: _ :: _ :: _ :: _ :: _ :: _ :: _ :: _ :: _ :: _ :: _ :: _ :: .pointer (some ⟨tb, 2, none⟩) :: _ :: .pointer (some ⟨cb, 0, none⟩) :: .int .i64 r :: .int .u8 r :: .slice (some ⟨we.heap.size, 0, none⟩) 1 1 :: _ :: _ :: _ :: _ :: _ :: _ :: _ :: _ :: _ :: _ :: _ :: _ :: _ :: []), defers := [] } _
            refine wpAnyH_ready (rs := [1]) (by kernel_rfl) (by simp) ?_
            refine (AllReadyH.cons rfl (fun KK hK => ?_) AllReadyH.nil)
            go_simp
            clear hHeld
            refine hK.out _ _ (trivial) (fun hHeld => ?_)
            clear hK KK
            change wpAnyH _ _ _ _ _ _ _ { tmps := List.toArray (_ :: _ :: _ :: _ :: _ :: _ :: _ :: _ :: _ :: _ :: _ :: _ :: _ :: _ :: _ :: _ :: _ :: _ :: _ :: _ :: _ :: _ :: _ :: _ :: _ :: _ :: _ :: _ :: _ :: .pointer (some ⟨tb, 2, none⟩) :: .slice none 0 0 :: .pointer (some ⟨cb, 0, none⟩) :: .int .i64 r :: .int .u8 r :: .slice (some ⟨we.heap.size, 0, none⟩) 1 1 :: _ :: _ :: _ :: _ :: _ :: _ :: _ :: _ :: _ :: _ :: _ :: _ :: _ :: []), defers := [] } _
            refine wpAnyH_ready (rs := [6]) (by kernel_rfl) (by simp) ?_
            refine (AllReadyH.cons rfl (fun KK hK => ?_) AllReadyH.nil)
            refine step_append_lies _ (by rfl) _ _ 22 (by rfl) we.heap.size 5 i1 (.int .u8 0) 1 1 Try.underlying22 hi1 hy0 hy1 hy2 rfl (by omega) (.slice none 0 0) 0 (enc8 []) (by rfl) (World.ownsRow_nil _ _ _ _) ⟨we.heap.size, 0, none⟩ 1 1 [.int .u8 r] (by rfl) rfl (World.news_of_block (heap_alloc_new we _)) (fun u hu => by simp at hu; subst hu; rfl) (by omega) (by unfold maxLen; omega) (by omega) (by simp) (we.heap.size + 1) (by simp) ?_
            intro g gc w3 hown hgrow hwh hgl
            have B3 : Below we.heap.size we w3 := below_app (n := 0) (xs := []) (Below.refl _ _) (Nat.le_refl _) (World.ownsRow_nil _ _ 5 1) hgrow
            have K3 := blk_keep B3 KE
            have T3 := TE.below B3
            have C3 := Ce.below B3
            have G3 := gtrans GE (gofr _ B3)
            have p3 := (blk3 K3).1.2.2
            have f3 := (blk3 K3).2.2.2
            have hpr3 : Hid (∀ j, (hj : j < cs.length) → ∀ k, cs[j].v.ownBlock = some k → (Value.slice (some ⟨g, 0, none⟩) 1 gc).ownBlock ≠ some k) := hide (fun j hj k hk e => by have h1 := own_blk_lt (TE.each j hj).2.2 k hk; have h2 := own_from hown (Nat.le_refl _) k e; omega)
            have hneb := own_apartB hown K3 (by decide)
            clear hHeld
            refine hK.out _ _ (trivial) (fun hHeld => ?_)
            clear hK KK
            change wpAnyH _ _ _ _ _ _ _ { tmps := List.toArray (_ :: _ :: _ :: _ :: _ :: _ :: _ :: _ :: _ :: _ :: _ :: _ :: _ :: _ :: _ :: _ :: _ :: _ :: _ :: _ :: _ :: _ :: _ :: _ :: _ :: _ :: _ :: _ :: _ :: .pointer (some ⟨tb, 2, none⟩) :: .slice none 0 0 :: .pointer (some ⟨cb, 0, none⟩) :: .int .i64 r :: .int .u8 r :: .slice (some ⟨we.heap.size, 0, none⟩) 1 1 :: .slice (some ⟨g, 0, none⟩) 1 gc :: _ :: _ :: _ :: _ :: _ :: _ :: _ :: _ :: _ :: _ :: _ :: _ :: []), defers := [] } _
            refine wpAnyH_take (i := 7) (v := .pointer (some ⟨tb, 2, none⟩)) rfl (by kernel_rfl) (by kernel_rfl) (by kernel_rfl) (fun _ _ _ h => h) (Or.inl ⟨by kernel_rfl, fun w hS => by go_simp⟩) hHeld ?_
            change wpAnyH _ _ _ _ _ _ _ { tmps := List.toArray (_ :: _ :: _ :: _ :: _ :: _ :: _ :: _ :: _ :: _ :: _ :: _ :: _ :: _ :: _ :: _ :: _ :: _ :: _ :: _ :: _ :: _ :: _ :: _ :: _ :: _ :: _ :: _ :: _ :: .pointer (some ⟨tb, 2, none⟩) :: .slice none 0 0 :: .pointer (some ⟨cb, 0, none⟩) :: .int .i64 r :: .int .u8 r :: .slice (some ⟨we.heap.size, 0, none⟩) 1 1 :: .slice (some ⟨g, 0, none⟩) 1 gc :: .pointer (some ⟨tb, 2, none⟩) :: _ :: _ :: _ :: _ :: _ :: _ :: _ :: _ :: _ :: _ :: _ :: []), defers := [] } _
            refine wpAnyH_ready (rs := [8]) (by kernel_rfl) (by simp) ?_
            refine (AllReadyH.cons rfl (fun KK hK => ?_) AllReadyH.nil)
            go_simp
            have K4 := box_one (u := .slice (some ⟨g, 0, none⟩) 1 gc) K3
            have T4 := T3.setBox (i := 2) (u := .slice (some ⟨g, 0, none⟩) 1 gc) K3 hpairB
            have C4 := C3.grow hOn (grown_set w3 tb 2 (.slice (some ⟨g, 0, none⟩) 1 gc)) (fun k hk => by simp at hk; omega)
            have G4 := grown_far G3 (grown_set w3 tb 2 (.slice (some ⟨g, 0, none⟩) 1 gc)) (fun k hk => by simp at hk; omega)
            have R4 : (w3.setCell ⟨tb, 2, none⟩ (.slice (some ⟨g, 0, none⟩) 1 gc)).ownsRow w0.heap.size 5 1 (.slice (some ⟨g, 0, none⟩) 1 gc) 1 (enc8 [r]) := own_base (own_set (by simpa [enc8] using hown) hneb) (by have := GE.size; omega)
            clear hHeld
            refine hK.out _ _ (trivial) (fun hHeld => ?_)
            clear hK KK
            change wpAnyH _ _ _ _ _ _ _ { tmps := List.toArray (_ :: _ :: _ :: _ :: _ :: _ :: _ :: _ :: _ :: _ :: _ :: _ :: _ :: _ :: _ :: _ :: _ :: _ :: _ :: _ :: _ :: _ :: _ :: _ :: _ :: _ :: _ :: _ :: _ :: .pointer (some ⟨tb, 2, none⟩) :: .slice none 0 0 :: .pointer (some ⟨cb, 0, none⟩) :: .int .i64 r :: .int .u8 r :: .slice (some ⟨we.heap.size, 0, none⟩) 1 1 :: .slice (some ⟨g, 0, none⟩) 1 gc :: .pointer (some ⟨tb, 2, none⟩) :: _ :: _ :: _ :: _ :: _ :: _ :: _ :: _ :: _ :: _ :: _ :: []), defers := [] } _
            refine wpAnyH_done (by kernel_rfl) ?_ _
            clear hown hgrow hwh hgl p1 KE TE GE B3 K3 T3 C3 G3 p3 f3 hneb Ce Ge pe fe Kd Td Gd Cd pd
            generalize w3.setCell ⟨tb, 2, none⟩ (.slice (some ⟨g, 0, none⟩) 1 gc) = wX at *
            obtain ⟨⟨y0, y1, y2⟩, -⟩ := blk3 K4
            have hot := T4.own
            have hszX := G4.size
            obtain ⟨v9, w9, hrun, hrow, hgrow9⟩ := app_tel ⟨s, kd, .slice (some ⟨g, 0, none⟩) 1 gc⟩ rfl hot (by omega) hszX
            dsimp only at hrun hrow hgrow9
            have A := balloc wX (.cells #[.int .i64 s, .int .i64 kd, .slice (some ⟨g, 0, none⟩) 1 gc] 25)
            have hfrom := own_from hot (Nat.le_refl _)
            have T9 : TabT w0.heap.size w9 v9 (cs ++ [⟨s, kd, .slice (some ⟨g, 0, none⟩) 1 gc⟩]) (ts ++ [⟨s, kd, [r]⟩]) := (T4.below A).push (t := ⟨s, kd, [r]⟩) (by exact hrow) (by exact hgrow9) (by exact own_keep R4 A) hpr3.out
            have C9 := (C4.below A).grow hOn hgrow9 hfrom
            have G9 := grown_far (gtrans G4 (gofr _ A)) hgrow9 hfrom
            obtain ⟨ra9, rc9, rfl⟩ := own_form hrow
            have hW9 : Hid (∀ t ∈ ts ++ [⟨s, kd, [r]⟩], DTel t) := hide (fun t ht => by
              rcases List.mem_append.1 ht with h | h
              · exact hW.out t h
              · simp at h; subst h; exact ⟨s0, s1, kd0, kd1, by simp, By.one r0 (by omega)⟩)
            clear hot hrow hgrow9 A hfrom hW T4 C4 G4 K4 R4 hpr3
            go_wp2_with (at_builtin; refine Go.Lib.wpList_append_run _ rfl _ _ _ _ rfl _ _ rfl rfl _ _ hrun ?_)
            clear hrun y0 y1 y2
            have F := eight w9 1 1 1 1 1 1 0 2
            have hA := balloc w9 (.cells #[.int .i64 1, .int .i64 1, .int .i64 1, .int .i64 1, .int .i64 1, .int .i64 1, .int .i64 0, .int .i64 2] 3)
            have hcw : cb < w9.heap.size := C9.lt (.inl rfl)
            have hnb : ∀ x, (some (⟨w9.heap.size, 0, none⟩ : Addr)) = some x → x.block ≠ cb := fun x hx => by injection hx with hx; subst hx; show w9.heap.size ≠ cb; omega
            replace C9 := C9.below hA
            replace T9 := T9.below hA
            replace G9 := gtrans G9 (gofr _ hA)
            clear hA hcw hszX
            refine (cPick cb cap a bs _ 8 [1, 1, 1, 1, 1, 1, 0, 2] _ C9 hl F hnb (by simp) (by simp)).mono ?_
            rintro e wc ⟨p, rfl, hp, C10, Gc⟩
            have hp2 : 0 ≤ p ∧ p ≤ 2 := by simp at hp; omega
            have T10 := T9.far Gc hcB
            have G10 := gtrans G9 Gc
            clear F hnb hp T9 G9 C9 Gc
            have hws : IntKind.i64.wrap (s + p) = s + p := wrap_in _ (by omega) (by omega)
            obtain ⟨s9, hs9⟩ : ∃ s9, (s + p).tmod 256 = s9 := ⟨_, rfl⟩
            have hs90 : 0 ≤ s9 ∧ s9 ≤ 255 := by rw [← hs9, Int.tmod_eq_emod_of_nonneg (by omega)]; omega
            have hws9 : IntKind.i64.wrap s9 = s9 := wrap_in _ (by omega) (by omega)
            have hL9 : Hid (((ts ++ [(⟨s, kd, [r]⟩ : TelV)]).length : Int) + (I - 1) = n3) := hide (by have := hLI.out; rw [List.length_append]; push_cast; simp; omega)
            go_wp2
            go_roundw
            case rel => exact ⟨_, _, I - 1, s9, rfl, rfl, by omega, hs90.1, hs90.2, hL9, hW9, T10, C10, G10⟩
            case measure => simp [intOf]; omega
            
      · have hprn : Hid (∀ j, (hj : j < cs.length) → ∀ k, cs[j].v.ownBlock = some k → (Value.slice none 0 0).ownBlock ≠ some k) := hide (fun j hj k hk e => by simp [Value.ownBlock] at e)
        have Rn : wy.ownsRow w0.heap.size 5 1 (.slice none 0 0) 0 (enc8 []) := World.ownsRow_nil _ _ _ _
        obtain ⟨⟨y0, y1, y2⟩, -⟩ := blk3 K
        have hot := T.own
        have hszX := hG.size
        obtain ⟨v9, w9, hrun, hrow, hgrow9⟩ := app_tel ⟨s, kd, .slice none 0 0⟩ rfl hot (by omega) hszX
        dsimp only at hrun hrow hgrow9
        have A := balloc wy (.cells #[.int .i64 s, .int .i64 kd, .slice none 0 0] 25)
        have hfrom := own_from hot (Nat.le_refl _)
        have T9 : TabT w0.heap.size w9 v9 (cs ++ [⟨s, kd, .slice none 0 0⟩]) (ts ++ [⟨s, kd, []⟩]) := (T.below A).push (t := ⟨s, kd, []⟩) (by exact hrow) (by exact hgrow9) (by exact own_keep Rn A) hprn.out
        have C9 := (C.below A).grow hOn hgrow9 hfrom
        have G9 := grown_far (gtrans hG (gofr _ A)) hgrow9 hfrom
        obtain ⟨ra9, rc9, rfl⟩ := own_form hrow
        have hW9 : Hid (∀ t ∈ ts ++ [⟨s, kd, []⟩], DTel t) := hide (fun t ht => by
          rcases List.mem_append.1 ht with h | h
          · exact hW.out t h
          · simp at h; subst h; exact ⟨s0, s1, kd0, kd1, by simp, By.nil⟩)
        clear hot hrow hgrow9 A hfrom hW T C hG K Rn hprn
        go_wp2_with (at_builtin; refine Go.Lib.wpList_append_run _ rfl _ _ _ _ rfl _ _ rfl rfl _ _ hrun ?_)
        clear hrun y0 y1 y2
        have F := eight w9 1 1 1 1 1 1 0 2
        have hA := balloc w9 (.cells #[.int .i64 1, .int .i64 1, .int .i64 1, .int .i64 1, .int .i64 1, .int .i64 1, .int .i64 0, .int .i64 2] 3)
        have hcw : cb < w9.heap.size := C9.lt (.inl rfl)
        have hnb : ∀ x, (some (⟨w9.heap.size, 0, none⟩ : Addr)) = some x → x.block ≠ cb := fun x hx => by injection hx with hx; subst hx; show w9.heap.size ≠ cb; omega
        replace C9 := C9.below hA
        replace T9 := T9.below hA
        replace G9 := gtrans G9 (gofr _ hA)
        clear hA hcw hszX
        refine (cPick cb cap a bs _ 8 [1, 1, 1, 1, 1, 1, 0, 2] _ C9 hl F hnb (by simp) (by simp)).mono ?_
        rintro e wc ⟨p, rfl, hp, C10, Gc⟩
        have hp2 : 0 ≤ p ∧ p ≤ 2 := by simp at hp; omega
        have T10 := T9.far Gc hcB
        have G10 := gtrans G9 Gc
        clear F hnb hp T9 G9 C9 Gc
        have hws : IntKind.i64.wrap (s + p) = s + p := wrap_in _ (by omega) (by omega)
        obtain ⟨s9, hs9⟩ : ∃ s9, (s + p).tmod 256 = s9 := ⟨_, rfl⟩
        have hs90 : 0 ≤ s9 ∧ s9 ≤ 255 := by rw [← hs9, Int.tmod_eq_emod_of_nonneg (by omega)]; omega
        have hws9 : IntKind.i64.wrap s9 = s9 := wrap_in _ (by omega) (by omega)
        have hL9 : Hid (((ts ++ [(⟨s, kd, []⟩ : TelV)]).length : Int) + (I - 1) = n3) := hide (by have := hLI.out; rw [List.length_append]; push_cast; simp; omega)
        go_wp2
        go_roundw
        case rel => exact ⟨_, _, I - 1, s9, rfl, rfl, by omega, hs90.1, hs90.2, hL9, hW9, T10, C10, G10⟩
        case measure => simp [intOf]; omega
    · have hI0 : I = 0 := by omega
      replace T := hide T
      replace hI0 := hide hI0
      clear C
      go_wp2
      go_ret
      exact ⟨ts, cs, _, rfl, hml, hW.out, T.out, hG⟩
set_option maxHeartbeats 1600000 in
theorem cDrawTs (cap : Nat) (a : Option Addr) (bs : List Int) (w : World) (hz : Bytes w a bs) (hl : bs.length ≤ 1048576) :
    Calls Try.prog 23 #[.slice a bs.length cap] w (DrawnT w) := by
  go_enter Try.func23, Try.ntmps23
  go_wp2_with fail
  refine (cnew a cap bs _ hz hl).mono ?_
  rintro e w0 ⟨cb, rfl, hcb, C0, b0⟩
  go_wp2_with fail
  refine (cDrawL cb cap a bs w0 C0 hl).mono ?_
  rintro e w1 ⟨ts, cs, v, rfl, h1, h2, T, G⟩
  have HB : Below w.heap.size w w1 := b0.grown G b0.size (fun k hk => by cases hk; exact hcb)
  have T1 := hide (T.base b0.size)
  obtain ⟨va, vc, rfl⟩ := own_form T.own
  clear T G b0 C0
  go_wp2
  go_ret
  exact ⟨ts, cs, _, rfl, h1, h2, T1.out, HB⟩
end Go.Proofs.Ytgnohomplehacaa
