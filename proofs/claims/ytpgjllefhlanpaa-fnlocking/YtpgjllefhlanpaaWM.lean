/- The walk of FnLocking. -/
import Derived.Test.YtpgjllefhlanpaaWL
namespace Go.Proofs.Ytpgjllefhlanpaa
open Go.RowKit
theorem Ints.at' {w w' : World} {g lo hi c n : Nat} {b : Option Addr} {xs : List Int} (h : RowZ w lo hi 3 (.slice b n c) (xs.map (.int .i64))) (hg : w.grownBy w' (some g)) (hl : g < lo) : Ints w' b xs := by
  rcases h with ⟨h1, _⟩ | ⟨h1, h2, h3⟩
  · exact .inl (by simpa using h1)
  · have h2' := own_far h2 hg (fun k hk e => by have := own_from h2 (Nat.le_refl _) k hk; simp at e; omega)
    have hn : (xs.map (Value.int .i64)).length = n := by
      rcases h2.2 with ⟨he, h0⟩ | ⟨_, _, _, he, _⟩
      · simp only [Value.slice.injEq] at he; omega
      · simp only [Value.slice.injEq] at he; omega
    rw [hn] at h2'
    exact Ints.own h2' (by simpa using hn)

set_option maxRecDepth 20000 in
set_option maxHeartbeats 12800000 in
theorem walkLocking (a : Option Addr) (cap : Nat) (bs : List Int) (w : World) (hz : Bytes w a bs) (hn : bs.length ≤ maxLen) :
    Calls Try.prog 3 #[.slice a bs.length cap] w fun e w' => e = .returned (.bool true) ∧ Below w.heap.size w w' := by
  go_enter Try.func3, Try.ntmps3
  go_wp2_with fail
  refine (cbig a cap bs.length _ hn).mono ?_
  rintro e w1 ⟨rfl, hw⟩
  subst w1
  by_cases hB : 1048576 < bs.length
  · rw [decide_eq_true hB]
    go_wp2
    go_ret
    exact ⟨rfl, Below.refl _ _⟩
  rw [decide_eq_false hB]
  have hl : bs.length ≤ 1048576 := by omega
  clear hB
  go_wp2_with fail
  refine (cDrawQ cap a bs _ hz hl).mono ?_
  rintro e w1 ⟨p, os, au, ar, ao, cu, cr, co, rfl, hok, hP, hS, r1, r5, b7, u4, hO, ol, hos, HB⟩
  have hR := right_of hok
  obtain ⟨T, hT⟩ : ∃ T : Nat, p.blocks = (T : Int) := ⟨p.blocks.toNat, by have := hR.b1; omega⟩
  have hT7 : T ≤ 7 := by omega
  have CB := fun w h => cBareI au ar cu cr p w h hS
  rw [bare_lk os hok] at CB
  have CP := fun w h g => cPlayI au ar ao cu cr co p os w h g hS
  have CQ := fun w h g => cPlayS au ar ao cu cr co p os w h g hS
  obtain ⟨e1, e2⟩ := play_yes hok (show os.length ≤ 300 by omega)
  unfold Played at CP
  unfold PlayedS at CQ
  have hcl : (cl p os os.length).length = os.length := cl_len (Nat.le_refl _)
  rw [e1, e2, hcl] at CP CQ
  have CL := fun i x y z cx cy cz w h g => cLockOkI au ar x y z cu cr cx cy cz p (lk p os i) w h g hS (lk_small hok hS i)
  have CM := fun i x y z x' y' z' cx cy cz cx' cy' cz' w h g => cSameL x y z x' y' z' cx cy cz cx' cy' cz' (lk p os i) w h g (lk_small hok hS i)
  have C1 := fun i hi x y z cx cy cz bl w h g => opReq (ca := cu) (cb := cr) (x := x) (y := y) (z := z) (cx := cx) (cy := cy) (cz := cz) (bl := bl) (w := w) (i := i) (os := os) (a := au) (b := ar) hok hi h g
  have C2 := fun i hi x y z cx cy cz bl w h g => opOcc (ca := cu) (cb := cr) (x := x) (y := y) (z := z) (cx := cx) (cy := cy) (cz := cz) (bl := bl) (w := w) (i := i) (os := os) (a := au) (b := ar) hok hi h g
  have C3 := fun i hi x y z cx cy cz bl w h g => opVac (ca := cu) (cb := cr) (x := x) (y := y) (z := z) (cx := cx) (cy := cy) (cz := cz) (bl := bl) (w := w) (i := i) (os := os) (a := au) (b := ar) hok hi h g
  have C4 := fun i hi x y z cx cy cz bl w h g => opWd (ca := cu) (cb := cr) (x := x) (y := y) (z := z) (cx := cx) (cy := cy) (cz := cz) (bl := bl) (w := w) (i := i) (os := os) (a := au) (b := ar) hok hi h g
  have CK := fun i (hi : i < os.length) => And.intro (fun h : cd p os i ≠ 0 => cd_same hi h) (fun k hm => cd_moves (k := k) hok hi hm)
  have CN := fun i hi h0 h1 h2 h3 => no_kind (p := p) (os := os) (i := i) hi h0 h1 h2 h3
  have CO := fun i => lockOk_lk (os := os) hok i
  simp only [CO, lk_val hok] at CL CM CB CP CQ
  unfold OpAns at C1 C2 C3 C4
  unfold plantVal lv at *
  simp only [hT, Int.toNat_natCast] at C1 C2 C3 C4 CL CM CB CP CQ
  rw [hT]
  have hFit := fun i => (lk_lk (os := os) hok i).fit
  have hU := hR.und
  rw [hT] at hU
  have hb3 := balloc w1 (.cells #[.slice au p.under.length cu, .int .i64 (T : Int), .slice ar p.routes.length cr] 27)
  have K3 := one_block w1 (.cells #[.slice au p.under.length cu, .int .i64 (T : Int), .slice ar p.routes.length cr] 27)
  have HB2 := btrans HB hb3
  have hP2 := hP.below hb3
  have hO2 := hO.below hb3
  go_wp2_with fail
  generalize hb3x : w1.heap.size = b3 at *
  generalize w1.alloc (.cells #[.slice au p.under.length cu, .int .i64 (T : Int), .slice ar p.routes.length cr] 27) = w2 at *
  have h3l := lt_of_block K3
  refine (CB _ hP2).mono ?_
  rintro e w3 ⟨x, cx, y, cy, z, cz, rfl, hL, px, py, pz, hb⟩
  have hP3 := hP2.below hb
  have hO3 := hO2.below hb
  replace K3 := blk_keep hb K3
  replace HB2 := btrans HB2 hb
  have hw3 := HB2.size
  have hs3 := hb.size
  have hL0 : Lie w3 w3.heap.size x cx y cy z cz (lk p os 0) := ⟨⟨_, _, hL, .inr (Nat.le_refl _), Nat.le_refl _⟩, px, py, pz⟩
  clear hb hb3 hP hO HB hP2 hO2 hL px py pz CB hb3x
  have hb5 := balloc w3 (.cells #[.slice x p.under.length cx, .slice y p.routes.length cy, .slice z T cz] 33)
  have K5 := one_block w3 (.cells #[.slice x p.under.length cx, .slice y p.routes.length cy, .slice z T cz] 33)
  obtain ⟨⟨t0, t1, t2⟩, -⟩ := blk3 (blk_keep hb5 K3)
  go_wp2_with fail
  clear t0 t1 t2
  have K3' := blk_keep hb5 K3
  have hL1 := hL0.below hb5
  generalize w3.alloc (.cells #[.slice x p.under.length cx, .slice y p.routes.length cy, .slice z T cz] 33) = w4 at *
  have h4l := lt_of_block K5
  refine (CP _ (hP3.below hb5) (hO3.below hb5)).mono ?_
  rintro e w5 ⟨x6, cx6, y6, cy6, z6, cz6, g, cg, lo, hi, clo, chi, rfl, -, hC, -, -, hclo, -, -, hb⟩
  have hP5 := (hP3.below hb5).below hb
  have hO5 := (hO3.below hb5).below hb
  replace K3 := blk_keep hb K3'
  replace K5 := blk_keep hb K5
  have hL5 := hL1.below hb
  have hs5 := hb.size
  have HB5 := btrans (btrans HB2 hb5) hb
  have hbz := btrans hb5 hb
  have hl5 := lt_of_block K5
  have hb6 := balloc w5 (.cells #[.slice x6 p.under.length cx6, .slice y6 p.routes.length cy6, .slice z6 T cz6] 33)
  clear hb hb5 K3' hL0 hL1 CP HB2
  have hP6 := hP5.below hb6
  have hO6 := hO5.below hb6
  replace K3 := blk_keep hb6 K3
  replace K5 := blk_keep hb6 K5
  have hL6 := hL5.below hb6
  have hC6 := hC.below hb6
  have hb36 := btrans hbz hb6
  replace HB5 := btrans HB5 hb6
  have hw5w := hb6.size
  clear hb6 hC hL5 hO5 hP5 hbz
  obtain ⟨⟨t0, t1, t2⟩, -⟩ := blk3 K3
  obtain ⟨⟨y0, y1, y2⟩, -⟩ := blk3 K5
  go_wp2_with fail
  clear t0 t1 t2 y0 y1 y2
  generalize w5.alloc (.cells #[.slice x6 p.under.length cx6, .slice y6 p.routes.length cy6, .slice z6 T cz6] 33) = w6 at *
  refine (CL 0 x y z cx cy cz _ hP6 hL6.read).mono ?_
  rintro e w7 ⟨rfl, hb⟩
  replace K3 := blk_keep hb K3
  replace K5 := blk_keep hb K5
  have hL7 := hL6.below hb
  have hC7 := hC6.below hb
  have hP7 := hP6.below hb
  have hO7 := hO6.below hb
  replace HB5 := btrans HB5 hb
  have hb37 := btrans hb36 hb
  have hs7 := hb.size
  clear hb hb36 hL6 hC6 hP6 hO6
  go_wp2
  generalize hb5x : w3.heap.size = b5 at *
  go_loopw [8, 9, 10, 11] (fun ii _ _ _ wr => ∃ (i : Nat) (x : Option Addr) (cx : Nat) (y : Option Addr) (cy : Nat) (z : Option Addr) (cz : Nat), ii = .int .i64 i ∧ i ≤ os.length ∧ Lie wr b5 x cx y cy z cz (lk p os i) ∧ wr.heap[b5]? = some (.cells #[.slice x p.under.length cx, .slice y p.routes.length cy, .slice z T cz] 33 (0, 0)) ∧ w7.grownBy wr (some b5)) (fun ii _ _ _ _ => os.length - (intOf ii).toNat)
  case atStart => exact ⟨0, x, cx, y, cy, z, cz, rfl, Nat.zero_le _, hL7, K5, World.grownBy.refl _ _⟩
  case round =>
    obtain ⟨wS, rfl⟩ : ∃ x, x = wr := ⟨wr, rfl⟩
    clear hL7 K5
    obtain ⟨i, x, cx, y, cy, z, cz, rfl, hi, hL, K5, hG⟩ := hrel
    have hBr := bgrow hb37 hG (by omega) (fun k hk => by simp at hk; omega)
    rw [← hb5x] at hBr
    have hPr := hP3.below hBr
    have hOr := hO3.below hBr
    rw [hb5x] at hBr
    have hCr : Ints wS g (cl p os os.length) := Ints.at' hC7 hG (by omega)
    have K3r := far_blk hG K3 (fun j hj => by simp at hj; omega)
    have hWr := hG.size
    by_cases hil : i < os.length
    · have hil' : (i : Int) < (os.length : Int) := by omega
      rcases hOr with h | ⟨qb, qo, rfl, hcell⟩
      · rw [h] at hil; simp at hil
      obtain ⟨q0, q1⟩ := hcell i hil
      have hqb := cell_lt q0
      have hl3 := lt_of_block K3r
      have hl5r := lt_of_block K5
      obtain ⟨c1, c2⟩ := CK i hil
      have C1i := C1 i hil
      have C2i := C2 i hil
      have C3i := C3 i hil
      have C4i := C4 i hil
      have CNi := CN i hil
      have hcode := codes_get (p := p) hil
      have hb9 := balloc wS (.cells #[.slice none 0 0, .slice none 0 0, .slice none 0 0] 33)
      have K9 := one_block wS (.cells #[.slice none 0 0, .slice none 0 0, .slice none 0 0] 33)
      have hLw := hL
      have hPw := hPr
      have hCw := hCr
      have K3w := K3r
      have K5w := K5
      have q0w := q0
      replace q0 := ble hb9 q0
      replace q1 := ble hb9 q1
      replace K5 := blk_keep hb9 K5
      replace K3r := blk_keep hb9 K3r
      have hLd := fun (u0 u1 u2 : Value) => hL.new (u0 := u0) (u1 := u1) (u2 := u2) hb9
      replace hL := hL.below hb9
      replace hPr := hPr.below hb9
      replace hCr := hCr.below hb9
      have h9l := lt_of_block K9
      have n3 : wS.heap.size ≠ b3 := by omega
      have n5 : wS.heap.size ≠ b5 := by omega
      have nq : wS.heap.size ≠ qb := by omega
      generalize (os.getD i OpV.zero).kind = kd at *
      generalize (os.getD i OpV.zero).what = X at *
      go_upto_block 2 with fail
      generalize wS.alloc (.cells #[.slice none 0 0, .slice none 0 0, .slice none 0 0] 33) = wq at *
      obtain ⟨⟨t0, t1, t2⟩, -⟩ := blk3 K3r
      obtain ⟨⟨v0, v1, v2⟩, -⟩ := blk3 K5
      go_cut [10] from 40 to 190 (fun tv wc => ∃ (x1 : Option Addr) (cx1 : Nat) (y1 : Option Addr) (cy1 : Nat) (z1 : Option Addr) (cz1 : Nat), tv = .int .i64 (cd p os i) ∧ wc.heap[wS.heap.size]? = some (.cells #[.slice x1 p.under.length cx1, .slice y1 p.routes.length cy1, .slice z1 T cz1] 33 (0, 0)) ∧ Lie wc b5 x1 cx1 y1 cy1 z1 cz1 (lk p os (i + 1)) ∧ Below wS.heap.size wS wc)
      case first =>
        clear CL CM CQ CO hFit hU hR hC7 hP7 hO7 hCr hcode c1 c2 C1 C2 C3 C4 CK CN HB5 hb37 hBr K3 hP3 hO3
        by_cases k0 : kd = 0
        · subst k0
          have CC := fun w h g => C1i x y z cx cy cz b5 w h g rfl
          go_upto_region 16 with fail
          go_region_held3 (fun w' => w'.cell? ⟨b3, 0, none⟩ = some (.slice au p.under.length cu) ∧ w'.cell? ⟨b3, 1, none⟩ = some (.int .i64 (T : Int)) ∧ w'.cell? ⟨b3, 2, none⟩ = some (.slice ar p.routes.length cr) ∧ w'.cell? ⟨b5, 0, none⟩ = some (.slice x p.under.length cx) ∧ w'.cell? ⟨b5, 1, none⟩ = some (.slice y p.routes.length cy) ∧ w'.cell? ⟨b5, 2, none⟩ = some (.slice z T cz) ∧ w'.cell? ⟨qb, qo + i * 2 + 1, none⟩ = some (.int .i64 X)) (go_keep) (first
            | (go_at_call 10; refine (CC _ (hPr.below (bdraw (Below.refl _ _) 1)) (hL.below (bdraw (Below.refl _ _) 1))).mono ?_; rintro e wp ⟨x1, cx1, y1, cy1, z1, cz1, rfl, hL1, hbp⟩; have hbq := btrans (bdraw (Below.refl _ _) 1) hbp; have J9 := blk_keep hbq K9; have J3 := blk_keep hbq K3r; have J5 := blk_keep hbq K5; have jq := ble hbq q1; obtain ⟨⟨s0, s1, s2⟩, m0, m1, m2⟩ := blk3 J9; obtain ⟨⟨r0, r1, r2⟩, -⟩ := blk3 J3; obtain ⟨⟨o0, o1, o2⟩, -⟩ := blk3 J5))
          all_goals (
            have hH : wq.heap.size ≤ (wq.drewN 1).heap.size := Nat.le_refl _
            have hL2 := ((hL1.set (g := wS.heap.size) (i := 0) (u := .slice x1 p.under.length cx1) h9l).set (g := wS.heap.size) (i := 1) (u := .slice y1 p.routes.length cy1) h9l).set (g := wS.heap.size) (i := 2) (u := .slice z1 T cz1) h9l
            have J9a := blk_set (i := 2) (v := .slice z1 T cz1) (blk_set (i := 1) (v := .slice y1 p.routes.length cy1) (blk_set (i := 0) (v := .slice x1 p.under.length cx1) J9))
            have hB9 := bset (i := 2) (u := .slice z1 T cz1) (b := wS.heap.size) (bset (i := 1) (u := .slice y1 p.routes.length cy1) (b := wS.heap.size) (bset (i := 0) (u := .slice x1 p.under.length cx1) (b := wS.heap.size) (btrans hb9 hbq) (Nat.le_refl _)) (Nat.le_refl _)) (Nat.le_refl _)
            go_wp2
            go_meet)
          all_goals exact ⟨x1, cx1, y1, cy1, z1, cz1, rfl, J9a, hL2.lie (by omega), hB9⟩
        · by_cases k1 : kd = 1
          · subst k1
            clear k0
            have CC := fun w h g => C2i x y z cx cy cz b5 w h g rfl
            go_upto_region 18 with fail
            go_region_held3 (fun w' => w'.cell? ⟨b3, 0, none⟩ = some (.slice au p.under.length cu) ∧ w'.cell? ⟨b3, 1, none⟩ = some (.int .i64 (T : Int)) ∧ w'.cell? ⟨b3, 2, none⟩ = some (.slice ar p.routes.length cr) ∧ w'.cell? ⟨b5, 0, none⟩ = some (.slice x p.under.length cx) ∧ w'.cell? ⟨b5, 1, none⟩ = some (.slice y p.routes.length cy) ∧ w'.cell? ⟨b5, 2, none⟩ = some (.slice z T cz) ∧ w'.cell? ⟨qb, qo + i * 2 + 1, none⟩ = some (.int .i64 X)) (go_keep) (first
              | (go_at_call 11; refine (CC _ (hPr.below (bdraw (Below.refl _ _) 1)) (hL.below (bdraw (Below.refl _ _) 1))).mono ?_; rintro e wp ⟨x1, cx1, y1, cy1, z1, cz1, rfl, hL1, hbp⟩; have hbq := btrans (bdraw (Below.refl _ _) 1) hbp; have J9 := blk_keep hbq K9; have J3 := blk_keep hbq K3r; have J5 := blk_keep hbq K5; have jq := ble hbq q1; obtain ⟨⟨s0, s1, s2⟩, m0, m1, m2⟩ := blk3 J9; obtain ⟨⟨r0, r1, r2⟩, -⟩ := blk3 J3; obtain ⟨⟨o0, o1, o2⟩, -⟩ := blk3 J5))
            all_goals (
              have hH : wq.heap.size ≤ (wq.drewN 1).heap.size := Nat.le_refl _
              have hL2 := ((hL1.set (g := wS.heap.size) (i := 0) (u := .slice x1 p.under.length cx1) h9l).set (g := wS.heap.size) (i := 1) (u := .slice y1 p.routes.length cy1) h9l).set (g := wS.heap.size) (i := 2) (u := .slice z1 T cz1) h9l
              have J9a := blk_set (i := 2) (v := .slice z1 T cz1) (blk_set (i := 1) (v := .slice y1 p.routes.length cy1) (blk_set (i := 0) (v := .slice x1 p.under.length cx1) J9))
              have hB9 := bset (i := 2) (u := .slice z1 T cz1) (b := wS.heap.size) (bset (i := 1) (u := .slice y1 p.routes.length cy1) (b := wS.heap.size) (bset (i := 0) (u := .slice x1 p.under.length cx1) (b := wS.heap.size) (btrans hb9 hbq) (Nat.le_refl _)) (Nat.le_refl _)) (Nat.le_refl _)
              go_wp2
              go_meet)
            all_goals exact ⟨x1, cx1, y1, cy1, z1, cz1, rfl, J9a, hL2.lie (by omega), hB9⟩
          · by_cases k2 : kd = 2
            · subst k2
              clear k0 k1
              have CC := fun w h g => C3i x y z cx cy cz b5 w h g rfl
              go_upto_region 20 with fail
              go_region_held3 (fun w' => w'.cell? ⟨b3, 0, none⟩ = some (.slice au p.under.length cu) ∧ w'.cell? ⟨b3, 1, none⟩ = some (.int .i64 (T : Int)) ∧ w'.cell? ⟨b3, 2, none⟩ = some (.slice ar p.routes.length cr) ∧ w'.cell? ⟨b5, 0, none⟩ = some (.slice x p.under.length cx) ∧ w'.cell? ⟨b5, 1, none⟩ = some (.slice y p.routes.length cy) ∧ w'.cell? ⟨b5, 2, none⟩ = some (.slice z T cz) ∧ w'.cell? ⟨qb, qo + i * 2 + 1, none⟩ = some (.int .i64 X)) (go_keep) (first
                | (go_at_call 12; refine (CC _ (hPr.below (bdraw (Below.refl _ _) 1)) (hL.below (bdraw (Below.refl _ _) 1))).mono ?_; rintro e wp ⟨x1, cx1, y1, cy1, z1, cz1, rfl, hL1, hbp⟩; have hbq := btrans (bdraw (Below.refl _ _) 1) hbp; have J9 := blk_keep hbq K9; have J3 := blk_keep hbq K3r; have J5 := blk_keep hbq K5; have jq := ble hbq q1; obtain ⟨⟨s0, s1, s2⟩, m0, m1, m2⟩ := blk3 J9; obtain ⟨⟨r0, r1, r2⟩, -⟩ := blk3 J3; obtain ⟨⟨o0, o1, o2⟩, -⟩ := blk3 J5))
              all_goals (
                have hH : wq.heap.size ≤ (wq.drewN 1).heap.size := Nat.le_refl _
                have hL2 := ((hL1.set (g := wS.heap.size) (i := 0) (u := .slice x1 p.under.length cx1) h9l).set (g := wS.heap.size) (i := 1) (u := .slice y1 p.routes.length cy1) h9l).set (g := wS.heap.size) (i := 2) (u := .slice z1 T cz1) h9l
                have J9a := blk_set (i := 2) (v := .slice z1 T cz1) (blk_set (i := 1) (v := .slice y1 p.routes.length cy1) (blk_set (i := 0) (v := .slice x1 p.under.length cx1) J9))
                have hB9 := bset (i := 2) (u := .slice z1 T cz1) (b := wS.heap.size) (bset (i := 1) (u := .slice y1 p.routes.length cy1) (b := wS.heap.size) (bset (i := 0) (u := .slice x1 p.under.length cx1) (b := wS.heap.size) (btrans hb9 hbq) (Nat.le_refl _)) (Nat.le_refl _)) (Nat.le_refl _)
                go_wp2
                go_meet)
              all_goals exact ⟨x1, cx1, y1, cy1, z1, cz1, rfl, J9a, hL2.lie (by omega), hB9⟩
            · by_cases k3 : kd = 3
              · subst k3
                clear k0 k1 k2
                have CC := fun w h g => C4i x y z cx cy cz b5 w h g rfl
                go_upto_region 22 with fail
                go_region_held3 (fun w' => w'.cell? ⟨b3, 0, none⟩ = some (.slice au p.under.length cu) ∧ w'.cell? ⟨b3, 1, none⟩ = some (.int .i64 (T : Int)) ∧ w'.cell? ⟨b3, 2, none⟩ = some (.slice ar p.routes.length cr) ∧ w'.cell? ⟨b5, 0, none⟩ = some (.slice x p.under.length cx) ∧ w'.cell? ⟨b5, 1, none⟩ = some (.slice y p.routes.length cy) ∧ w'.cell? ⟨b5, 2, none⟩ = some (.slice z T cz) ∧ w'.cell? ⟨qb, qo + i * 2 + 1, none⟩ = some (.int .i64 X)) (go_keep) (first
                  | (go_at_call 13; refine (CC _ (hPr.below (bdraw (Below.refl _ _) 1)) (hL.below (bdraw (Below.refl _ _) 1))).mono ?_; rintro e wp ⟨x1, cx1, y1, cy1, z1, cz1, rfl, hL1, hbp⟩; have hbq := btrans (bdraw (Below.refl _ _) 1) hbp; have J9 := blk_keep hbq K9; have J3 := blk_keep hbq K3r; have J5 := blk_keep hbq K5; have jq := ble hbq q1; obtain ⟨⟨s0, s1, s2⟩, m0, m1, m2⟩ := blk3 J9; obtain ⟨⟨r0, r1, r2⟩, -⟩ := blk3 J3; obtain ⟨⟨o0, o1, o2⟩, -⟩ := blk3 J5))
                all_goals (
                  have hH : wq.heap.size ≤ (wq.drewN 1).heap.size := Nat.le_refl _
                  have hL2 := ((hL1.set (g := wS.heap.size) (i := 0) (u := .slice x1 p.under.length cx1) h9l).set (g := wS.heap.size) (i := 1) (u := .slice y1 p.routes.length cy1) h9l).set (g := wS.heap.size) (i := 2) (u := .slice z1 T cz1) h9l
                  have J9a := blk_set (i := 2) (v := .slice z1 T cz1) (blk_set (i := 1) (v := .slice y1 p.routes.length cy1) (blk_set (i := 0) (v := .slice x1 p.under.length cx1) J9))
                  have hB9 := bset (i := 2) (u := .slice z1 T cz1) (b := wS.heap.size) (bset (i := 1) (u := .slice y1 p.routes.length cy1) (b := wS.heap.size) (bset (i := 0) (u := .slice x1 p.under.length cx1) (b := wS.heap.size) (btrans hb9 hbq) (Nat.le_refl _)) (Nat.le_refl _)) (Nat.le_refl _)
                  go_wp2
                  go_meet)
                all_goals exact ⟨x1, cx1, y1, cy1, z1, cz1, rfl, J9a, hL2.lie (by omega), hB9⟩
              · obtain ⟨d1, d2⟩ := CNi k0 k1 k2 k3
                have J9a := blk_set (i := 2) (v := .slice z T cz) (blk_set (i := 1) (v := .slice y p.routes.length cy) (blk_set (i := 0) (v := .slice x p.under.length cx) K9))
                have hB9 := bset (i := 2) (u := .slice z T cz) (b := wS.heap.size) (bset (i := 1) (u := .slice y p.routes.length cy) (b := wS.heap.size) (bset (i := 0) (u := .slice x p.under.length cx) (b := wS.heap.size) hb9 (Nat.le_refl _)) (Nat.le_refl _)) (Nat.le_refl _)
                have hL2 := hLd (.slice x p.under.length cx) (.slice y p.routes.length cy) (.slice z T cz)
                rw [← d1] at hL2
                obtain ⟨⟨s0, s1, s2⟩, m0, m1, m2⟩ := blk3 K9
                have e0 : (kd == 0) = false := by simpa using k0
                have e1 : (kd == 1) = false := by simpa using k1
                have e2 : (kd == 2) = false := by simpa using k2
                have e3 : (kd == 3) = false := by simpa using k3
                go_wp2
                go_meet
                exact ⟨x, cx, y, cy, z, cz, by rw [d2], J9a, hL2, hB9⟩
      case rest =>
        obtain ⟨x1, cx1, y1, cy1, z1, cz1, rfl, K9c, hL1, hBc⟩ := hcut
        clear C1i C2i C3i C4i CNi C1 C2 C3 C4 CN K9 hb9 q0 q1 K5 K3r hL hPr hCr hLd t0 t1 t2 v0 v1 v2 CQ
        have hLc := hLw.below hBc
        have hPc := hPw.below hBc
        have hCc := hCw.below hBc
        have K3c := blk_keep hBc K3w
        have K5c := blk_keep hBc K5w
        have q0c := ble hBc q0w
        have hsc := hBc.size
        rcases hCc with h | ⟨gb, go, rfl, hcc⟩
        · rw [h] at hcl; simp at hcl; omega
        have g0 := hcc i (by omega)
        rw [hcode] at g0
        generalize hcd : cd p os i = c at *
        clear hcode hcc hCw
        obtain ⟨⟨t0, t1, t2⟩, -⟩ := blk3 K3c
        obtain ⟨⟨v0, v1, v2⟩, -⟩ := blk3 K5c
        obtain ⟨⟨s0, s1, s2⟩, -⟩ := blk3 K9c
        go_wp2_with fail
        clear t0 t1 t2 v0 v1 v2 s0 s1 s2 g0
        refine (CL (i + 1) x1 y1 z1 cx1 cy1 cz1 _ hPc hL1.read).mono ?_
        rintro e w8 ⟨rfl, hb⟩
        have hB8 := hBc.trans (hb.mono hsc)
        have hs8 := hB8.size
        have K3d := blk_keep hb K3c
        have K5d := blk_keep hb K5c
        have K9d := blk_keep hb K9c
        have q0d := ble hb q0c
        have hL1d := hL1.below hb
        have hLd := hLc.below hb
        have hPd := hPc.below hb
        clear hb hBc K3c K5c K9c q0c hL1 hLc hPc CL
        obtain ⟨⟨t0, t1, t2⟩, -⟩ := blk3 K3d
        obtain ⟨⟨v0, v1, v2⟩, -⟩ := blk3 K5d
        obtain ⟨⟨s0, s1, s2⟩, -⟩ := blk3 K9d
        by_cases hc0 : c = 0
        · subst hc0
          have hB9 := hB8
          have K3e := K3d
          have K5e := K5d
          have K9e := K9d
          have q0e := q0d
          have hL1e := hL1d
          have hLe := hLd
          have hPe := hPd
          clear hB8 K3d K5d K9d q0d hL1d hLd hPd
          have hs9 := hB9.size
          have hfi := hFit i
          have hfn := hFit (i + 1)
          have hpos := hLe.read.pos
          have hpos1 := hL1e.read.pos
          have htak := hLe.read.taken
          have hund := hPe.under
          have hlp : (lk p os i).pos.length = p.under.length := hfi.pos
          have hlp1 : (lk p os (i + 1)).pos.length = p.under.length := hfn.pos
          have hlt : (lk p os i).taken.length = T := by have := hfi.taken; omega
          clear c1 CM CO hFit hfi hfn
          go_wp2
          go_loopw [11] (fun kk wk => ∃ k : Nat, kk = .int .i64 k ∧ k ≤ p.under.length ∧ Below w8.heap.size w8 wk) (fun kk _ => p.under.length - (intOf kk).toNat)
          case atStart => exact ⟨0, rfl, Nat.zero_le _, Below.refl _ _⟩
          case round =>
            clear t0 t1 t2 v0 v1 v2 s0 s1 s2
            obtain ⟨k, rfl, hk, hbk⟩ := hrel
            have K3k := blk_keep hbk K3e
            have K5k := blk_keep hbk K5e
            have K9k := blk_keep hbk K9e
            obtain ⟨⟨t0, t1, t2⟩, -⟩ := blk3 K3k
            obtain ⟨⟨v0, v1, v2⟩, e0, e1, e2⟩ := blk3 K5k
            obtain ⟨⟨s0, s1, s2⟩, -⟩ := blk3 K9k
            by_cases hkl : k < p.under.length
            · have hkl' : (k : Int) < (p.under.length : Int) := by omega
              rcases hpos with h | ⟨pb, po, rfl, hp⟩
              · rw [h] at hlp; simp at hlp; omega
              rcases hpos1 with h | ⟨nb, no, rfl, hp1⟩
              · rw [h] at hlp1; simp at hlp1; omega
              rcases hund with h | ⟨ub, uo, rfl, hu⟩
              · rw [h] at hkl; simp at hkl
              have hTp : 0 < T := by have := hU _ (List.getElem_mem hkl); omega
              rcases htak with h | ⟨tb, to', rfl, ht⟩
              · rw [h] at hlt; simp at hlt; omega
              have z1 := ble hbk (hp k (by omega))
              have z2 := ble hbk (hp1 k (by omega))
              have z3 := ble hbk (hu k hkl)
              have hux : 0 ≤ p.under.getD k 0 ∧ p.under.getD k 0 < (T : Int) := by rw [getD_in hkl]; exact hU _ (List.getElem_mem hkl)
              have hmv := c2 k
              obtain ⟨uk, huk⟩ : ∃ n : Nat, p.under.getD k 0 = (n : Int) := ⟨(p.under.getD k 0).toNat, by omega⟩
              rw [huk] at z3 hux
              rw [huk, Int.toNat_natCast] at hmv
              have z4 := ble hbk (ht uk (by omega))
              have q0k := ble hbk q0e
              generalize (lk p os i).pos.getD k 0 = mk at *
              generalize (lk p os (i + 1)).pos.getD k 0 = nk at *
              generalize (lk p os i).taken.getD uk false = tk at *
              have hwk : IntKind.i64.wrap ((k : Int) + 1) = (k : Int) + 1 := wrap_in _ (by omega) (by omega)
              clear hp hp1 hu ht huk hU hcl hlp hlp1 hlt c2 hLe hL1e hPe
              by_cases hm : nk = mk
              · subst hm
                go_wp2
                go_quiet (fail)
                go_wp2
                go_roundw
                case rel => exact ⟨k + 1, by go_num, by omega, bdraw hbk _⟩
                case measure => simp [intOf]; omega
              · obtain ⟨rfl, rfl⟩ := hmv hm
                have hmb : (nk != mk) = true := by simpa using hm
                go_wp2
                go_quiet (fail)
                go_wp2
                go_roundw
                case rel => exact ⟨k + 1, by go_num, by omega, bdraw hbk _⟩
                case measure => simp [intOf]; omega
            · have hkl' : ¬ ((k : Int) < (p.under.length : Int)) := by omega
              have hwi : IntKind.i64.wrap ((i : Int) + 1) = (i : Int) + 1 := wrap_in _ (by omega) (by omega)
              have hLk := hL1e.below hbk
              have hBk := hB9.trans (hbk.mono (by omega))
              clear hpos hpos1 htak hund hLe hL1e hPe K3e K5e K9e c2 hU
              have hG2 := gset (gset (gset (gtrans hG (gof hBk)) 0 (.slice x1 p.under.length cx1)) 1 (.slice y1 p.routes.length cy1)) 2 (.slice z1 T cz1)
              have K5z := blk_set (i := 2) (v := .slice z1 T cz1) (blk_set (i := 1) (v := .slice y1 p.routes.length cy1) (blk_set (i := 0) (v := .slice x1 p.under.length cx1) K5k))
              have hL2 := ((hLk.set (i := 0) (u := .slice x1 p.under.length cx1)).set (i := 1) (u := .slice y1 p.routes.length cy1)).set (i := 2) (u := .slice z1 T cz1)
              go_wp2
              go_roundw
              case rel => exact ⟨i + 1, x1, cx1, y1, cy1, z1, cz1, by go_num, by omega, hL2, K5z, hG2⟩
              case measure => simp [intOf]; omega
        · have hcb : (c != 0) = true := by simpa using hc0
          go_wp2_with fail
          clear t0 t1 t2 v0 v1 v2 s0 s1 s2
          have hLs := hL1d
          rw [c1 hc0] at hLs
          refine (CM i x1 y1 z1 x y z cx1 cy1 cz1 cx cy cz _ hLs.read hLd.read).mono ?_
          rintro e w9 ⟨rfl, hb⟩
          have hB9 := hB8.trans (hb.mono (by omega))
          have K3e := blk_keep hb K3d
          have K5e := blk_keep hb K5d
          have K9e := blk_keep hb K9d
          have q0e := ble hb q0d
          have hL1e := hL1d.below hb
          have hLe := hLd.below hb
          have hPe := hPd.below hb
          clear hB8 K3d K5d K9d q0d hL1d hLd hPd hb hLs
          obtain ⟨⟨t0, t1, t2⟩, -⟩ := blk3 K3e
          obtain ⟨⟨v0, v1, v2⟩, -⟩ := blk3 K5e
          obtain ⟨⟨s0, s1, s2⟩, -⟩ := blk3 K9e
          have hs9 := hB9.size
          have hfi := hFit i
          have hfn := hFit (i + 1)
          have hpos := hLe.read.pos
          have hpos1 := hL1e.read.pos
          have htak := hLe.read.taken
          have hund := hPe.under
          have hlp : (lk p os i).pos.length = p.under.length := hfi.pos
          have hlp1 : (lk p os (i + 1)).pos.length = p.under.length := hfn.pos
          have hlt : (lk p os i).taken.length = T := by have := hfi.taken; omega
          clear c1 CM CO hFit hfi hfn
          go_wp2
          go_loopw [11] (fun kk wk => ∃ k : Nat, kk = .int .i64 k ∧ k ≤ p.under.length ∧ Below w9.heap.size w9 wk) (fun kk _ => p.under.length - (intOf kk).toNat)
          case atStart => exact ⟨0, rfl, Nat.zero_le _, Below.refl _ _⟩
          case round =>
            clear t0 t1 t2 v0 v1 v2 s0 s1 s2
            obtain ⟨k, rfl, hk, hbk⟩ := hrel
            have K3k := blk_keep hbk K3e
            have K5k := blk_keep hbk K5e
            have K9k := blk_keep hbk K9e
            obtain ⟨⟨t0, t1, t2⟩, -⟩ := blk3 K3k
            obtain ⟨⟨v0, v1, v2⟩, e0, e1, e2⟩ := blk3 K5k
            obtain ⟨⟨s0, s1, s2⟩, -⟩ := blk3 K9k
            by_cases hkl : k < p.under.length
            · have hkl' : (k : Int) < (p.under.length : Int) := by omega
              rcases hpos with h | ⟨pb, po, rfl, hp⟩
              · rw [h] at hlp; simp at hlp; omega
              rcases hpos1 with h | ⟨nb, no, rfl, hp1⟩
              · rw [h] at hlp1; simp at hlp1; omega
              rcases hund with h | ⟨ub, uo, rfl, hu⟩
              · rw [h] at hkl; simp at hkl
              have hTp : 0 < T := by have := hU _ (List.getElem_mem hkl); omega
              rcases htak with h | ⟨tb, to', rfl, ht⟩
              · rw [h] at hlt; simp at hlt; omega
              have z1 := ble hbk (hp k (by omega))
              have z2 := ble hbk (hp1 k (by omega))
              have z3 := ble hbk (hu k hkl)
              have hux : 0 ≤ p.under.getD k 0 ∧ p.under.getD k 0 < (T : Int) := by rw [getD_in hkl]; exact hU _ (List.getElem_mem hkl)
              have hmv := c2 k
              obtain ⟨uk, huk⟩ : ∃ n : Nat, p.under.getD k 0 = (n : Int) := ⟨(p.under.getD k 0).toNat, by omega⟩
              rw [huk] at z3 hux
              rw [huk, Int.toNat_natCast] at hmv
              have z4 := ble hbk (ht uk (by omega))
              have q0k := ble hbk q0e
              generalize (lk p os i).pos.getD k 0 = mk at *
              generalize (lk p os (i + 1)).pos.getD k 0 = nk at *
              generalize (lk p os i).taken.getD uk false = tk at *
              have hwk : IntKind.i64.wrap ((k : Int) + 1) = (k : Int) + 1 := wrap_in _ (by omega) (by omega)
              clear hp hp1 hu ht huk hU hcl hlp hlp1 hlt c2 hLe hL1e hPe
              by_cases hm : nk = mk
              · subst hm
                go_wp2
                go_quiet (fail)
                go_wp2
                go_roundw
                case rel => exact ⟨k + 1, by go_num, by omega, bdraw hbk _⟩
                case measure => simp [intOf]; omega
              · obtain ⟨rfl, rfl⟩ := hmv hm
                have hmb : (nk != mk) = true := by simpa using hm
                go_wp2
                go_quiet (fail)
                go_wp2
                go_roundw
                case rel => exact ⟨k + 1, by go_num, by omega, bdraw hbk _⟩
                case measure => simp [intOf]; omega
            · have hkl' : ¬ ((k : Int) < (p.under.length : Int)) := by omega
              have hwi : IntKind.i64.wrap ((i : Int) + 1) = (i : Int) + 1 := wrap_in _ (by omega) (by omega)
              have hLk := hL1e.below hbk
              have hBk := hB9.trans (hbk.mono (by omega))
              clear hpos hpos1 htak hund hLe hL1e hPe K3e K5e K9e c2 hU
              have hG2 := gset (gset (gset (gtrans hG (gof hBk)) 0 (.slice x1 p.under.length cx1)) 1 (.slice y1 p.routes.length cy1)) 2 (.slice z1 T cz1)
              have K5z := blk_set (i := 2) (v := .slice z1 T cz1) (blk_set (i := 1) (v := .slice y1 p.routes.length cy1) (blk_set (i := 0) (v := .slice x1 p.under.length cx1) K5k))
              have hL2 := ((hLk.set (i := 0) (u := .slice x1 p.under.length cx1)).set (i := 1) (u := .slice y1 p.routes.length cy1)).set (i := 2) (u := .slice z1 T cz1)
              go_wp2
              go_roundw
              case rel => exact ⟨i + 1, x1, cx1, y1, cy1, z1, cz1, by go_num, by omega, hL2, K5z, hG2⟩
              case measure => simp [intOf]; omega
    · obtain rfl : i = os.length := by omega
      have hil' : ¬ ((os.length : Int) < (os.length : Int)) := by omega
      clear C1 C2 C3 C4 CK CN CL hFit CO hU
      obtain ⟨⟨t0, t1, t2⟩, -⟩ := blk3 K3r
      go_wp2_with fail
      refine (CQ _ hPr hOr).mono ?_
      rintro e wA ⟨x2, cx2, y2, cy2, z2, cz2, g2, cg2, rfl, hL2, hC2, hb⟩
      have KA := blk_keep hb K5
      have hLA := hL.below hb
      have hCA := hCr.below hb
      have hsH := HB5.size
      have HBA := (bgrow HB5 hG (by omega) (fun k hk => by simp at hk; omega)).trans (hb.mono (by omega))
      have hLE := hL2.read
      have hCE := hC2.ints
      clear t0 t1 t2 CQ hL2 hC2 K5 hL hCr hb
      have hbB := balloc wA (.cells #[.slice x2 p.under.length cx2, .slice y2 p.routes.length cy2, .slice z2 T cz2] 33)
      have KB := blk_keep hbB KA
      have hLB := hLA.below hbB
      have hLF := hLE.below hbB
      have hCB := hCA.below hbB
      have hCF := hCE.below hbB
      have HBB := HBA.trans (hbB.mono (by have := HBA.size; omega))
      obtain ⟨⟨t0, t1, t2⟩, -⟩ := blk3 KB
      clear hLA hLE hCA hCE HBA KA
      go_wp2_with fail
      generalize wA.alloc (.cells #[.slice x2 p.under.length cx2, .slice y2 p.routes.length cy2, .slice z2 T cz2] 33) = wB at *
      refine (CM os.length x2 y2 z2 x y z cx2 cy2 cz2 cx cy cz _ hLF hLB.read).mono ?_
      rintro e wC ⟨rfl, hb⟩
      have hCC := hCB.below hb
      have hCG := hCF.below hb
      have HBC := HBB.trans (hb.mono (by have := HBB.size; omega))
      clear CM hb hLF hLB hCB hCF HBB KB t0 t1 t2
      go_wp2_with fail
      have CZ := cSame g2 g cg2 cg (cl p os os.length) wC hCG hCC (by omega)
      rw [hcl] at CZ
      refine CZ.mono ?_
      rintro e wD ⟨rfl, hb⟩
      have HBD := HBC.trans (hb.mono (by have := HBC.size; omega))
      clear CZ hCC hCG hb HBC
      go_wp2
      go_ret
      exact ⟨rfl, HBD⟩
end Go.Proofs.Ytpgjllefhlanpaa
