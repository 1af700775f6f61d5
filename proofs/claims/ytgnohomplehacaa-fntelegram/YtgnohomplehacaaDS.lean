/- Decode of the model. -/
import Derived.Test.YtgnohomplehacaaDP
namespace Go.Proofs.Ytgnohomplehacaa
open Go.RowKit
theorem take_snocI {xs : List Int} {k : Nat} (hk : k < xs.length) : xs.take (k + 1) = xs.take k ++ [xs.getD k 0] := by
  rw [List.take_succ_eq_append_getElem hk]; simp [List.getD, hk]
theorem same_step {xs ys : List Int} (hl : xs.length = ys.length) {k : Nat} (hk : k < xs.length) (h : xs.take k = ys.take k) (he : xs.getD k 0 = ys.getD k 0) : xs.take (k + 1) = ys.take (k + 1) := by
  rw [take_snocI hk, take_snocI (by omega), h, he]
set_option maxHeartbeats 1600000 in
theorem cSame (a1 a2 : Option Addr) (c1 c2 : Nat) (xs ys : List Int) (w : World) (h1 : Bys w a1 xs) (h2 : Bys w a2 ys) (hl1 : xs.length ≤ 1048576) :
    Calls Try.prog 60 #[.slice a1 xs.length c1, .slice a2 ys.length c2] w fun e w' => e = .returned (.bool (decide (xs = ys))) ∧ Below w.heap.size w w' := by
  by_cases hl : xs.length = ys.length
  · obtain ⟨n, hn⟩ : ∃ n, n = xs.length := ⟨_, rfl⟩
    have hn2 : ys.length = n := by omega
    rw [hn2, ← hn]
    replace hn := hide hn
    replace hn2 := hide hn2
    replace hl := hide hl
    have hnl : n ≤ 1048576 := by rw [hn.out]; exact hl1
    clear hl1
    go_enter Try.func60, Try.ntmps60
    go_wp2
    go_loopw [5] (fun i wr => ∃ k : Nat, k ≤ n ∧ i = .int .i64 k ∧ Hid (xs.take k = ys.take k) ∧ Below w.heap.size w wr) (fun i _ => n - (intOf i).toNat)
    case atStart => exact ⟨0, Nat.zero_le _, rfl, hide rfl, Below.refl _ _⟩
    case round =>
      obtain ⟨k, hk, rfl, hT, hb⟩ := hrel
      by_cases hlt : k < n
      · have hlx : k < xs.length := by rw [← hn.out]; exact hlt
        have hly : k < ys.length := by rw [hn2.out]; exact hlt
        rcases h1 with h1 | ⟨b1, o1, rfl, hc1⟩
        · simp [h1] at hlx
        rcases h2 with h2 | ⟨b2, o2, rfl, hc2⟩
        · simp [h2] at hly
        have hk1 := ble hb (hc1 k hlx)
        have hk2 := ble hb (hc2 k hly)
        clear hc1 hc2
        by_cases he : xs.getD k 0 = ys.getD k 0
        · have hT2 := hide (same_step hl.out hlx hT.out he)
          rw [he] at hk1
          generalize ys.getD k 0 = z at *
          clear hlx hly he
          go_wp2
          go_quiet (fail)
          go_wp2
          go_roundw
          case rel => exact ⟨k + 1, by omega, by go_num, hT2, bdraw hb _⟩
          case measure => simp [intOf]; omega
        · have E : Hid (decide (xs = ys) = false) := hide (decide_eq_false (fun e => he (by rw [e])))
          generalize xs.getD k 0 = x at *
          generalize ys.getD k 0 = y at *
          have hne : (x != y) = true := by simp [bne, he]
          clear hlx hly
          go_wp2
          go_quiet (fail)
          go_wp2
          go_ret
          exact ⟨ret_bool E.out.symm, bdraw hb _⟩
      · obtain rfl : k = n := by omega
        have E : Hid (decide (xs = ys) = true) := hide (decide_eq_true (by have h9 := hT.out; rw [hn.out, List.take_length, hl.out, List.take_length] at h9; exact h9))
        go_wp2
        go_ret
        exact ⟨ret_bool E.out.symm, hb⟩
  · have E : Hid (decide (xs = ys) = false) := hide (decide_eq_false (fun e => hl (by rw [e])))
    have hne : ((xs.length : Int) != (ys.length : Int)) = true := by
      simp [bne]; omega
    replace hl := hide hl
    go_enter Try.func60, Try.ntmps60
    go_wp2
    go_ret
    exact ⟨ret_bool E.out.symm, Below.refl _ _⟩
theorem uneM_short {l : List Int} (h : l.length ≤ 1) : uneM l = [] := by
  match l, h with
  | [], _ => rfl
  | [x], _ => rfl
theorem uneM_at {d : List Int} {k : Nat} (hk : k + 1 < d.length) (h : d.getD k 0 ≠ 125) : uneM (d.drop k) = d.getD k 0 :: uneM (d.drop (k + 1)) := by
  rw [drop_at d (by omega), uneM_plain h (by intro e; have := congrArg List.length e; simp at this; omega)]
theorem uneM_at2 {d : List Int} {k : Nat} (hk : k + 1 < d.length) (h : d.getD k 0 = 125) : uneM (d.drop k) = x32 (d.getD (k + 1) 0) :: uneM (d.drop (k + 1 + 1)) := by
  rw [drop_at d (by omega), h, drop_at d hk, uneM_pair]
/-- What the model's second loop holds. -/
structure LpD (w : World) (b n c : Nat) (xs : List Int) (g : Nat) (q k : Int) (bd : List Int) (v : Value) (wr : World) : Prop where
  S : EnS w 0 0 none 0 0 wr
  row : wr.ownsRow w.heap.size 5 1 (.slice (some ⟨b, 0, none⟩) n c) n (enc8 xs)
  box : wr.heap[g]? = some (.cells #[.int .i64 q, .int .i64 k, v] 25 (0, 0))
  own : wr.ownsRow w.heap.size 5 1 v bd.length (enc8 bd)
  apart : v.ownBlock ≠ some b
  gw : w.heap.size < g
theorem LpD.below {w : World} {b n c : Nat} {xs : List Int} {g : Nat} {q k : Int} {bd : List Int} {v : Value} {wr wr' : World} (h : LpD w b n c xs g q k bd v wr) (hb : Below wr.heap.size wr wr') : LpD w b n c xs g q k bd v wr' :=
  ⟨h.S.below hb, own_keep h.row hb, blk_keep hb h.box, own_keep h.own hb, h.apart, h.gw⟩
theorem LpD.cellAt {w : World} {b n c : Nat} {xs : List Int} {g : Nat} {q k : Int} {bd : List Int} {v : Value} {wr : World} {j : Nat} {z : Int} {hLj : j < xs.length} (h : LpD w b n c xs g q k bd v wr) (hz : xs.getD j 0 = z) : wr.cell? ⟨b, j, none⟩ = some (.int .u8 z) := by
  rcases Bys.of_owns h.row with h1 | ⟨b', o', e, hc⟩
  · rw [h1] at hLj; simp at hLj
  · simp only [Option.some.injEq, Addr.mk.injEq, and_true] at e
    obtain ⟨rfl, rfl⟩ := e
    have := hc j hLj
    rw [Nat.zero_add, hz] at this
    exact this
theorem LpD.push {w : World} {b n c : Nat} {xs : List Int} {g : Nat} {q k : Int} {bd : List Int} {v : Value} {wd w3 : World} {z : Int} {j gg gc m : Nat} (h : LpD w b n c xs g q k bd v wd)
    (hown : w3.ownsRow w.heap.size 5 1 (.slice (some ⟨gg, 0, none⟩) (m + 1) gc) (m + 1) (enc8 (bd ++ [z]))) (hgrow : (wd.alloc (.cells #[.int .u8 z] 5)).grownBy w3 v.ownBlock) (hwh : v.ownBlock = some gg ∨ gg = wd.heap.size + 1) (d0 : wd.cell? ⟨b, j, none⟩ = some (.int .u8 z)) :
    LpD w b n c xs g q k (bd ++ [z]) (.slice (some ⟨gg, 0, none⟩) (m + 1) gc) (w3.setCell ⟨g, 2, none⟩ (.slice (some ⟨gg, 0, none⟩) (m + 1) gc)) ∧ w3.cell? ⟨b, j, none⟩ = some (.int .u8 z) ∧ w3.cell? ⟨g, 2, none⟩ = some v ∧ w3.frozen? ⟨g, 2, none⟩ = false := by
  have hbl := own_blk_lt h.row b rfl
  have hbg : w3.heap[g]? = some (.cells #[.int .i64 q, .int .i64 k, v] 25 (0, 0)) := blk_app h.box hgrow (fun e => own_apartB h.own h.box (by decide) _ e rfl)
  have hS := h.S.app h.own hgrow
  have hrow : w3.ownsRow w.heap.size 5 1 (.slice (some ⟨b, 0, none⟩) n c) n (enc8 xs) := own_far (own_keep h.row (balloc wd _)) hgrow (fun x hx e => h.apart (by simp [Value.ownBlock] at hx; subst hx; exact e.symm))
  have hne1 := own_apartB hrow hbg (by decide)
  have hne2 := own_apartB hown hbg (by decide)
  have hm : m + 1 = (bd ++ [z]).length := by have := hown.1; simp [enc8] at this; simp; omega
  have hblk : w3.heap[b]? = wd.heap[b]? := by
    have h1 := hgrow.block b (by simp; omega) (fun e => h.apart e.symm)
    rw [h1]
    exact (balloc wd (.cells #[.int .u8 z] 5)).block b hbl
  refine ⟨⟨⟨below_set (by have := h.gw; omega) hS.bel, blk_other hS.box (by have := h.gw; omega)⟩, own_set hrow hne1, ?_, ?_, ?_, h.gw⟩, ?_, ?_, ?_⟩
  · have := blk_set (i := 2) (v := .slice (some ⟨gg, 0, none⟩) (m + 1) gc) hbg
    simpa using this
  · rw [← hm]; exact own_set hown hne2
  · intro e
    simp [Value.ownBlock] at e
    rcases hwh with hwh | hwh
    · exact h.apart (by rw [hwh, e])
    · omega
  · rw [World.cell?_of_block hblk]; exact d0
  · exact (blk3 hbg).1.2.2
  · exact (blk3 hbg).2.2.2
set_option maxRecDepth 100000 in
set_option maxHeartbeats 12800000 in
theorem cDecS (a : Option Addr) (cz : Nat) (zs : List Int) (w : World) (hz : Bys w a zs) (hy : By zs) (hl : zs.length ≤ 1048576) : Calls Try.prog 37 #[.slice a zs.length cz] w (AnsT w (decV zs)) := by
  rw [← decS_eq hy]
  have hA := one_block w (.cells #[.int .i64 0, .int .i64 0, .slice none 0 0] 25)
  have hb := balloc w (.cells #[.int .i64 0, .int .i64 0, .slice none 0 0] 25)
  obtain ⟨⟨a0, a1, a2⟩, e0, e1, e2⟩ := blk3 hA
  by_cases h140 : 140 < zs.length
  · have E : Hid (decS zs = none) := hide (by unfold decS; rw [if_pos h140])
    have hgt : (140 : Int) < (zs.length : Int) := by omega
    go_enter Try.func37, Try.ntmps37
    go_wp2_with fail
    refine bodyPost_ret (v := .tuple #[.agg #[.int .i64 0, .int .i64 0, .slice none 0 0], .bool false]) (by simp [results, Try.results37, go_sem, a0, a1, a2]) rfl ⟨.inr ⟨E.out, rfl⟩, ?_⟩
    first
    | exact hb
    | exact below_set (Nat.le_refl _) (below_set (Nat.le_refl _) (below_set (Nat.le_refl _) hb))
  have hngt : ¬ ((140 : Int) < (zs.length : Int)) := by omega
  have S0 : EnS w 0 0 none 0 0 (w.alloc (.cells #[.int .i64 0, .int .i64 0, .slice none 0 0] 25)) := ⟨hb, hA⟩
  have R0 : ((w.alloc (.cells #[.int .i64 0, .int .i64 0, .slice none 0 0] 25)).alloc (.cells #[] 5)).ownsRow w.heap.size 5 1 (.slice (some ⟨w.heap.size + 1, 0, none⟩) 0 0) 0 (enc8 []) := by
    have h9 : ((w.alloc (.cells #[.int .i64 0, .int .i64 0, .slice none 0 0] 25)).alloc (.cells #[] 5)).ownsRow (w.alloc (.cells #[.int .i64 0, .int .i64 0, .slice none 0 0] 25)).heap.size 5 1 (.slice (some ⟨(w.alloc (.cells #[.int .i64 0, .int .i64 0, .slice none 0 0] 25)).heap.size, 0, none⟩) 0 0) 0 (enc8 []) := World.ownsRow_made _ _ 0 (Nat.le_refl _) (by unfold maxLen; omega) (by simp)
    have h8 := own_base (base' := w.heap.size) h9 (by simp)
    simpa using h8
  have S1 := S0.below (balloc _ (.cells #[] 5))
  have hD : Hid (decS zs = if (uneM (zs.drop 1)).length < 4 then none else if okT (telOf (uneM (zs.drop 1))) = true ∧ encL (telOf (uneM (zs.drop 1))) = zs then some (telOf (uneM (zs.drop 1))) else none) := hide (by unfold decS; rw [if_neg h140])
  have hU := hide (uneM_by _ _ (Nat.le_refl _) (hy.drop 1))
  have hUl : (uneM (zs.drop 1)).length ≤ 140 := by have := uneM_len _ (zs.drop 1) (Nat.le_refl _); rw [List.length_drop] at this; omega
  clear hA hb S0 h140
  go_enter Try.func37, Try.ntmps37
  go_wp2
  generalize (w.alloc (.cells #[.int .i64 0, .int .i64 0, .slice none 0 0] 25)).alloc (.cells #[] 5) = w1 at *
  clear a0 a1 a2 e0 e1 e2
  go_loopw [4, 5] (fun v i wr => ∃ (j n : Nat) (xs : List Int), 1 ≤ j ∧ j ≤ zs.length + 1 ∧ i = .int .i64 j ∧ n ≤ j ∧ Hid (xs.length = n) ∧ Hid (uneM (zs.drop 1) = xs ++ uneM (zs.drop j)) ∧ wr.ownsRow w.heap.size 5 1 v n (enc8 xs) ∧ EnS w 0 0 none 0 0 wr) (fun _ i _ => zs.length + 2 - (intOf i).toNat)
  case atStart => exact ⟨1, 0, [], by omega, by omega, rfl, by omega, hide rfl, hide rfl, R0, S1⟩
  case round =>
    obtain ⟨j, n, xs, hj1, hj, rfl, hnj, hxn, hun, hown, hS⟩ := hrel
    clear R0 S1
    by_cases hlt : j + 1 < zs.length
    · have hcond : ((j : Int) < (zs.length : Int) - 1) := by omega
      rcases hz with hz | ⟨b, off, rfl, hcell⟩
      · simp [hz] at hlt
      have hck := ble hS.bel (hcell j (by omega))
      have hjl : j < zs.length := by omega
      have hjl2 : (j : Int) < (zs.length : Int) := by omega
      by_cases h125 : zs.getD j 0 = 125
      · have hck2 := ble hS.bel (hcell (j + 1) hlt)
        have hu2 : Hid (uneM (zs.drop 1) = (xs ++ [x32 (zs.getD (j + 1) 0)]) ++ uneM (zs.drop (j + 1 + 1))) := hide (by rw [hun.out, uneM_at2 hlt h125]; simp)
        rw [h125] at hck
        generalize zs.getD (j + 1) 0 = y at *
        have EX : bits .xor .u8 y 32 = x32 y := rfl
        have hkk : ((j : Int) + 1).toNat = j + 1 := by omega
        have hk0 : (0 : Int) ≤ (j : Int) + 1 := by omega
        have hk1 : (j : Int) + 1 < (zs.length : Int) := by omega
        have hw1 : IntKind.i64.wrap ((j : Int) + 1) = (j : Int) + 1 := wrap_in _ (by omega) (by omega)
        have hw2 : IntKind.i64.wrap ((j : Int) + 1 + 1) = (j : Int) + 1 + 1 := wrap_in _ (by omega) (by omega)
        obtain ⟨v2, w3, hrun, hrow, hgrow, -⟩ := app_one (x32 y) hxn.out hown (by omega) hS.bel.size
        have S2 := hS.app hown hgrow
        have hl2 : Hid ((xs ++ [x32 y]).length = n + 1) := hide (by rw [List.length_append, hxn.out]; rfl)
        obtain ⟨va, vc, rfl⟩ := own_form hown
        obtain ⟨va2, vc2, rfl⟩ := own_form hrow
        clear hown hgrow hS hcell h125 hun hD hU hUl
        go_wp2_with (at_builtin; refine Go.Lib.wpList_append_run _ rfl _ _ _ _ rfl _ _ rfl rfl _ _ hrun ?_)
        go_roundw
        case rel => exact ⟨j + 1 + 1, n + 1, xs ++ [x32 y], by omega, by omega, by go_num, by omega, hl2, hu2, hrow, S2⟩
        case measure => simp [intOf]; omega
      · have hu2 : Hid (uneM (zs.drop 1) = (xs ++ [zs.getD j 0]) ++ uneM (zs.drop (j + 1))) := hide (by rw [hun.out, uneM_at hlt h125]; simp)
        generalize zs.getD j 0 = z at *
        have h5 : (z == 125) = false := by simp [h125]
        obtain ⟨v2, w3, hrun, hrow, hgrow, -⟩ := app_one z hxn.out hown (by omega) hS.bel.size
        have S2 := hS.app hown hgrow
        have hl2 : Hid ((xs ++ [z]).length = n + 1) := hide (by rw [List.length_append, hxn.out]; rfl)
        obtain ⟨va, vc, rfl⟩ := own_form hown
        obtain ⟨va2, vc2, rfl⟩ := own_form hrow
        clear hown hgrow hS hcell h125 hun hD hU hUl
        go_wp2_with (at_builtin; refine Go.Lib.wpList_append_run _ rfl _ _ _ _ rfl _ _ rfl rfl _ _ hrun ?_)
        go_roundw
        case rel => exact ⟨j + 1, n + 1, xs ++ [z], by omega, by omega, by go_num, by omega, hl2, hu2, hrow, S2⟩
        case measure => simp [intOf]; omega
    · have hcond : ¬ ((j : Int) < (zs.length : Int) - 1) := by omega
      have hX : uneM (zs.drop 1) = xs := by rw [hun.out, uneM_short (by simp; omega), List.append_nil]
      rw [hX] at hD hU hUl
      have hn140 : n ≤ 140 := by rw [← hxn.out]; exact hUl
      clear hX hun hUl
      obtain ⟨⟨a0, a1, a2⟩, e0, e1, e2⟩ := blk3 hS.box
      by_cases h4 : n < 4
      · have E : Hid (decS zs = none) := hide (by rw [hD.out, hxn.out, if_pos h4])
        have h4i : (n : Int) < 4 := by omega
        have B1 := hS.bel
        obtain ⟨va, vc, rfl⟩ := own_form hown
        clear hD hown hS
        go_wp2_with fail
        refine bodyPost_ret (v := .tuple #[.agg #[.int .i64 0, .int .i64 0, .slice none 0 0], .bool false]) (by simp [results, Try.results37, go_sem, a0, a1, a2]) rfl ⟨.inr ⟨E.out, rfl⟩, ?_⟩
        first
        | exact B1
        | exact below_set (Nat.le_refl _) (below_set (Nat.le_refl _) (below_set (Nat.le_refl _) B1))
      have h4i : ¬ ((n : Int) < 4) := by omega
      have hD2 : Hid (decS zs = if okT (telOf xs) = true ∧ encL (telOf xs) = zs then some (telOf xs) else none) := hide (by rw [hD.out, hxn.out, if_neg h4])
      clear hD
      rcases hown.2 with ⟨-, h0⟩ | ⟨b, c, cur, rfl, -⟩
      · omega
      have hby := Bys.of_owns hown
      rcases hby with h1 | ⟨b', o', e, hc⟩
      · rw [h1] at hxn; have := hxn.out; simp at this; omega
      simp only [Option.some.injEq, Addr.mk.injEq, and_true] at e
      obtain ⟨rfl, rfl⟩ := e
      have hxl : 4 ≤ xs.length := by rw [hxn.out]; omega
      have k0 := hc 0 (by omega)
      have k1 := hc 1 (by omega)
      simp only [Nat.zero_add] at k0 k1
      clear hc
      have y0 := hU.out.at (k := 0) (by omega)
      have y1 := hU.out.at (k := 1) (by omega)
      have hT : Hid (telOf xs = ⟨xs.getD 0 0, xs.getD 1 0, (xs.drop 3).take (n - 4)⟩) := hide (by rw [← hxn.out]; rfl)
      generalize xs.getD 0 0 = z0 at *
      generalize xs.getD 1 0 = z1 at *
      have wz0 : IntKind.i64.wrap z0 = z0 := wrap_in _ (by omega) (by omega)
      have wz1 : IntKind.i64.wrap z1 = z1 := wrap_in _ (by omega) (by omega)
      have hn0 : 0 < n := by omega
      have hn1 : 1 < n := by omega
      have hn0i : (0 : Int) < (n : Int) := by omega
      have hn1i : (1 : Int) < (n : Int) := by omega
      go_wp2_with fail
      go_cut [6] from 8 (fun tv wc => GotT wr z0 z1 0 [] tv wc)
      case first =>
        refine wp_region_held_drew (S := (fun w' => w'.cell? ⟨b, 0, none⟩ = some (.int .u8 z0) ∧ w'.cell? ⟨b, 1, none⟩ = some (.int .u8 z1))) (by kernel_rfl) ?_ (fun hHeld => ?_)
        · go_keep
        have B0 : Below wr.heap.size wr wr.drew := (Below.refl _ _).drew
        generalize wr.drew = wd at *
        refine wpAnyH_take (i := 0) (v := .slice (some ⟨b, 0, none⟩) n c) rfl (by kernel_rfl) (by kernel_rfl) (by kernel_rfl) (fun _ _ _ h => h) (Or.inl ⟨by kernel_rfl, fun w hS => by go_simp⟩) hHeld ?_
        change wpAnyH _ _ _ _ _ _ _ { tmps := List.toArray (_ :: _ :: _ :: _ :: _ :: _ :: _ :: _ :: _ :: _ :: _ :: _ :: _ :: _ :: _ :: _ :: _ :: _ :: _ :: _ :: _ :: _ :: _ :: _ :: _ :: _ :: _ :: _ :: _ :: _ :: _ :: _ :: _ :: _ :: _ :: _ :: _ :: _ :: _ :: _ :: _ :: _ :: _ :: _ :: _ :: _ :: .slice (some ⟨b, 0, none⟩) n c :: _ :: _ :: _ :: _ :: _ :: _ :: _ :: _ :: _ :: _ :: _ :: _ :: _ :: _ :: _ :: _ :: _ :: _ :: _ :: _ :: _ :: _ :: _ :: _ :: _ :: _ :: _ :: _ :: _ :: _ :: _ :: _ :: _ :: _ :: _ :: _ :: []), defers := [] } _
        refine wpAnyH_take (i := 1) (v := .pointer (some ⟨b, 0, none⟩)) rfl (by kernel_rfl) (by kernel_rfl) (by kernel_rfl) (fun _ _ _ h => h) (Or.inl ⟨by kernel_rfl, fun w hS => by go_simp⟩) hHeld ?_
        change wpAnyH _ _ _ _ _ _ _ { tmps := List.toArray (_ :: _ :: _ :: _ :: _ :: _ :: _ :: _ :: _ :: _ :: _ :: _ :: _ :: _ :: _ :: _ :: _ :: _ :: _ :: _ :: _ :: _ :: _ :: _ :: _ :: _ :: _ :: _ :: _ :: _ :: _ :: _ :: _ :: _ :: _ :: _ :: _ :: _ :: _ :: _ :: _ :: _ :: _ :: _ :: _ :: _ :: .slice (some ⟨b, 0, none⟩) n c :: .pointer (some ⟨b, 0, none⟩) :: _ :: _ :: _ :: _ :: _ :: _ :: _ :: _ :: _ :: _ :: _ :: _ :: _ :: _ :: _ :: _ :: _ :: _ :: _ :: _ :: _ :: _ :: _ :: _ :: _ :: _ :: _ :: _ :: _ :: _ :: _ :: _ :: _ :: _ :: _ :: []), defers := [] } _
        refine wpAnyH_take (i := 2) (v := .int .u8 z0) rfl (by kernel_rfl) (by kernel_rfl) (by kernel_rfl) (fun _ _ _ h => h) (Or.inl ⟨by kernel_rfl, fun w hS => by (obtain ⟨hS0, hS1⟩ := hS; go_simp)⟩) hHeld ?_
        change wpAnyH _ _ _ _ _ _ _ { tmps := List.toArray (_ :: _ :: _ :: _ :: _ :: _ :: _ :: _ :: _ :: _ :: _ :: _ :: _ :: _ :: _ :: _ :: _ :: _ :: _ :: _ :: _ :: _ :: _ :: _ :: _ :: _ :: _ :: _ :: _ :: _ :: _ :: _ :: _ :: _ :: _ :: _ :: _ :: _ :: _ :: _ :: _ :: _ :: _ :: _ :: _ :: _ :: .slice (some ⟨b, 0, none⟩) n c :: .pointer (some ⟨b, 0, none⟩) :: .int .u8 z0 :: _ :: _ :: _ :: _ :: _ :: _ :: _ :: _ :: _ :: _ :: _ :: _ :: _ :: _ :: _ :: _ :: _ :: _ :: _ :: _ :: _ :: _ :: _ :: _ :: _ :: _ :: _ :: _ :: _ :: _ :: _ :: _ :: _ :: _ :: []), defers := [] } _
        refine wpAnyH_take (i := 3) (v := .int .i64 z0) rfl (by kernel_rfl) (by kernel_rfl) (by kernel_rfl) (fun _ _ _ h => h) (Or.inl ⟨by kernel_rfl, fun w hS => by go_simp⟩) hHeld ?_
        change wpAnyH _ _ _ _ _ _ _ { tmps := List.toArray (_ :: _ :: _ :: _ :: _ :: _ :: _ :: _ :: _ :: _ :: _ :: _ :: _ :: _ :: _ :: _ :: _ :: _ :: _ :: _ :: _ :: _ :: _ :: _ :: _ :: _ :: _ :: _ :: _ :: _ :: _ :: _ :: _ :: _ :: _ :: _ :: _ :: _ :: _ :: _ :: _ :: _ :: _ :: _ :: _ :: _ :: .slice (some ⟨b, 0, none⟩) n c :: .pointer (some ⟨b, 0, none⟩) :: .int .u8 z0 :: .int .i64 z0 :: _ :: _ :: _ :: _ :: _ :: _ :: _ :: _ :: _ :: _ :: _ :: _ :: _ :: _ :: _ :: _ :: _ :: _ :: _ :: _ :: _ :: _ :: _ :: _ :: _ :: _ :: _ :: _ :: _ :: _ :: _ :: _ :: _ :: []), defers := [] } _
        refine wpAnyH_take (i := 4) (v := .slice (some ⟨b, 0, none⟩) n c) rfl (by kernel_rfl) (by kernel_rfl) (by kernel_rfl) (fun _ _ _ h => h) (Or.inl ⟨by kernel_rfl, fun w hS => by go_simp⟩) hHeld ?_
        change wpAnyH _ _ _ _ _ _ _ { tmps := List.toArray (_ :: _ :: _ :: _ :: _ :: _ :: _ :: _ :: _ :: _ :: _ :: _ :: _ :: _ :: _ :: _ :: _ :: _ :: _ :: _ :: _ :: _ :: _ :: _ :: _ :: _ :: _ :: _ :: _ :: _ :: _ :: _ :: _ :: _ :: _ :: _ :: _ :: _ :: _ :: _ :: _ :: _ :: _ :: _ :: _ :: _ :: .slice (some ⟨b, 0, none⟩) n c :: .pointer (some ⟨b, 0, none⟩) :: .int .u8 z0 :: .int .i64 z0 :: .slice (some ⟨b, 0, none⟩) n c :: _ :: _ :: _ :: _ :: _ :: _ :: _ :: _ :: _ :: _ :: _ :: _ :: _ :: _ :: _ :: _ :: _ :: _ :: _ :: _ :: _ :: _ :: _ :: _ :: _ :: _ :: _ :: _ :: _ :: _ :: _ :: _ :: []), defers := [] } _
        refine wpAnyH_take (i := 5) (v := .pointer (some ⟨b, 1, none⟩)) rfl (by kernel_rfl) (by kernel_rfl) (by kernel_rfl) (fun _ _ _ h => h) (Or.inl ⟨by kernel_rfl, fun w hS => by go_simp⟩) hHeld ?_
        change wpAnyH _ _ _ _ _ _ _ { tmps := List.toArray (_ :: _ :: _ :: _ :: _ :: _ :: _ :: _ :: _ :: _ :: _ :: _ :: _ :: _ :: _ :: _ :: _ :: _ :: _ :: _ :: _ :: _ :: _ :: _ :: _ :: _ :: _ :: _ :: _ :: _ :: _ :: _ :: _ :: _ :: _ :: _ :: _ :: _ :: _ :: _ :: _ :: _ :: _ :: _ :: _ :: _ :: .slice (some ⟨b, 0, none⟩) n c :: .pointer (some ⟨b, 0, none⟩) :: .int .u8 z0 :: .int .i64 z0 :: .slice (some ⟨b, 0, none⟩) n c :: .pointer (some ⟨b, 1, none⟩) :: _ :: _ :: _ :: _ :: _ :: _ :: _ :: _ :: _ :: _ :: _ :: _ :: _ :: _ :: _ :: _ :: _ :: _ :: _ :: _ :: _ :: _ :: _ :: _ :: _ :: _ :: _ :: _ :: _ :: _ :: _ :: []), defers := [] } _
        refine wpAnyH_take (i := 6) (v := .int .u8 z1) rfl (by kernel_rfl) (by kernel_rfl) (by kernel_rfl) (fun _ _ _ h => h) (Or.inl ⟨by kernel_rfl, fun w hS => by (obtain ⟨hS0, hS1⟩ := hS; go_simp)⟩) hHeld ?_
        change wpAnyH _ _ _ _ _ _ _ { tmps := List.toArray (_ :: _ :: _ :: _ :: _ :: _ :: _ :: _ :: _ :: _ :: _ :: _ :: _ :: _ :: _ :: _ :: _ :: _ :: _ :: _ :: _ :: _ :: _ :: _ :: _ :: _ :: _ :: _ :: _ :: _ :: _ :: _ :: _ :: _ :: _ :: _ :: _ :: _ :: _ :: _ :: _ :: _ :: _ :: _ :: _ :: _ :: .slice (some ⟨b, 0, none⟩) n c :: .pointer (some ⟨b, 0, none⟩) :: .int .u8 z0 :: .int .i64 z0 :: .slice (some ⟨b, 0, none⟩) n c :: .pointer (some ⟨b, 1, none⟩) :: .int .u8 z1 :: _ :: _ :: _ :: _ :: _ :: _ :: _ :: _ :: _ :: _ :: _ :: _ :: _ :: _ :: _ :: _ :: _ :: _ :: _ :: _ :: _ :: _ :: _ :: _ :: _ :: _ :: _ :: _ :: _ :: _ :: []), defers := [] } _
        refine wpAnyH_take (i := 7) (v := .int .i64 z1) rfl (by kernel_rfl) (by kernel_rfl) (by kernel_rfl) (fun _ _ _ h => h) (Or.inl ⟨by kernel_rfl, fun w hS => by go_simp⟩) hHeld ?_
        change wpAnyH _ _ _ _ _ _ _ { tmps := List.toArray (_ :: _ :: _ :: _ :: _ :: _ :: _ :: _ :: _ :: _ :: _ :: _ :: _ :: _ :: _ :: _ :: _ :: _ :: _ :: _ :: _ :: _ :: _ :: _ :: _ :: _ :: _ :: _ :: _ :: _ :: _ :: _ :: _ :: _ :: _ :: _ :: _ :: _ :: _ :: _ :: _ :: _ :: _ :: _ :: _ :: _ :: .slice (some ⟨b, 0, none⟩) n c :: .pointer (some ⟨b, 0, none⟩) :: .int .u8 z0 :: .int .i64 z0 :: .slice (some ⟨b, 0, none⟩) n c :: .pointer (some ⟨b, 1, none⟩) :: .int .u8 z1 :: .int .i64 z1 :: _ :: _ :: _ :: _ :: _ :: _ :: _ :: _ :: _ :: _ :: _ :: _ :: _ :: _ :: _ :: _ :: _ :: _ :: _ :: _ :: _ :: _ :: _ :: _ :: _ :: _ :: _ :: _ :: _ :: []), defers := [] } _
        refine wpAnyH_take (i := 8) (v := .agg #[.int .i64 z0, .int .i64 z1, .slice none 0 0]) rfl (by kernel_rfl) (by kernel_rfl) (by kernel_rfl) (fun _ _ _ h => h) (Or.inl ⟨by kernel_rfl, fun w hS => by go_simp⟩) hHeld ?_
        change wpAnyH _ _ _ _ _ _ _ { tmps := List.toArray (_ :: _ :: _ :: _ :: _ :: _ :: _ :: _ :: _ :: _ :: _ :: _ :: _ :: _ :: _ :: _ :: _ :: _ :: _ :: _ :: _ :: _ :: _ :: _ :: _ :: _ :: _ :: _ :: _ :: _ :: _ :: _ :: _ :: _ :: _ :: _ :: _ :: _ :: _ :: _ :: _ :: _ :: _ :: _ :: _ :: _ :: .slice (some ⟨b, 0, none⟩) n c :: .pointer (some ⟨b, 0, none⟩) :: .int .u8 z0 :: .int .i64 z0 :: .slice (some ⟨b, 0, none⟩) n c :: .pointer (some ⟨b, 1, none⟩) :: .int .u8 z1 :: .int .i64 z1 :: .agg #[.int .i64 z0, .int .i64 z1, .slice none 0 0] :: _ :: _ :: _ :: _ :: _ :: _ :: _ :: _ :: _ :: _ :: _ :: _ :: _ :: _ :: _ :: _ :: _ :: _ :: _ :: _ :: _ :: _ :: _ :: _ :: _ :: _ :: _ :: _ :: []), defers := [] } _
        refine wpAnyH_ready (rs := [9]) (by kernel_rfl) (by simp) ?_
        refine (AllReadyH.cons rfl (fun KK hK => ?_) AllReadyH.nil)
        go_simp
        have Ba := btrans B0 (balloc wd (.cells #[.int .i64 0, .int .i64 0, .slice none 0 0] 25))
        have zB : (wd.alloc (.cells #[.int .i64 0, .int .i64 0, .slice none 0 0] 25)).heap[wd.heap.size]? = some (.cells #[.int .i64 0, .int .i64 0, .slice none 0 0] 25 (0, 0)) := heap_alloc_new wd _
        have zlo : wr.heap.size ≤ wd.heap.size := B0.size
        clear hHeld
        refine hK.out _ _ (⟨ble Ba k0, ble Ba k1⟩) (fun hHeld => ?_)
        clear hK KK
        change wpAnyH _ _ _ _ _ _ _ { tmps := List.toArray (_ :: _ :: _ :: _ :: _ :: _ :: .pointer (some ⟨wd.heap.size, 0, none⟩) :: _ :: _ :: _ :: _ :: _ :: _ :: _ :: _ :: _ :: _ :: _ :: _ :: _ :: _ :: _ :: _ :: _ :: _ :: _ :: _ :: _ :: _ :: _ :: _ :: _ :: _ :: _ :: _ :: _ :: _ :: _ :: _ :: _ :: _ :: _ :: _ :: _ :: _ :: _ :: .slice (some ⟨b, 0, none⟩) n c :: .pointer (some ⟨b, 0, none⟩) :: .int .u8 z0 :: .int .i64 z0 :: .slice (some ⟨b, 0, none⟩) n c :: .pointer (some ⟨b, 1, none⟩) :: .int .u8 z1 :: .int .i64 z1 :: .agg #[.int .i64 z0, .int .i64 z1, .slice none 0 0] :: _ :: _ :: _ :: _ :: _ :: _ :: _ :: _ :: _ :: _ :: _ :: _ :: _ :: _ :: _ :: _ :: _ :: _ :: _ :: _ :: _ :: _ :: _ :: _ :: _ :: _ :: _ :: _ :: []), defers := [] } _
        refine wpAnyH_ready (rs := [10]) (by kernel_rfl) (by simp) ?_
        refine (AllReadyH.cons rfl (fun KK hK => ?_) AllReadyH.nil)
        have Bs := btrans B0 (balloc wd (.cells #[.int .i64 z0, .int .i64 z1, .slice none 0 0] 25))
        go_simp
        clear hHeld
        refine hK.out _ _ (⟨ble Bs k0, ble Bs k1⟩) (fun hHeld => ?_)
        clear hK KK
        change wpAnyH _ _ _ _ _ _ _ { tmps := List.toArray (_ :: _ :: _ :: _ :: _ :: _ :: .pointer (some ⟨wd.heap.size, 0, none⟩) :: _ :: _ :: _ :: _ :: _ :: _ :: _ :: _ :: _ :: _ :: _ :: _ :: _ :: _ :: _ :: _ :: _ :: _ :: _ :: _ :: _ :: _ :: _ :: _ :: _ :: _ :: _ :: _ :: _ :: _ :: _ :: _ :: _ :: _ :: _ :: _ :: _ :: _ :: _ :: .slice (some ⟨b, 0, none⟩) n c :: .pointer (some ⟨b, 0, none⟩) :: .int .u8 z0 :: .int .i64 z0 :: .slice (some ⟨b, 0, none⟩) n c :: .pointer (some ⟨b, 1, none⟩) :: .int .u8 z1 :: .int .i64 z1 :: .agg #[.int .i64 z0, .int .i64 z1, .slice none 0 0] :: _ :: _ :: _ :: _ :: _ :: _ :: _ :: _ :: _ :: _ :: _ :: _ :: _ :: _ :: _ :: _ :: _ :: _ :: _ :: _ :: _ :: _ :: _ :: _ :: _ :: _ :: _ :: _ :: []), defers := [] } _
        refine wpAnyH_done (by kernel_rfl) ?_ _
        go_wp2_with fail
        go_meet
        exact gotN B0 (World.ownsRow_nil _ _ _ _)
      case rest =>
        obtain ⟨⟨g, v, rfl, hg, RV, hlo⟩, Bt⟩ := hcut
        have hws := hS.bel.size
        have hbw : w.heap.size < wr.heap.size := lt_of_block hS.box
        have hL0 : LpD w b n c xs g z0 z1 ((xs.drop 3).take 0) v wc := ⟨hS.below Bt, own_keep hown Bt, hg, own_base (by simpa using RV) hws, fun e => by have h8 := own_from RV (Nat.le_refl _) b e; have h9 := own_blk_lt hown b rfl; omega, by omega⟩
        clear RV hg hlo Bt hS hown k0 k1 a0 a1 a2 e0 e1 e2
        clear hws hbw
        generalize wr = wo at *
        go_wp2
        go_loopw [7] (fun i wr2 => ∃ (j : Nat) (v : Value), 3 ≤ j ∧ j ≤ n - 1 ∧ i = .int .i64 j ∧ LpD w b n c xs g z0 z1 ((xs.drop 3).take (j - 3)) v wr2) (fun i _ => n - (intOf i).toNat)
        case atStart => exact ⟨3, v, by omega, by omega, rfl, hL0⟩
        case round =>
          obtain ⟨j, v, hj3, hjn, rfl, hL⟩ := hrel
          clear hL0
          by_cases hlt : j < n - 1
          · have hcond : ((j : Int) < (n : Int) - 1) := by omega
            have hLj : j < xs.length := by rw [hxn.out]; omega
            obtain ⟨z, hcz⟩ : ∃ z, xs.getD j 0 = z := ⟨_, rfl⟩
            replace hcz := hide hcz
            have k0 := hL.cellAt (hLj := hLj) hcz.out
            obtain ⟨⟨-, -, p0⟩, -⟩ := blk3 hL.box
            obtain ⟨bd, hbd⟩ : ∃ bd, bd = (xs.drop 3).take (j - 3) := ⟨_, rfl⟩
            have hst : Hid ((xs.drop 3).take (j + 1 - 3) = bd ++ [z]) := hide (by
              have e1 : j + 1 - 3 = j - 3 + 1 := by omega
              have e2 : j - 3 < (xs.drop 3).length := by simp; omega
              rw [e1, take_snocI e2, hbd]
              congr 2
              rw [← hcz.out]
              simp [List.getD, show 3 + (j - 3) = j by omega])
            rw [← hbd] at hL
            obtain ⟨m, hbl⟩ : ∃ m, bd.length = m := ⟨_, rfl⟩
            have hm : m ≤ 200 := by rw [← hbl, hbd]; simp; omega
            replace hbl := hide hbl
            clear hbd
            obtain ⟨i1, hi1, hy0, hy1, hy2⟩ := info_parts infoBys
            obtain ⟨ua, uc, rfl⟩ := own_form hL.own
            rw [hbl.out] at p0
            have hjj : j < n := by omega
            have hjj2 : (j : Int) < (n : Int) := by omega
            go_wp2_with fail
            refine wp_region_held_drew (S := (fun w' => w'.cell? ⟨b, j, none⟩ = some (.int .u8 z))) (by kernel_rfl) ?_ (fun hHeld => ?_)
            · exact k0
            have B0 : Below wr.heap.size wr wr.drew := (Below.refl _ _).drew
            have d0 := ble B0 k0
            have pd := ble B0 p0
            have hLd := hL.below B0
            rw [hbl.out] at hLd
            have hod := own_keep hL.own B0
            rw [hbl.out] at hod
            clear k0 p0 hL
            generalize wr.drew = wd at *
            have sz1 : (wd.alloc (.cells #[.int .u8 z] 5)).heap.size = wd.heap.size + 1 := by simp
            have hds := hLd.S.bel.size
            refine wpAnyH_take (i := 0) (v := .pointer (some ⟨g, 2, none⟩)) rfl (by kernel_rfl) (by kernel_rfl) (by kernel_rfl) (fun _ _ _ h => h) (Or.inl ⟨by kernel_rfl, fun w hS => by go_simp⟩) hHeld ?_
            change wpAnyH _ _ _ _ _ _ _ { tmps := List.toArray (_ :: _ :: _ :: _ :: _ :: _ :: _ :: _ :: _ :: _ :: _ :: _ :: _ :: _ :: _ :: _ :: _ :: _ :: _ :: _ :: _ :: _ :: _ :: _ :: _ :: _ :: _ :: _ :: _ :: _ :: _ :: _ :: _ :: _ :: _ :: _ :: _ :: _ :: _ :: _ :: _ :: _ :: _ :: _ :: _ :: _ :: _ :: _ :: _ :: _ :: _ :: _ :: _ :: _ :: _ :: _ :: _ :: _ :: _ :: _ :: _ :: _ :: .pointer (some ⟨g, 2, none⟩) :: _ :: _ :: _ :: _ :: _ :: _ :: _ :: _ :: _ :: _ :: _ :: _ :: _ :: _ :: _ :: _ :: _ :: _ :: _ :: _ :: []), defers := [] } _
            refine wpAnyH_take (i := 2) (v := .slice (some ⟨b, 0, none⟩) n c) rfl (by kernel_rfl) (by kernel_rfl) (by kernel_rfl) (fun _ _ _ h => h) (Or.inl ⟨by kernel_rfl, fun w hS => by go_simp⟩) hHeld ?_
            change wpAnyH _ _ _ _ _ _ _ { tmps := List.toArray (_ :: _ :: _ :: _ :: _ :: _ :: _ :: _ :: _ :: _ :: _ :: _ :: _ :: _ :: _ :: _ :: _ :: _ :: _ :: _ :: _ :: _ :: _ :: _ :: _ :: _ :: _ :: _ :: _ :: _ :: _ :: _ :: _ :: _ :: _ :: _ :: _ :: _ :: _ :: _ :: _ :: _ :: _ :: _ :: _ :: _ :: _ :: _ :: _ :: _ :: _ :: _ :: _ :: _ :: _ :: _ :: _ :: _ :: _ :: _ :: _ :: _ :: .pointer (some ⟨g, 2, none⟩) :: _ :: .slice (some ⟨b, 0, none⟩) n c :: _ :: _ :: _ :: _ :: _ :: _ :: _ :: _ :: _ :: _ :: _ :: _ :: _ :: _ :: _ :: _ :: _ :: _ :: []), defers := [] } _
            refine wpAnyH_take (i := 3) (v := .int .i64 (j : Int)) rfl (by kernel_rfl) (by kernel_rfl) (by kernel_rfl) (fun _ _ _ h => h) (Or.inl ⟨by kernel_rfl, fun w hS => by go_simp⟩) hHeld ?_
            change wpAnyH _ _ _ _ _ _ _ { tmps := List.toArray (_ :: _ :: _ :: _ :: _ :: _ :: _ :: _ :: _ :: _ :: _ :: _ :: _ :: _ :: _ :: _ :: _ :: _ :: _ :: _ :: _ :: _ :: _ :: _ :: _ :: _ :: _ :: _ :: _ :: _ :: _ :: _ :: _ :: _ :: _ :: _ :: _ :: _ :: _ :: _ :: _ :: _ :: _ :: _ :: _ :: _ :: _ :: _ :: _ :: _ :: _ :: _ :: _ :: _ :: _ :: _ :: _ :: _ :: _ :: _ :: _ :: _ :: .pointer (some ⟨g, 2, none⟩) :: _ :: .slice (some ⟨b, 0, none⟩) n c :: .int .i64 (j : Int) :: _ :: _ :: _ :: _ :: _ :: _ :: _ :: _ :: _ :: _ :: _ :: _ :: _ :: _ :: _ :: _ :: _ :: []), defers := [] } _
            refine wpAnyH_take (i := 4) (v := .pointer (some ⟨b, j, none⟩)) rfl (by kernel_rfl) (by kernel_rfl) (by kernel_rfl) (fun _ _ _ h => h) (Or.inl ⟨by kernel_rfl, fun w hS => by go_simp⟩) hHeld ?_
            change wpAnyH _ _ _ _ _ _ _ { tmps := List.toArray (_ :: _ :: _ :: _ :: _ :: _ :: _ :: _ :: _ :: _ :: _ :: _ :: _ :: _ :: _ :: _ :: _ :: _ :: _ :: _ :: _ :: _ :: _ :: _ :: _ :: _ :: _ :: _ :: _ :: _ :: _ :: _ :: _ :: _ :: _ :: _ :: _ :: _ :: _ :: _ :: _ :: _ :: _ :: _ :: _ :: _ :: _ :: _ :: _ :: _ :: _ :: _ :: _ :: _ :: _ :: _ :: _ :: _ :: _ :: _ :: _ :: _ :: .pointer (some ⟨g, 2, none⟩) :: _ :: .slice (some ⟨b, 0, none⟩) n c :: .int .i64 (j : Int) :: .pointer (some ⟨b, j, none⟩) :: _ :: _ :: _ :: _ :: _ :: _ :: _ :: _ :: _ :: _ :: _ :: _ :: _ :: _ :: _ :: _ :: []), defers := [] } _
            refine wpAnyH_take (i := 5) (v := .int .u8 z) rfl (by kernel_rfl) (by kernel_rfl) (by kernel_rfl) (fun _ _ _ h => h) (Or.inl ⟨by kernel_rfl, fun w hS => by (have hS0 := hS; go_simp)⟩) hHeld ?_
            change wpAnyH _ _ _ _ _ _ _ { tmps := List.toArray (_ :: _ :: _ :: _ :: _ :: _ :: _ :: _ :: _ :: _ :: _ :: _ :: _ :: _ :: _ :: _ :: _ :: _ :: _ :: _ :: _ :: _ :: _ :: _ :: _ :: _ :: _ :: _ :: _ :: _ :: _ :: _ :: _ :: _ :: _ :: _ :: _ :: _ :: _ :: _ :: _ :: _ :: _ :: _ :: _ :: _ :: _ :: _ :: _ :: _ :: _ :: _ :: _ :: _ :: _ :: _ :: _ :: _ :: _ :: _ :: _ :: _ :: .pointer (some ⟨g, 2, none⟩) :: _ :: .slice (some ⟨b, 0, none⟩) n c :: .int .i64 (j : Int) :: .pointer (some ⟨b, j, none⟩) :: .int .u8 z :: _ :: _ :: _ :: _ :: _ :: _ :: _ :: _ :: _ :: _ :: _ :: _ :: _ :: _ :: _ :: []), defers := [] } _
            refine wpAnyH_ready (rs := [1, 6]) (by kernel_rfl) (by simp) ?_
            refine (AllReadyH.cons rfl (fun KK hK => ?_) (AllReadyH.cons rfl (fun KK hK => ?_) AllReadyH.nil))
            · skip
              go_simp
              clear hHeld
              refine hK.out _ _ (d0) (fun hHeld => ?_)
              clear hK KK
              change wpAnyH _ _ _ _ _ _ _ { tmps := List.toArray (_ :: _ :: _ :: _ :: _ :: _ :: _ :: _ :: _ :: _ :: _ :: _ :: _ :: _ :: _ :: _ :: _ :: _ :: _ :: _ :: _ :: _ :: _ :: _ :: _ :: _ :: _ :: _ :: _ :: _ :: _ :: _ :: _ :: _ :: _ :: _ :: _ :: _ :: _ :: _ :: _ :: _ :: _ :: _ :: _ :: _ :: _ :: _ :: _ :: _ :: _ :: _ :: _ :: _ :: _ :: _ :: _ :: _ :: _ :: _ :: _ :: _ :: .pointer (some ⟨g, 2, none⟩) :: .slice ua m uc :: .slice (some ⟨b, 0, none⟩) n c :: .int .i64 (j : Int) :: .pointer (some ⟨b, j, none⟩) :: .int .u8 z :: _ :: _ :: _ :: _ :: _ :: _ :: _ :: _ :: _ :: _ :: _ :: _ :: _ :: _ :: _ :: []), defers := [] } _
              refine wpAnyH_ready (rs := [6]) (by kernel_rfl) (by simp) ?_
              refine (AllReadyH.cons rfl (fun KK hK => ?_) AllReadyH.nil)
              go_simp
              have p1 := ble (balloc wd (.cells #[.int .u8 z] 5)) pd
              clear hHeld
              refine hK.out _ _ (ble (balloc wd (.cells #[.int .u8 z] 5)) d0) (fun hHeld => ?_)
              clear hK KK
              change wpAnyH _ _ _ _ _ _ _ { tmps := List.toArray (_ :: _ :: _ :: _ :: _ :: _ :: _ :: _ :: _ :: _ :: _ :: _ :: _ :: _ :: _ :: _ :: _ :: _ :: _ :: _ :: _ :: _ :: _ :: _ :: _ :: _ :: _ :: _ :: _ :: _ :: _ :: _ :: _ :: _ :: _ :: _ :: _ :: _ :: _ :: _ :: _ :: _ :: _ :: _ :: _ :: _ :: _ :: _ :: _ :: _ :: _ :: _ :: _ :: _ :: _ :: _ :: _ :: _ :: _ :: _ :: _ :: _ :: .pointer (some ⟨g, 2, none⟩) :: .slice ua m uc :: .slice (some ⟨b, 0, none⟩) n c :: .int .i64 (j : Int) :: .pointer (some ⟨b, j, none⟩) :: .int .u8 z :: .slice (some ⟨wd.heap.size, 0, none⟩) 1 1 :: _ :: _ :: _ :: _ :: _ :: _ :: _ :: _ :: _ :: _ :: _ :: _ :: _ :: _ :: []), defers := [] } _
              refine wpAnyH_ready (rs := [7]) (by kernel_rfl) (by simp) ?_
              refine (AllReadyH.cons rfl (fun KK hK => ?_) AllReadyH.nil)
              refine step_append_lies _ (by rfl) _ _ 22 (by rfl) w.heap.size 5 i1 (.int .u8 0) 1 1 Try.underlying22 hi1 hy0 hy1 hy2 rfl (by omega) (.slice ua m uc) m (enc8 bd) (by rfl) (own_keep hod (balloc wd (.cells #[.int .u8 z] 5))) ⟨wd.heap.size, 0, none⟩ 1 1 [.int .u8 z] (by rfl) rfl (World.news_of_block (heap_alloc_new wd _)) (fun u hu => by simp at hu; subst hu; rfl) (by omega) (by unfold maxLen; omega) (by omega) (by rw [sz1]; omega) (wd.heap.size + 1) (by rw [sz1]) ?_
              intro gg gc w3 hown hgrow hwh hgl
              obtain ⟨H9, y0, yg, yf⟩ := hLd.push (z := z) (j := j) (gg := gg) (gc := gc) (by simpa [enc8] using hown) hgrow hwh d0
              clear hHeld
              refine hK.out _ _ (y0) (fun hHeld => ?_)
              clear hK KK
              change wpAnyH _ _ _ _ _ _ _ { tmps := List.toArray (_ :: _ :: _ :: _ :: _ :: _ :: _ :: _ :: _ :: _ :: _ :: _ :: _ :: _ :: _ :: _ :: _ :: _ :: _ :: _ :: _ :: _ :: _ :: _ :: _ :: _ :: _ :: _ :: _ :: _ :: _ :: _ :: _ :: _ :: _ :: _ :: _ :: _ :: _ :: _ :: _ :: _ :: _ :: _ :: _ :: _ :: _ :: _ :: _ :: _ :: _ :: _ :: _ :: _ :: _ :: _ :: _ :: _ :: _ :: _ :: _ :: _ :: .pointer (some ⟨g, 2, none⟩) :: .slice ua m uc :: .slice (some ⟨b, 0, none⟩) n c :: .int .i64 (j : Int) :: .pointer (some ⟨b, j, none⟩) :: .int .u8 z :: .slice (some ⟨wd.heap.size, 0, none⟩) 1 1 :: .slice (some ⟨gg, 0, none⟩) (m + 1) gc :: _ :: _ :: _ :: _ :: _ :: _ :: _ :: _ :: _ :: _ :: _ :: _ :: _ :: []), defers := [] } _
              refine wpAnyH_take (i := 8) (v := .pointer (some ⟨g, 2, none⟩)) rfl (by kernel_rfl) (by kernel_rfl) (by kernel_rfl) (fun _ _ _ h => h) (Or.inl ⟨by kernel_rfl, fun w hS => by go_simp⟩) hHeld ?_
              change wpAnyH _ _ _ _ _ _ _ { tmps := List.toArray (_ :: _ :: _ :: _ :: _ :: _ :: _ :: _ :: _ :: _ :: _ :: _ :: _ :: _ :: _ :: _ :: _ :: _ :: _ :: _ :: _ :: _ :: _ :: _ :: _ :: _ :: _ :: _ :: _ :: _ :: _ :: _ :: _ :: _ :: _ :: _ :: _ :: _ :: _ :: _ :: _ :: _ :: _ :: _ :: _ :: _ :: _ :: _ :: _ :: _ :: _ :: _ :: _ :: _ :: _ :: _ :: _ :: _ :: _ :: _ :: _ :: _ :: .pointer (some ⟨g, 2, none⟩) :: .slice ua m uc :: .slice (some ⟨b, 0, none⟩) n c :: .int .i64 (j : Int) :: .pointer (some ⟨b, j, none⟩) :: .int .u8 z :: .slice (some ⟨wd.heap.size, 0, none⟩) 1 1 :: .slice (some ⟨gg, 0, none⟩) (m + 1) gc :: .pointer (some ⟨g, 2, none⟩) :: _ :: _ :: _ :: _ :: _ :: _ :: _ :: _ :: _ :: _ :: _ :: _ :: []), defers := [] } _
              refine wpAnyH_ready (rs := [9]) (by kernel_rfl) (by simp) ?_
              refine (AllReadyH.cons rfl (fun KK hK => ?_) AllReadyH.nil)
              go_simp
              have z0 := (H9.cellAt (hLj := hLj) hcz.out)
              clear hHeld
              refine hK.out _ _ (z0) (fun hHeld => ?_)
              clear hK KK
              change wpAnyH _ _ _ _ _ _ _ { tmps := List.toArray (_ :: _ :: _ :: _ :: _ :: _ :: _ :: _ :: _ :: _ :: _ :: _ :: _ :: _ :: _ :: _ :: _ :: _ :: _ :: _ :: _ :: _ :: _ :: _ :: _ :: _ :: _ :: _ :: _ :: _ :: _ :: _ :: _ :: _ :: _ :: _ :: _ :: _ :: _ :: _ :: _ :: _ :: _ :: _ :: _ :: _ :: _ :: _ :: _ :: _ :: _ :: _ :: _ :: _ :: _ :: _ :: _ :: _ :: _ :: _ :: _ :: _ :: .pointer (some ⟨g, 2, none⟩) :: .slice ua m uc :: .slice (some ⟨b, 0, none⟩) n c :: .int .i64 (j : Int) :: .pointer (some ⟨b, j, none⟩) :: .int .u8 z :: .slice (some ⟨wd.heap.size, 0, none⟩) 1 1 :: .slice (some ⟨gg, 0, none⟩) (m + 1) gc :: .pointer (some ⟨g, 2, none⟩) :: _ :: _ :: _ :: _ :: _ :: _ :: _ :: _ :: _ :: _ :: _ :: _ :: []), defers := [] } _
              refine wpAnyH_done (by kernel_rfl) ?_ _
              clear hown hgrow hwh hLd hod d0 y0 yg yf z0 pd p1 hgl
              go_wp2
              go_roundw
              case rel => exact ⟨j + 1, _, by omega, by omega, by go_num, by rw [hst.out]; exact H9⟩
              case measure => simp [intOf]; omega
            · skip
              go_simp
              have p1 := ble (balloc wd (.cells #[.int .u8 z] 5)) pd
              clear hHeld
              refine hK.out _ _ (ble (balloc wd (.cells #[.int .u8 z] 5)) d0) (fun hHeld => ?_)
              clear hK KK
              change wpAnyH _ _ _ _ _ _ _ { tmps := List.toArray (_ :: _ :: _ :: _ :: _ :: _ :: _ :: _ :: _ :: _ :: _ :: _ :: _ :: _ :: _ :: _ :: _ :: _ :: _ :: _ :: _ :: _ :: _ :: _ :: _ :: _ :: _ :: _ :: _ :: _ :: _ :: _ :: _ :: _ :: _ :: _ :: _ :: _ :: _ :: _ :: _ :: _ :: _ :: _ :: _ :: _ :: _ :: _ :: _ :: _ :: _ :: _ :: _ :: _ :: _ :: _ :: _ :: _ :: _ :: _ :: _ :: _ :: .pointer (some ⟨g, 2, none⟩) :: _ :: .slice (some ⟨b, 0, none⟩) n c :: .int .i64 (j : Int) :: .pointer (some ⟨b, j, none⟩) :: .int .u8 z :: .slice (some ⟨wd.heap.size, 0, none⟩) 1 1 :: _ :: _ :: _ :: _ :: _ :: _ :: _ :: _ :: _ :: _ :: _ :: _ :: _ :: _ :: []), defers := [] } _
              refine wpAnyH_ready (rs := [1]) (by kernel_rfl) (by simp) ?_
              refine (AllReadyH.cons rfl (fun KK hK => ?_) AllReadyH.nil)
              go_simp
              clear hHeld
              refine hK.out _ _ (ble (balloc wd (.cells #[.int .u8 z] 5)) d0) (fun hHeld => ?_)
              clear hK KK
              change wpAnyH _ _ _ _ _ _ _ { tmps := List.toArray (_ :: _ :: _ :: _ :: _ :: _ :: _ :: _ :: _ :: _ :: _ :: _ :: _ :: _ :: _ :: _ :: _ :: _ :: _ :: _ :: _ :: _ :: _ :: _ :: _ :: _ :: _ :: _ :: _ :: _ :: _ :: _ :: _ :: _ :: _ :: _ :: _ :: _ :: _ :: _ :: _ :: _ :: _ :: _ :: _ :: _ :: _ :: _ :: _ :: _ :: _ :: _ :: _ :: _ :: _ :: _ :: _ :: _ :: _ :: _ :: _ :: _ :: .pointer (some ⟨g, 2, none⟩) :: .slice ua m uc :: .slice (some ⟨b, 0, none⟩) n c :: .int .i64 (j : Int) :: .pointer (some ⟨b, j, none⟩) :: .int .u8 z :: .slice (some ⟨wd.heap.size, 0, none⟩) 1 1 :: _ :: _ :: _ :: _ :: _ :: _ :: _ :: _ :: _ :: _ :: _ :: _ :: _ :: _ :: []), defers := [] } _
              refine wpAnyH_ready (rs := [7]) (by kernel_rfl) (by simp) ?_
              refine (AllReadyH.cons rfl (fun KK hK => ?_) AllReadyH.nil)
              refine step_append_lies _ (by rfl) _ _ 22 (by rfl) w.heap.size 5 i1 (.int .u8 0) 1 1 Try.underlying22 hi1 hy0 hy1 hy2 rfl (by omega) (.slice ua m uc) m (enc8 bd) (by rfl) (own_keep hod (balloc wd (.cells #[.int .u8 z] 5))) ⟨wd.heap.size, 0, none⟩ 1 1 [.int .u8 z] (by rfl) rfl (World.news_of_block (heap_alloc_new wd _)) (fun u hu => by simp at hu; subst hu; rfl) (by omega) (by unfold maxLen; omega) (by omega) (by rw [sz1]; omega) (wd.heap.size + 1) (by rw [sz1]) ?_
              intro gg gc w3 hown hgrow hwh hgl
              obtain ⟨H9, y0, yg, yf⟩ := hLd.push (z := z) (j := j) (gg := gg) (gc := gc) (by simpa [enc8] using hown) hgrow hwh d0
              clear hHeld
              refine hK.out _ _ (y0) (fun hHeld => ?_)
              clear hK KK
              change wpAnyH _ _ _ _ _ _ _ { tmps := List.toArray (_ :: _ :: _ :: _ :: _ :: _ :: _ :: _ :: _ :: _ :: _ :: _ :: _ :: _ :: _ :: _ :: _ :: _ :: _ :: _ :: _ :: _ :: _ :: _ :: _ :: _ :: _ :: _ :: _ :: _ :: _ :: _ :: _ :: _ :: _ :: _ :: _ :: _ :: _ :: _ :: _ :: _ :: _ :: _ :: _ :: _ :: _ :: _ :: _ :: _ :: _ :: _ :: _ :: _ :: _ :: _ :: _ :: _ :: _ :: _ :: _ :: _ :: .pointer (some ⟨g, 2, none⟩) :: .slice ua m uc :: .slice (some ⟨b, 0, none⟩) n c :: .int .i64 (j : Int) :: .pointer (some ⟨b, j, none⟩) :: .int .u8 z :: .slice (some ⟨wd.heap.size, 0, none⟩) 1 1 :: .slice (some ⟨gg, 0, none⟩) (m + 1) gc :: _ :: _ :: _ :: _ :: _ :: _ :: _ :: _ :: _ :: _ :: _ :: _ :: _ :: []), defers := [] } _
              refine wpAnyH_take (i := 8) (v := .pointer (some ⟨g, 2, none⟩)) rfl (by kernel_rfl) (by kernel_rfl) (by kernel_rfl) (fun _ _ _ h => h) (Or.inl ⟨by kernel_rfl, fun w hS => by go_simp⟩) hHeld ?_
              change wpAnyH _ _ _ _ _ _ _ { tmps := List.toArray (_ :: _ :: _ :: _ :: _ :: _ :: _ :: _ :: _ :: _ :: _ :: _ :: _ :: _ :: _ :: _ :: _ :: _ :: _ :: _ :: _ :: _ :: _ :: _ :: _ :: _ :: _ :: _ :: _ :: _ :: _ :: _ :: _ :: _ :: _ :: _ :: _ :: _ :: _ :: _ :: _ :: _ :: _ :: _ :: _ :: _ :: _ :: _ :: _ :: _ :: _ :: _ :: _ :: _ :: _ :: _ :: _ :: _ :: _ :: _ :: _ :: _ :: .pointer (some ⟨g, 2, none⟩) :: .slice ua m uc :: .slice (some ⟨b, 0, none⟩) n c :: .int .i64 (j : Int) :: .pointer (some ⟨b, j, none⟩) :: .int .u8 z :: .slice (some ⟨wd.heap.size, 0, none⟩) 1 1 :: .slice (some ⟨gg, 0, none⟩) (m + 1) gc :: .pointer (some ⟨g, 2, none⟩) :: _ :: _ :: _ :: _ :: _ :: _ :: _ :: _ :: _ :: _ :: _ :: _ :: []), defers := [] } _
              refine wpAnyH_ready (rs := [9]) (by kernel_rfl) (by simp) ?_
              refine (AllReadyH.cons rfl (fun KK hK => ?_) AllReadyH.nil)
              go_simp
              have z0 := (H9.cellAt (hLj := hLj) hcz.out)
              clear hHeld
              refine hK.out _ _ (z0) (fun hHeld => ?_)
              clear hK KK
              change wpAnyH _ _ _ _ _ _ _ { tmps := List.toArray (_ :: _ :: _ :: _ :: _ :: _ :: _ :: _ :: _ :: _ :: _ :: _ :: _ :: _ :: _ :: _ :: _ :: _ :: _ :: _ :: _ :: _ :: _ :: _ :: _ :: _ :: _ :: _ :: _ :: _ :: _ :: _ :: _ :: _ :: _ :: _ :: _ :: _ :: _ :: _ :: _ :: _ :: _ :: _ :: _ :: _ :: _ :: _ :: _ :: _ :: _ :: _ :: _ :: _ :: _ :: _ :: _ :: _ :: _ :: _ :: _ :: _ :: .pointer (some ⟨g, 2, none⟩) :: .slice ua m uc :: .slice (some ⟨b, 0, none⟩) n c :: .int .i64 (j : Int) :: .pointer (some ⟨b, j, none⟩) :: .int .u8 z :: .slice (some ⟨wd.heap.size, 0, none⟩) 1 1 :: .slice (some ⟨gg, 0, none⟩) (m + 1) gc :: .pointer (some ⟨g, 2, none⟩) :: _ :: _ :: _ :: _ :: _ :: _ :: _ :: _ :: _ :: _ :: _ :: _ :: []), defers := [] } _
              refine wpAnyH_done (by kernel_rfl) ?_ _
              clear hown hgrow hwh hLd hod d0 y0 yg yf z0 pd p1 hgl
              go_wp2
              go_roundw
              case rel => exact ⟨j + 1, _, by omega, by omega, by go_num, by rw [hst.out]; exact H9⟩
              case measure => simp [intOf]; omega
          · obtain rfl : j = n - 1 := by omega
            have hcond : ¬ (((n - 1 : Nat) : Int) < (n : Int) - 1) := by omega
            have hbdl : ((xs.drop 3).take (n - 1 - 3)).length = n - 4 := by simp; rw [hxn.out]; omega
            have hTT : Hid (telOf xs = ⟨z0, z1, (xs.drop 3).take (n - 1 - 3)⟩) := hide (by rw [hT.out, show n - 1 - 3 = n - 4 by omega])
            have hbyB : By ((xs.drop 3).take (n - 1 - 3)) := (hU.out.drop 3).take _
            generalize (xs.drop 3).take (n - 1 - 3) = bd at *
            have hOK : Hid (okT (telOf xs) = telB z0 z1 (n - 4)) := hide (by rw [hTT.out, ← hbdl]; rfl)
            obtain ⟨ua, uc, rfl⟩ := own_form hL.own
            have hbdl2 : bd.length ≤ 1048576 := by omega
            rw [hbdl] at hL
            have hD3 : Hid (∀ p : Bool, okT (telOf xs) = true → decide (encV ⟨z0, z1, bd⟩ = zs) = p → decS zs = if p then some ⟨z0, z1, bd⟩ else none) := hide (by
              intro p h1 h2
              rw [hD2.out, ← hTT.out]
              have h3 : encV (telOf xs) = encL (telOf xs) := encV_yes h1
              rw [← hTT.out, h3] at h2
              cases p
              · rw [if_neg (fun h => by have := of_decide_eq_false h2; exact this h.2)]; rfl
              · rw [if_pos ⟨h1, of_decide_eq_true h2⟩]; rfl)
            have hlen0 : (encV ⟨z0, z1, bd⟩).length ≤ 130 := encV_len _
            cases hok : telB z0 z1 (n - 4)
            · have E : Hid (decS zs = none) := hide (by rw [hD2.out, if_neg]; intro h; rw [hOK.out, hok] at h; exact absurd h.1 (by decide))
              obtain ⟨⟨g0, g1, g2⟩, -⟩ := blk3 hL.box
              clear hD2 hD3 hT hTT hOK hU
              go_wp2_with fail
              refine (cOkS z0 z1 ua (n - 4) uc _).mono ?_
              rintro e w5 ⟨rfl, hb5⟩
              rw [hok]
              replace hL := hL.below hb5
              obtain ⟨⟨a0, a1, a2⟩, e0, e1, e2⟩ := blk3 hL.S.box
              have B5 := hL.S.bel
              clear hb5 g0 g1 g2
              go_wp2_with fail
              refine bodyPost_ret (v := .tuple #[.agg #[.int .i64 0, .int .i64 0, .slice none 0 0], .bool false]) (by simp [results, Try.results37, go_sem, a0, a1, a2]) rfl ⟨.inr ⟨E.out, rfl⟩, ?_⟩
              first
              | exact B5
              | exact below_set (Nat.le_refl _) (below_set (Nat.le_refl _) (below_set (Nat.le_refl _) B5))
            obtain ⟨⟨g0, g1, g2⟩, -⟩ := blk3 hL.box
            have hok2 := hide (hOK.out.trans hok)
            clear hT hTT hOK hU hD2
            go_wp2_with fail
            refine (cOkS z0 z1 ua (n - 4) uc _).mono ?_
            rintro e w5 ⟨rfl, hb5⟩
            rw [hok]
            replace hL := hL.below hb5
            clear hb5 g0 g1 g2 hok
            obtain ⟨⟨g0, g1, g2⟩, -⟩ := blk3 hL.box
            have CE := cEncS z0 z1 ua uc bd w5 (Bys.own (by have := hL.own; rw [hbdl] at this; exact this) hbdl) hbyB hbdl2
            rw [hbdl] at CE
            go_wp2_with fail
            refine CE.mono ?_
            rintro e w6 ⟨vE, rfl, RE, hb6⟩
            replace hL := hL.below hb6
            obtain ⟨aE, cE, rfl⟩ := own_form RE
            have CS := cSame aE a cE cz (encV ⟨z0, z1, bd⟩) zs w6 (Bys.own RE rfl) (hz.below hL.S.bel) (by omega)
            generalize encV ⟨z0, z1, bd⟩ = EV at *
            clear hb6 g0 g1 g2 CE RE
            go_wp2_with fail
            refine CS.mono ?_
            rintro e w7 ⟨rfl, hb7⟩
            replace hL := hL.below hb7
            clear hb7 CS
            obtain ⟨⟨a0, a1, a2⟩, e0, e1, e2⟩ := blk3 hL.S.box
            have B5 := hL.S.bel
            cases hs : decide (EV = zs)
            · have E : Hid (decS zs = none) := hide (hD3.out false hok2.out hs)
              clear hD3
              go_wp2_with fail
              refine bodyPost_ret (v := .tuple #[.agg #[.int .i64 0, .int .i64 0, .slice none 0 0], .bool false]) (by simp [results, Try.results37, go_sem, a0, a1, a2]) rfl ⟨.inr ⟨E.out, rfl⟩, ?_⟩
              first
              | exact B5
              | exact below_set (Nat.le_refl _) (below_set (Nat.le_refl _) (below_set (Nat.le_refl _) B5))
            · have E : Hid (decS zs = some ⟨z0, z1, bd⟩) := hide (hD3.out true hok2.out hs)
              clear hD3
              obtain ⟨⟨g0, g1, g2⟩, -⟩ := blk3 hL.box
              have hne := own_apartB hL.own hL.S.box (by decide)
              have hR := hL.own
              have hgw := hL.gw
              go_wp2_with fail
              refine bodyPost_ret (v := .tuple #[.agg #[.int .i64 z0, .int .i64 z1, .slice ua (n - 4) uc], .bool true]) (by simp [results, Try.results37, go_sem, a0, a1, a2]) rfl ⟨.inl ⟨⟨z0, z1, bd⟩, _, E.out, rfl, ?_⟩, ?_⟩
              · exact own_set (own_set (own_set hR hne) hne) hne
              · exact below_set (Nat.le_refl _) (below_set (Nat.le_refl _) (below_set (Nat.le_refl _) B5))
end Go.Proofs.Ytgnohomplehacaa
