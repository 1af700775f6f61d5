/- Both: the program's text, where it is not refused ahead of its loop. -/
import Derived.Test.YtmchdclieejohaaU
import Derived.Test.YtmchdclieejohaaI
namespace Go.Proofs.Ytmchdclieejohaa
open Go.RowKit

theorem on3 (a b c : Bool) : (a = false ∧ c = false) ∨ (a = false ∧ c = true) ∨ (a = true ∧ b = false ∧ c = false) ∨ (a = true ∧ b = false ∧ c = true) ∨ (a = true ∧ b = true ∧ c = false) ∨ (a = true ∧ b = true ∧ c = true) := by
  cases a <;> cases b <;> cases c <;> simp
theorem day_next (f : Int) (j : Nat) : Value.int .i64 (f + (j : Int) + 1) = .int .i64 (f + ((j + 1 : Nat) : Int)) := by congr 1; omega

/-- What is answered of the days put together. -/
def keep20 (wk f t : Int) (xs ys : List Int) : PatV := if xs.length ≤ 20 ∧ ys.length ≤ 20 then ⟨wk, f, t, xs, ys⟩ else ⟨0, 0, 0, [], []⟩
theorem keep_no1 {wk f t : Int} {xs ys : List Int} (h : 20 < xs.length) : keep20 wk f t xs ys = ⟨0, 0, 0, [], []⟩ := by unfold keep20; rw [if_neg (by omega)]
theorem keep_no2 {wk f t : Int} {xs ys : List Int} (h : 20 < ys.length) : keep20 wk f t xs ys = ⟨0, 0, 0, [], []⟩ := by unfold keep20; rw [if_neg (by omega)]
theorem keep_yes {wk f t : Int} {xs ys : List Int} (h1 : xs.length ≤ 20) (h2 : ys.length ≤ 20) : keep20 wk f t xs ys = ⟨wk, f, t, xs, ys⟩ := by unfold keep20; rw [if_pos ⟨h1, h2⟩]
theorem apart2 {v1 v2 : Value} (h : v1.ownBlock = none ∨ v2.ownBlock = none ∨ v1.ownBlock ≠ v2.ownBlock) : v1.ownBlock = none ∨ v1.ownBlock ≠ v2.ownBlock := by
  rcases h with h | h | h
  · exact .inl h
  · cases e : v1.ownBlock
    · exact .inl rfl
    · right; rw [h]; simp
  · exact .inr h
theorem Out.ans {w W0 wr : World} {wk f t : Int} {ao1 ao2 : Option Addr} {cp1 cp2 : Nat} {xs ys : List Int} {b : Nat} {u0 u1 u2 u3 u4 : Value} (L : Out W0 wr wk f t ao1 cp1 xs ao2 cp2 ys) (HB : Below w.heap.size w W0) (hb : w.heap.size ≤ b) (hb2 : b < W0.heap.size) :
    AnsPat w ⟨wk, f, t, xs, ys⟩ (.returned (.agg #[.int .i64 wk, .int .i64 f, .int .i64 t, .slice ao1 xs.length cp1, .slice ao2 ys.length cp2])) (((((wr.setCell ⟨b, 0, none⟩ u0).setCell ⟨b, 1, none⟩ u1).setCell ⟨b, 2, none⟩ u2).setCell ⟨b, 3, none⟩ u3).setCell ⟨b, 4, none⟩ u4) :=
  ⟨ao1, cp1, ao2, cp2, rfl, Go.Joins.ownsRow_le (own_set5 (by omega) L.own1) (by have := HB.size; omega), Go.Joins.ownsRow_le (own_set5 (by omega) L.own2) (by have := HB.size; omega), apart2 L.apart, below_set5 hb (btrans HB L.bel)⟩

set_option maxHeartbeats 12800000 in
theorem c13yes (a1 a2 a3 a4 : Option Addr) (p1 p2 p3 p4 : Nat) (zs es ys ds : List Int) (W F T V G H : Int) (w : World) (hz : Ints w a1 zs) (he : Ints w a2 es) (hy : Ints w a3 ys) (hd : Ints w a4 ds)
    (hl1 : zs.length ≤ 1048576) (hl2 : es.length ≤ 1048576) (hl3 : ys.length ≤ 1048576) (hl4 : ds.length ≤ 1048576)
    (hp : patOk W F T zs es = true) (hq : patOk V G H ys ds = true) (wk f t : Int) (hwk : bits BinOp.and IntKind.i64 W V = wk) (hf : (if F < G then G else F) = f) (ht : (if H < T then H else T) = t) (hft : f ≤ t) (hf0 : 0 ≤ f) (ht1 : t ≤ 3650)
    (sk ex : Int → Bool) (hsk : ∀ d, sk d = (wkB wk d && !(onB W F T zs es d && onB V G H ys ds d))) (hex : ∀ d, ex d = (!wkB wk d && (onB W F T zs es d && onB V G H ys ds d))) :
    Calls Try.prog 13 #[.agg #[.int .i64 W, .int .i64 F, .int .i64 T, .slice a1 zs.length p1, .slice a2 es.length p2], .agg #[.int .i64 V, .int .i64 G, .int .i64 H, .slice a3 ys.length p3, .slice a4 ds.length p4]] w (AnsPat w (keep20 wk f t (pick sk f (t + 1 - f).toNat) (pick ex f (t + 1 - f).toNat))) := by
  obtain ⟨i0, hi, hz0, hz1, hz2⟩ := info_parts info3
  go_enter Try.func13, Try.ntmps13
  go_wp2_with fail
  have BA := btrans (btrans (balloc w (.cells #[.int .i64 W, .int .i64 F, .int .i64 T, .slice a1 zs.length p1, .slice a2 es.length p2] 26)) (balloc _ (.cells #[.int .i64 V, .int .i64 G, .int .i64 H, .slice a3 ys.length p3, .slice a4 ds.length p4] 26))) (balloc _ (.cells #[.int .i64 0, .int .i64 0, .int .i64 0, .slice none 0 0, .slice none 0 0] 26))
  obtain ⟨k1, k2, k3⟩ := three_blocks w (.cells #[.int .i64 W, .int .i64 F, .int .i64 T, .slice a1 zs.length p1, .slice a2 es.length p2] 26) (.cells #[.int .i64 V, .int .i64 G, .int .i64 H, .slice a3 ys.length p3, .slice a4 ds.length p4] 26) (.cells #[.int .i64 0, .int .i64 0, .int .i64 0, .slice none 0 0, .slice none 0 0] 26)
  have sz := size3 w (.cells #[.int .i64 W, .int .i64 F, .int .i64 T, .slice a1 zs.length p1, .slice a2 es.length p2] 26) (.cells #[.int .i64 V, .int .i64 G, .int .i64 H, .slice a3 ys.length p3, .slice a4 ds.length p4] 26) (.cells #[.int .i64 0, .int .i64 0, .int .i64 0, .slice none 0 0, .slice none 0 0] 26)
  refine (c21 a1 a2 p1 p2 zs es W F T _ (hz.below BA) (he.below BA) hl1 hl2).mono ?_
  rintro e w1 ⟨rfl, hb⟩
  have HB1 := btrans BA hb
  have z1 := hb.size
  rw [sz] at z1
  rw [← hb.block _ (by rw [sz]; omega)] at k1 k2 k3
  clear hb BA sz
  obtain ⟨⟨e0, e1, e2, e3, e4⟩, _⟩ := blk5 k2
  go_wp2_with fail
  refine (c21 a3 a4 p3 p4 ys ds V G H _ (hy.below HB1) (hd.below HB1) hl3 hl4).mono ?_
  rintro e W0 ⟨rfl, hb⟩
  have HB := btrans HB1 hb
  have z0 := hb.size
  rw [← hb.block _ (by omega)] at k1 k2 k3
  clear hb HB1 e0 e1 e2 e3 e4
  have XP : Bx W0 w.heap.size (.int .i64 W) (.int .i64 F) (.int .i64 T) (.slice a1 zs.length p1) (.slice a2 es.length p2) := (blk5 k1).1
  have XQ : Bx W0 (w.heap.size + 1) (.int .i64 V) (.int .i64 G) (.int .i64 H) (.slice a3 ys.length p3) (.slice a4 ds.length p4) := (blk5 k2).1
  obtain ⟨b0, b1, b2, b3, b4⟩ := id XP
  obtain ⟨e0, e1, e2, e3, e4⟩ := id XQ
  go_wp2_with fail
  clear b0 b1 b2 b3 b4 e0 e1 e2 e3 e4
  go_loopw [6, 7, 8] (fun day _ _ wr => ∃ (j : Nat) (ao1 : Option Addr) (cp1 : Nat) (ao2 : Option Addr) (cp2 : Nat), (j : Int) ≤ t - f + 1 ∧ day = .int .i64 (f + j) ∧ Out W0 wr wk f t ao1 cp1 (pick sk f j) ao2 cp2 (pick ex f j)) (fun day _ _ _ => (t + 1 - intOf day).toNat)
  case atStart => exact ⟨0, none, 0, none, 0, by omega, by simp, Out.new W0 wk f t⟩
  case round =>
    obtain ⟨j, ao1, cp1, ao2, cp2, hj, rfl, L⟩ := hrel
    have ls := pick_len sk f j
    have le := pick_len ex f j
    by_cases hlt : f + j ≤ t
    · clear hf ht hwk
      rcases on3 (onB W F T zs es (f + j)) (onB V G H ys ds (f + j)) (wkB wk (f + j)) with ⟨cp, cw⟩ | ⟨cp, cw⟩ | ⟨cp, cq, cw⟩ | ⟨cp, cq, cw⟩ | ⟨cp, cq, cw⟩ | ⟨cp, cq, cw⟩
      · have S1 := hide (pick_no sk f j (by rw [hsk]; simp [cw, cp]))
        have S2 := hide (pick_no ex f j (by rw [hex]; simp [cw, cp]))
        obtain ⟨⟨u0, u1, u2, u3, u4⟩, f0, f1, f2, f3, f4⟩ := L.cells
        obtain ⟨b0, b1, b2, b3, b4⟩ := XP.below L.bel
        obtain ⟨e0, e1, e2, e3, e4⟩ := XQ.below L.bel
        go_wp2_with (go_at_call 36; refine (c36 _ _ _).mono ?_; rintro e w' ⟨rfl, hw'⟩; obtain rfl := hw'.symm)
        clear u0 u1 u2 u3 u4 f0 f1 f2 f3 f4 b0 b1 b2 b3 b4 e0 e1 e2 e3 e4
        refine (c37 a1 a2 p1 p2 zs es W F T _ _ (hz.below (btrans HB L.bel)) (he.below (btrans HB L.bel)) hl1 hl2 hp).mono ?_
        rintro e wx ⟨rfl, hbx⟩
        replace L := L.below hbx
        clear hbx
        go_wp2
        go_roundw
        case rel => exact ⟨j + 1, ao1, cp1, ao2, cp2, by omega, by rw [day_next], by rw [S1.out, S2.out]; exact L⟩
        case measure => simp [intOf]; omega
      · have S1 := hide (pick_yes sk f j (by rw [hsk]; simp [cw, cp]))
        have S2 := hide (pick_no ex f j (by rw [hex]; simp [cw, cp]))
        obtain ⟨⟨u0, u1, u2, u3, u4⟩, f0, f1, f2, f3, f4⟩ := L.cells
        obtain ⟨b0, b1, b2, b3, b4⟩ := XP.below L.bel
        obtain ⟨e0, e1, e2, e3, e4⟩ := XQ.below L.bel
        go_wp2_with (go_at_call 36; refine (c36 _ _ _).mono ?_; rintro e w' ⟨rfl, hw'⟩; obtain rfl := hw'.symm)
        clear u0 u1 u2 u3 u4 f0 f1 f2 f3 f4 b0 b1 b2 b3 b4 e0 e1 e2 e3 e4
        refine (c37 a1 a2 p1 p2 zs es W F T _ _ (hz.below (btrans HB L.bel)) (he.below (btrans HB L.bel)) hl1 hl2 hp).mono ?_
        rintro e wx ⟨rfl, hbx⟩
        replace L := L.below hbx
        clear hbx
        obtain ⟨⟨_, _, _, u3, u4⟩, _, _, _, f3, f4⟩ := L.cells
        have hlx := L.lt
        go_wp2_with (at_builtin; refine wpList_append_lies _ rfl _ _ _ rfl (W0.heap.size + 1) 3 i0 (.int .i64 0) 1 8 Try.underlying24 hi hz0 hz1 hz2 rfl (by decide) (.slice ao1 (pick sk f j).length cp1) (pick sk f j).length ((pick sk f j).map (Value.int .i64)) rfl (by exact L.own1.alloc _) ⟨wx.heap.size, 0, none⟩ 1 1 [.int .i64 (f + j)] rfl rfl (by intro i u hj; match i, hj with | 0, hj => simp at hj; subst hj; simp [Addr.add]) (by intro u hu; simp at hu; subst hu; rfl) (by decide) (by unfold maxLen; omega) (by omega) (by simp; omega) (wx.heap.size + 1) (by simp) ?_; intro g cap w2 hown hgrow hat hlt2; obtain ⟨⟨y3, y4⟩, x3, x4⟩ := L.after (w2 := w2) (own_ge L.own1) hgrow)
        have L2 := L.push1 hown hgrow hat
        rw [← S1.out] at L2
        clear hown hgrow hat
        go_wp2
        go_roundw
        case rel => exact ⟨j + 1, some ⟨g, 0, none⟩, cap, ao2, cp2, by omega, by rw [day_next], by rw [S2.out]; exact L2⟩
        case measure => simp [intOf]; omega
      · have S1 := hide (pick_no sk f j (by rw [hsk]; simp [cw, cp, cq]))
        have S2 := hide (pick_no ex f j (by rw [hex]; simp [cw, cp, cq]))
        obtain ⟨⟨u0, u1, u2, u3, u4⟩, f0, f1, f2, f3, f4⟩ := L.cells
        obtain ⟨b0, b1, b2, b3, b4⟩ := XP.below L.bel
        obtain ⟨e0, e1, e2, e3, e4⟩ := XQ.below L.bel
        go_wp2_with (go_at_call 36; refine (c36 _ _ _).mono ?_; rintro e w' ⟨rfl, hw'⟩; obtain rfl := hw'.symm)
        clear u0 u1 u2 u3 u4 f0 f1 f2 f3 f4 b0 b1 b2 b3 b4 e0 e1 e2 e3 e4
        refine (c37 a1 a2 p1 p2 zs es W F T _ _ (hz.below (btrans HB L.bel)) (he.below (btrans HB L.bel)) hl1 hl2 hp).mono ?_
        rintro e wx ⟨rfl, hbx⟩
        replace L := L.below hbx
        clear hbx
        obtain ⟨e0, e1, e2, e3, e4⟩ := XQ.below L.bel
        go_wp2_with fail
        clear e0 e1 e2 e3 e4
        refine (c37 a3 a4 p3 p4 ys ds V G H _ _ (hy.below (btrans HB L.bel)) (hd.below (btrans HB L.bel)) hl3 hl4 hq).mono ?_
        rintro e wy ⟨rfl, hby⟩
        replace L := L.below hby
        clear hby
        go_wp2
        go_roundw
        case rel => exact ⟨j + 1, ao1, cp1, ao2, cp2, by omega, by rw [day_next], by rw [S1.out, S2.out]; exact L⟩
        case measure => simp [intOf]; omega
      · have S1 := hide (pick_yes sk f j (by rw [hsk]; simp [cw, cp, cq]))
        have S2 := hide (pick_no ex f j (by rw [hex]; simp [cw, cp, cq]))
        obtain ⟨⟨u0, u1, u2, u3, u4⟩, f0, f1, f2, f3, f4⟩ := L.cells
        obtain ⟨b0, b1, b2, b3, b4⟩ := XP.below L.bel
        obtain ⟨e0, e1, e2, e3, e4⟩ := XQ.below L.bel
        go_wp2_with (go_at_call 36; refine (c36 _ _ _).mono ?_; rintro e w' ⟨rfl, hw'⟩; obtain rfl := hw'.symm)
        clear u0 u1 u2 u3 u4 f0 f1 f2 f3 f4 b0 b1 b2 b3 b4 e0 e1 e2 e3 e4
        refine (c37 a1 a2 p1 p2 zs es W F T _ _ (hz.below (btrans HB L.bel)) (he.below (btrans HB L.bel)) hl1 hl2 hp).mono ?_
        rintro e wx ⟨rfl, hbx⟩
        replace L := L.below hbx
        clear hbx
        obtain ⟨e0, e1, e2, e3, e4⟩ := XQ.below L.bel
        go_wp2_with fail
        clear e0 e1 e2 e3 e4
        refine (c37 a3 a4 p3 p4 ys ds V G H _ _ (hy.below (btrans HB L.bel)) (hd.below (btrans HB L.bel)) hl3 hl4 hq).mono ?_
        rintro e wy ⟨rfl, hby⟩
        replace L := L.below hby
        clear hby
        obtain ⟨⟨_, _, _, u3, u4⟩, _, _, _, f3, f4⟩ := L.cells
        have hlx := L.lt
        go_wp2_with (at_builtin; refine wpList_append_lies _ rfl _ _ _ rfl (W0.heap.size + 1) 3 i0 (.int .i64 0) 1 8 Try.underlying24 hi hz0 hz1 hz2 rfl (by decide) (.slice ao1 (pick sk f j).length cp1) (pick sk f j).length ((pick sk f j).map (Value.int .i64)) rfl (by exact L.own1.alloc _) ⟨wy.heap.size, 0, none⟩ 1 1 [.int .i64 (f + j)] rfl rfl (by intro i u hj; match i, hj with | 0, hj => simp at hj; subst hj; simp [Addr.add]) (by intro u hu; simp at hu; subst hu; rfl) (by decide) (by unfold maxLen; omega) (by omega) (by simp; omega) (wy.heap.size + 1) (by simp) ?_; intro g cap w2 hown hgrow hat hlt2; obtain ⟨⟨y3, y4⟩, x3, x4⟩ := L.after (w2 := w2) (own_ge L.own1) hgrow)
        have L2 := L.push1 hown hgrow hat
        rw [← S1.out] at L2
        clear hown hgrow hat
        go_wp2
        go_roundw
        case rel => exact ⟨j + 1, some ⟨g, 0, none⟩, cap, ao2, cp2, by omega, by rw [day_next], by rw [S2.out]; exact L2⟩
        case measure => simp [intOf]; omega
      · have S1 := hide (pick_no sk f j (by rw [hsk]; simp [cw, cp, cq]))
        have S2 := hide (pick_yes ex f j (by rw [hex]; simp [cw, cp, cq]))
        obtain ⟨⟨u0, u1, u2, u3, u4⟩, f0, f1, f2, f3, f4⟩ := L.cells
        obtain ⟨b0, b1, b2, b3, b4⟩ := XP.below L.bel
        obtain ⟨e0, e1, e2, e3, e4⟩ := XQ.below L.bel
        go_wp2_with (go_at_call 36; refine (c36 _ _ _).mono ?_; rintro e w' ⟨rfl, hw'⟩; obtain rfl := hw'.symm)
        clear u0 u1 u2 u3 u4 f0 f1 f2 f3 f4 b0 b1 b2 b3 b4 e0 e1 e2 e3 e4
        refine (c37 a1 a2 p1 p2 zs es W F T _ _ (hz.below (btrans HB L.bel)) (he.below (btrans HB L.bel)) hl1 hl2 hp).mono ?_
        rintro e wx ⟨rfl, hbx⟩
        replace L := L.below hbx
        clear hbx
        obtain ⟨e0, e1, e2, e3, e4⟩ := XQ.below L.bel
        go_wp2_with fail
        clear e0 e1 e2 e3 e4
        refine (c37 a3 a4 p3 p4 ys ds V G H _ _ (hy.below (btrans HB L.bel)) (hd.below (btrans HB L.bel)) hl3 hl4 hq).mono ?_
        rintro e wy ⟨rfl, hby⟩
        replace L := L.below hby
        clear hby
        obtain ⟨⟨_, _, _, u3, u4⟩, _, _, _, f3, f4⟩ := L.cells
        have hlx := L.lt
        go_wp2_with (at_builtin; refine wpList_append_lies _ rfl _ _ _ rfl (W0.heap.size + 1) 3 i0 (.int .i64 0) 1 8 Try.underlying24 hi hz0 hz1 hz2 rfl (by decide) (.slice ao2 (pick ex f j).length cp2) (pick ex f j).length ((pick ex f j).map (Value.int .i64)) rfl (by exact L.own2.alloc _) ⟨wy.heap.size, 0, none⟩ 1 1 [.int .i64 (f + j)] rfl rfl (by intro i u hj; match i, hj with | 0, hj => simp at hj; subst hj; simp [Addr.add]) (by intro u hu; simp at hu; subst hu; rfl) (by decide) (by unfold maxLen; omega) (by omega) (by simp; omega) (wy.heap.size + 1) (by simp) ?_; intro g cap w2 hown hgrow hat hlt2; obtain ⟨⟨y3, y4⟩, x3, x4⟩ := L.after (w2 := w2) (own_ge L.own2) hgrow)
        have L2 := L.push2 hown hgrow hat
        rw [← S2.out] at L2
        clear hown hgrow hat
        go_wp2
        go_roundw
        case rel => exact ⟨j + 1, ao1, cp1, some ⟨g, 0, none⟩, cap, by omega, by rw [day_next], by rw [S1.out]; exact L2⟩
        case measure => simp [intOf]; omega
      · have S1 := hide (pick_no sk f j (by rw [hsk]; simp [cw, cp, cq]))
        have S2 := hide (pick_no ex f j (by rw [hex]; simp [cw, cp, cq]))
        obtain ⟨⟨u0, u1, u2, u3, u4⟩, f0, f1, f2, f3, f4⟩ := L.cells
        obtain ⟨b0, b1, b2, b3, b4⟩ := XP.below L.bel
        obtain ⟨e0, e1, e2, e3, e4⟩ := XQ.below L.bel
        go_wp2_with (go_at_call 36; refine (c36 _ _ _).mono ?_; rintro e w' ⟨rfl, hw'⟩; obtain rfl := hw'.symm)
        clear u0 u1 u2 u3 u4 f0 f1 f2 f3 f4 b0 b1 b2 b3 b4 e0 e1 e2 e3 e4
        refine (c37 a1 a2 p1 p2 zs es W F T _ _ (hz.below (btrans HB L.bel)) (he.below (btrans HB L.bel)) hl1 hl2 hp).mono ?_
        rintro e wx ⟨rfl, hbx⟩
        replace L := L.below hbx
        clear hbx
        obtain ⟨e0, e1, e2, e3, e4⟩ := XQ.below L.bel
        go_wp2_with fail
        clear e0 e1 e2 e3 e4
        refine (c37 a3 a4 p3 p4 ys ds V G H _ _ (hy.below (btrans HB L.bel)) (hd.below (btrans HB L.bel)) hl3 hl4 hq).mono ?_
        rintro e wy ⟨rfl, hby⟩
        replace L := L.below hby
        clear hby
        go_wp2
        go_roundw
        case rel => exact ⟨j + 1, ao1, cp1, ao2, cp2, by omega, by rw [day_next], by rw [S1.out, S2.out]; exact L⟩
        case measure => simp [intOf]; omega
    · have hjn : j = (t + 1 - f).toNat := by omega
      have KE := hide (show keep20 wk f t (pick sk f (t + 1 - f).toNat) (pick ex f (t + 1 - f).toNat) = keep20 wk f t (pick sk f j) (pick ex f j) by rw [hjn])
      obtain ⟨⟨u0, u1, u2, u3, u4⟩, f0, f1, f2, f3, f4⟩ := L.cells
      obtain ⟨⟨r0, r1, r2, r3, r4⟩, g0, g1, g2, g3, g4⟩ := blk5 ((L.bel.block _ (by omega)).trans k3)
      have hgt : t < f + j := by omega
      clear hjn hf ht hwk hsk hex XP XQ k1 k2
      generalize pick sk f j = X at *
      generalize pick ex f j = Y at *
      by_cases h1 : 20 < X.length
      · have KF := hide (KE.out.trans (keep_no1 h1))
        go_wp2
        refine bodyPost_ret (v := .agg #[.int .i64 0, .int .i64 0, .int .i64 0, .slice none 0 0, .slice none 0 0]) (by simp [results, Try.results13, go_sem, r0, r1, r2, r3, r4]) rfl (by rw [KF.out]; exact ans_zero _ _ (below_set5 (by omega) (btrans HB L.bel)))
      · by_cases h2 : 20 < Y.length
        · have KF := hide (KE.out.trans (keep_no2 h2))
          go_wp2
          refine bodyPost_ret (v := .agg #[.int .i64 0, .int .i64 0, .int .i64 0, .slice none 0 0, .slice none 0 0]) (by simp [results, Try.results13, go_sem, r0, r1, r2, r3, r4]) rfl (by rw [KF.out]; exact ans_zero _ _ (below_set5 (by omega) (btrans HB L.bel)))
        · have KF := hide (KE.out.trans (keep_yes (by omega) (by omega)))
          go_wp2
          refine bodyPost_ret (v := .agg #[.int .i64 wk, .int .i64 f, .int .i64 t, .slice ao1 X.length cp1, .slice ao2 Y.length cp2]) (by simp [results, Try.results13, go_sem, r0, r1, r2, r3, r4]) rfl (by rw [KF.out]; exact L.ans HB (by omega) (by omega))
end Go.Proofs.Ytmchdclieejohaa
