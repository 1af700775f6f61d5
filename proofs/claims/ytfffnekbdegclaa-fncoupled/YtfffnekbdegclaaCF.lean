/- The library's Clone, Grow and Concat at units; the model's l15Join. -/
import Derived.Test.YtfffnekbdegclaaCE
namespace Go.Proofs.Ytfffnekbdegclaa
open Go.RowKit
theorem infoUs2 : ∃ i0, Try.prog.info? 34 = some i0 ∧ i0.zero = some (.agg #[.int .i64 0, .int .i64 0, .int .i64 0, .bool false]) ∧ i0.size = 4 ∧ i0.bytes = 32 := by
  obtain ⟨i0, hi, hz0, hz1, hz2⟩ := info_parts infoUs
  exact ⟨i0, hi, hz0, hz1, hz2⟩
/-- Nothing is put behind a row: it stays. -/
theorem append0 (a x : Option Addr) (m cap c : Nat) (ty : TypeId) (hm : m ≤ cap) (w : World) : (Builtin.append_ #[24, 24] ty #[.slice a m cap, .slice x 0 c]).run Try.prog w = .ok (.slice a m cap) w := by
  obtain ⟨i0, hi, hz0, hz1, hz2⟩ := info_parts infoUs
  cases a <;> cases x <;> simp [Builtin.append_, run_underlying Try.underlying24, sizeOf, typeInfo, hi, Builtin.lenOf, Builtin.firstCells, hm, storeCells, loadCells, loadCellsFrom]
theorem own_room {w : World} {base e sz n : Nat} {v : Value} {xs : List Value} (h : w.ownsRow base e sz v n xs) : ∃ a c, v = .slice a n c ∧ n ≤ c ∧ c ≤ maxLen ∧ (a = none → c = 0) ∧ (∀ x, a = some x → x.spot = none ∧ x.off = 0) := by
  rcases h.2 with ⟨rfl, h0⟩ | ⟨g, cap', cur, rfl, _, _, hn, hm, _⟩
  · exact ⟨none, 0, by rw [h0], by omega, by unfold maxLen; omega, fun _ => rfl, fun x hx => by cases hx⟩
  · exact ⟨_, _, rfl, hn, hm, fun h => by (cases h), fun x hx => by cases hx; exact ⟨rfl, rfl⟩⟩

set_option maxRecDepth 20000 in
set_option maxHeartbeats 800000 in
theorem cClone (a : Option Addr) (cap : Nat) (l : List UV) (w : World) (he : Us w a l) (ha : a = none → cap = 0) (hspot : ∀ x, a = some x → x.spot = none) (hl : l.length ≤ 1048576) :
    Calls Try.prog 47 #[.slice a l.length cap] w fun e w' => ∃ v, e = .returned v ∧
      w'.ownsRow w.heap.size 34 4 v l.length (flatUs l) ∧ Below w.heap.size w w' := by
  cases a with
  | none =>
    have h0 : l = [] := by
      rcases he with h | ⟨b, off, h, _⟩
      · exact h
      · cases h
    subst h0
    obtain rfl := ha rfl
    have hq : ∀ w, (binOp .eql 24 (.slice none 0 0) (.slice none 0 0)).run Try.prog w = .ok (.bool true) w := fun w => Go.Lib.run_eql_slice_nil w _ _ none 0 0 0 0 Try.underlying24
    go_enter Try.func47, Try.ntmps47
    go_wp2
    go_ret
    exact ⟨_, rfl, World.ownsRow_nil _ _ _ _, Below.refl _ _⟩
  | some x =>
    obtain ⟨b, off, spot⟩ := x
    obtain rfl : spot = none := hspot _ rfl
    obtain ⟨i0, hi, hz0, hz1, hz2⟩ := infoUs2
    have hq : ∀ w, (binOp .eql 24 (.slice (some ⟨b, off, none⟩) l.length cap) (.slice none 0 0)).run Try.prog w = .ok (.bool false) w := fun w => Go.Lib.run_eql_slice_nil w _ _ (some ⟨b, off, none⟩) l.length cap 0 0 Try.underlying24
    have hc := us_cells ((he.below (balloc w (.cells #[] 34))).flat b off rfl)
    go_enter Try.func47, Try.ntmps47
    go_wp2_with (at_builtin; refine wpList_append_own _ rfl _ _ 24 rfl w.heap.size 34 i0 (.agg #[.int .i64 0, .int .i64 0, .int .i64 0, .bool false]) 4 32 Try.underlying24 hi hz0 hz1 hz2 rfl (by decide) _ 0 [] rfl (World.ownsRow_made _ #[] 0 (Nat.le_refl _) (by omega) rfl) ⟨b, off, none⟩ l.length cap (flatUs l) rfl (flatUs_len l) hc flatUs_one ?c3 ?c4 ?c5 ?_)
    case c3 => unfold maxLen; omega
    case c4 => omega
    case c5 => simp
    intro v' w5 hown' hgrow _
    have hbel : Below w.heap.size w w5 := (balloc w _).grown hgrow (by simp) (fun j e => by simp [Value.ownBlock] at e; omega)
    clear hgrow
    go_wp2
    go_ret
    exact ⟨_, rfl, hown', hbel⟩

set_option maxRecDepth 100000 in
set_option maxHeartbeats 1600000 in
theorem cGrow (n : Nat) (w : World) (hn : n ≤ 1048576) :
    Calls Try.prog 61 #[.slice none 0 0, .int .i64 n] w fun e w' => ∃ v, e = .returned v ∧ w'.ownsRow w.heap.size 34 4 v 0 [] ∧ Below w.heap.size w w' := by
  obtain ⟨i0, hi, hz0, hz1, hz2⟩ := info_parts infoUs
  by_cases h0 : n = 0
  · subst h0
    go_enter Try.func61, Try.ntmps61
    go_wp2
    go_ret
    exact ⟨_, rfl, World.ownsRow_nil _ _ _ _, Below.refl _ _⟩
  · have h0' : (0 : Int) < (n : Int) := by omega
    have hr : ∀ ty, Hid _ := fun ty => hide (Go.Lib.run_append_nil_zeros (P := Try.prog) w 24 3 ty 34 i0 (.agg #[.int .i64 0, .int .i64 0, .int .i64 0, .bool false]) .i64 .i64 Try.underlying24 Try.underlying3 hi hz0 n (by omega) (by omega) (by omega) (by rw [hz2]; omega))
    go_enter Try.func61, Try.ntmps61
    go_wp2_with (at_builtin; refine Go.Lib.wpList_append_run _ rfl _ _ _ _ rfl _ _ rfl rfl _ _ (hr _).out ?_)
    go_ret
    have hcap : n ≤ grownCap w n 0 34 := grownCap_ge w n 0 34
    refine ⟨_, rfl, World.ownsRow_made w.drew _ (grownCap w n 0 34) (Nat.le_refl _) (grownCap_le_maxLen w n 0 34 (by unfold maxLen; omega)) ?_, btrans (Below.refl _ w).drew (balloc w.drew _)⟩
    rw [Array.size_append, size_zeroCells, size_zeroCells]
    simp
    omega

/-- What Concat has put together behind k of two lists. -/
def preU (xs ys : List UV) : Nat → List UV
  | 0 => []
  | 1 => xs
  | _ => xs ++ ys
set_option maxRecDepth 100000 in
set_option maxHeartbeats 3200000 in
theorem cConcat (g p1 p2 : Nat) (a1 a2 : Option Addr) (xs ys : List UV) (w : World) (h1 : Us w a1 xs) (h2 : Us w a2 ys) (hl1 : xs.length ≤ 60) (hl2 : ys.length ≤ 60)
    (hg0 : w.cell? ⟨g, 0, none⟩ = some (.slice a1 xs.length p1)) (hg1 : w.cell? ⟨g, 1, none⟩ = some (.slice a2 ys.length p2)) :
    Calls Try.prog 44 #[.slice (some ⟨g, 0, none⟩) 2 2] w fun e w' => ∃ v, e = .returned v ∧ w'.ownsRow w.heap.size 34 4 v (xs ++ ys).length (flatUs (xs ++ ys)) ∧ Below w.heap.size w w' := by
  obtain ⟨i0, hi, hz0, hz1, hz2⟩ := info_parts infoUs
  go_enter Try.func44, Try.ntmps44
  go_wp2
  go_loop [3, 5, 11] (fun s _ i => ∃ k : Nat, k ≤ 2 ∧ i = .int .i64 k ∧ s = .int .i64 (preU xs ys k).length) (fun _ _ i => 2 - (intOf i).toNat)
  case atStart => exact ⟨0, by omega, rfl, rfl⟩
  case round =>
    obtain ⟨k, hk, rfl, rfl⟩ := hrel
    have hk' : k = 0 ∨ k = 1 ∨ k = 2 := by omega
    rcases hk' with rfl | rfl | rfl
    · have e0 : (preU xs ys 0).length = 0 := rfl
      rw [e0]
      go_wp2
      go_round
      case rel => exact ⟨1, by omega, rfl, by simp [preU]⟩
      case measure => simp [intOf]
    · have e1 : (preU xs ys 1).length = xs.length := rfl
      rw [e1]
      go_wp2
      go_round
      case rel => exact ⟨2, by omega, rfl, by simp [preU]⟩
      case measure => simp [intOf]
    · have e1 : (preU xs ys 2).length = xs.length + ys.length := by simp [preU]
      rw [e1]
      go_wp2_with fail
      rw [← Int.natCast_add]
      refine (cGrow (xs.length + ys.length) w (by omega)).mono ?_
      rintro e w1 ⟨v, rfl, hown0, hb0⟩
      clear e1
      go_wp2
      generalize ((xs.length : Int) + (ys.length : Int)) = T
      go_loopw [6, 8, 27] (fun v _ i wr => ∃ k : Nat, k ≤ 2 ∧ i = .int .i64 k ∧ wr.ownsRow w.heap.size 34 4 v (preU xs ys k).length (flatUs (preU xs ys k)) ∧ Below w.heap.size w wr) (fun _ _ i _ => 2 - (intOf i).toNat)
      case atStart => exact ⟨0, by omega, rfl, hown0, hb0⟩
      case round =>
        obtain ⟨k, hk, rfl, hown, hb⟩ := hrel
        have g0 := ble hb hg0
        have g1 := ble hb hg1
        have hk' : k = 0 ∨ k = 1 ∨ k = 2 := by omega
        rcases hk' with rfl | rfl | rfl
        · by_cases hx : xs = []
          · subst hx
            obtain ⟨va, vc, rfl, hroom, _⟩ := own_room hown
            have H0 : Hid (wr.ownsRow w.heap.size 34 4 (.slice va 0 vc) 0 (flatUs (preU [] ys 1))) := hide hown
            have ha := fun (c : Nat) ty (w : World) => append0 va a1 0 vc c ty (by omega) w
            rw [show (preU [] ys 0).length = 0 from rfl]
            clear hown
            go_wp2_with (at_builtin; refine Go.Lib.wpList_append_run _ rfl _ _ _ _ rfl _ _ rfl rfl _ _ (ha _ _ _) ?_)
            go_roundw
            case rel => exact ⟨1, by omega, rfl, H0.out, hb⟩
            case measure => simp [intOf]
          rcases h1 with h | ⟨b1, o1, rfl, q1⟩
          · exact absurd h hx
          have G1 := us_cells ((FlatAt.of_us q1).below hb)
          have e1 : (preU xs ys 0).length = 0 := rfl
          go_wp2_with (at_builtin; refine wpList_append_own _ rfl _ _ _ rfl w.heap.size 34 i0 (.agg #[.int .i64 0, .int .i64 0, .int .i64 0, .bool false]) 4 32 Try.underlying24 hi hz0 hz1 hz2 rfl (by decide) u6 (preU xs ys 0).length (flatUs (preU xs ys 0)) rfl hown ⟨b1, o1, none⟩ xs.length p1 (flatUs xs) rfl (flatUs_len _) G1 flatUs_one (by unfold maxLen; omega) (by omega) hb.size ?_; intro v' w' hown' hgrow hiff)
          have hb' : Below w.heap.size w w' := hb.grown hgrow hb.size (own_ge hown)
          clear hgrow hiff hown
          go_roundw
          case rel => exact ⟨1, by omega, rfl, by simpa [preU, flatUs] using hown', hb'⟩
          case measure => simp [intOf]
        · by_cases hy : ys = []
          · subst hy
            obtain ⟨va, vc, rfl, hroom, _⟩ := own_room hown
            have H0 : Hid (wr.ownsRow w.heap.size 34 4 (.slice va xs.length vc) (preU xs [] 2).length (flatUs (preU xs [] 2))) := hide (by
              have e : preU xs [] 2 = preU xs [] 1 := by simp [preU]
              rw [e]; exact hown)
            have e1 : (preU xs [] 1).length = xs.length := rfl
            rw [e1] at hroom
            have ha := fun (c : Nat) ty (w : World) => append0 va a2 xs.length vc c ty hroom w
            rw [e1]
            clear hown
            go_wp2_with (at_builtin; refine Go.Lib.wpList_append_run _ rfl _ _ _ _ rfl _ _ rfl rfl _ _ (ha _ _ _) ?_)
            go_roundw
            case rel => exact ⟨2, by omega, rfl, H0.out, hb⟩
            case measure => simp [intOf]
          rcases h2 with h | ⟨b2, o2, rfl, q2⟩
          · exact absurd h hy
          have G2 := us_cells ((FlatAt.of_us q2).below hb)
          have e1 : (preU xs ys 1).length = xs.length := rfl
          go_wp2_with (at_builtin; refine wpList_append_own _ rfl _ _ _ rfl w.heap.size 34 i0 (.agg #[.int .i64 0, .int .i64 0, .int .i64 0, .bool false]) 4 32 Try.underlying24 hi hz0 hz1 hz2 rfl (by decide) u6 (preU xs ys 1).length (flatUs (preU xs ys 1)) rfl hown ⟨b2, o2, none⟩ ys.length p2 (flatUs ys) rfl (flatUs_len _) G2 flatUs_one (by unfold maxLen; omega) (by omega) hb.size ?_; intro v' w' hown' hgrow hiff)
          have hb' : Below w.heap.size w w' := hb.grown hgrow hb.size (own_ge hown)
          clear hgrow hiff hown
          go_roundw
          case rel => exact ⟨2, by omega, rfl, by simpa [preU, flatUs_app] using hown', hb'⟩
          case measure => simp [intOf]
        · obtain ⟨va, vc, rfl, _⟩ := own_room hown
          go_wp2
          go_ret
          exact ⟨_, rfl, hown, hb⟩

theorem flatUs_step {l : List UV} {k : Nat} (hk : k < l.length) : flatUs (l.take (k + 1)) = flatUs (l.take k) ++ [.int .i64 (l.getD k UV.zero).i, .int .i64 (l.getD k UV.zero).c, .int .i64 (l.getD k UV.zero).m, .bool (l.getD k UV.zero).b] := by
  have e : l.getD k UV.zero = l[k] := by simp [List.getD, hk]
  rw [List.take_succ_eq_append_getElem hk, e, flatUs_app]
  rfl

set_option maxRecDepth 20000 in
set_option maxHeartbeats 3200000 in
theorem cJoin (a1 a2 : Option Addr) (p1 p2 : Nat) (xs ys : List UV) (w : World) (h1 : Us w a1 xs) (h2 : Us w a2 ys) (hl1 : xs.length ≤ 1048576) (hl2 : ys.length ≤ 1048576) :
    Calls Try.prog 45 #[.slice a1 xs.length p1, .slice a2 ys.length p2] w fun e w' => ∃ v, e = .returned v ∧ w'.ownsRow w.heap.size 34 4 v (xs ++ ys).length (flatUs (xs ++ ys)) ∧ Below w.heap.size w w' := by
  obtain ⟨i0, hi, hz0, hz1, hz2⟩ := info_parts infoUs
  have O0 : (w.alloc (.cells #[] 34)).ownsRow w.heap.size 34 4 (.slice (some ⟨w.heap.size, 0, none⟩) 0 0) 0 (flatUs (xs.take 0)) := World.ownsRow_made w #[] 0 (Nat.le_refl _) (by unfold maxLen; omega) rfl
  have hb0 := balloc w (.cells #[] 34)
  go_enter Try.func45, Try.ntmps45
  go_wp2
  go_loopw [5, 6] (fun v i wr => ∃ k : Nat, k ≤ xs.length ∧ i = .int .i64 k ∧ wr.ownsRow w.heap.size 34 4 v k (flatUs (xs.take k)) ∧ Below w.heap.size w wr) (fun _ i _ => xs.length - (intOf i).toNat)
  case atStart => exact ⟨0, Nat.zero_le _, rfl, O0, hb0⟩
  case round =>
    obtain ⟨k, hk, rfl, ho, hb⟩ := hrel
    clear O0 hb0
    by_cases hlt : k < xs.length
    · rcases h1 with h | ⟨b1, o1, rfl, q1⟩
      · simp [h] at hlt
      obtain ⟨p0, p1', p2', p3⟩ := q1 k hlt
      replace p0 := ble hb p0
      replace p1' := ble hb p1'
      replace p2' := ble hb p2'
      replace p3 := ble hb p3
      obtain ⟨va, vc, rfl⟩ := own_form ho
      have S1 := hide (flatUs_step hlt)
      clear q1
      generalize xs.getD k UV.zero = y at *
      obtain ⟨yi, yc, ym, yb⟩ := y
      dsimp only at *
      have hN := one_block' wr (.cells #[.int .i64 yi, .int .i64 yc, .int .i64 ym, .bool yb] 34)
      have hb6 := balloc wr (.cells #[.int .i64 yi, .int .i64 yc, .int .i64 ym, .bool yb] 34)
      have ho6 := own_keep ho hb6
      have hbx := btrans hb hb6
      go_wp2_with (at_builtin; refine wpList_append_own _ rfl _ _ 24 rfl w.heap.size 34 i0 _ 4 32 Try.underlying24 hi hz0 hz1 hz2 rfl (by decide) _ _ _ rfl ho6 ⟨wr.heap.size, 0, none⟩ 1 1 [.int .i64 yi, .int .i64 yc, .int .i64 ym, .bool yb] rfl rfl ?c1 ?c2 ?c3 ?c4 ?c5 ?_)
      case c1 => exact World.news_of_block hN
      case c2 => intro u hu; simp at hu; rcases hu with rfl | rfl | rfl | rfl <;> rfl
      case c3 => unfold maxLen; omega
      case c4 => omega
      case c5 => exact hbx.size
      intro v2 w5 hown hgrow _
      have hb5 := hbx.grown hgrow hbx.size (own_from ho6 (Nat.le_refl _))
      rw [← S1.out] at hown
      clear hgrow hN ho6 hbx S1 hb6 ho
      go_wp2
      go_roundw
      case rel => exact ⟨k + 1, by omega, by go_num, hown, hb5⟩
      case measure => simp [intOf]; omega
    · obtain rfl : k = xs.length := by omega
      rw [List.take_length] at ho
      have O0 : wr.ownsRow w.heap.size 34 4 u5 (xs.length + 0) (flatUs (xs ++ ys.take 0)) := by simpa using ho
      generalize wr = wo at *
      clear ho h1
      go_wp2
      go_loopw [5, 7] (fun v i wr => ∃ k : Nat, k ≤ ys.length ∧ i = .int .i64 k ∧ wr.ownsRow w.heap.size 34 4 v (xs.length + k) (flatUs (xs ++ ys.take k)) ∧ Below w.heap.size w wr) (fun _ i _ => ys.length - (intOf i).toNat)
      case atStart => exact ⟨0, Nat.zero_le _, rfl, O0, hb⟩
      case round =>
        clear hb O0
        obtain ⟨k, hk, rfl, ho, hb⟩ := hrel
        by_cases hlt : k < ys.length
        · rcases h2 with h | ⟨b1, o1, rfl, q1⟩
          · simp [h] at hlt
          obtain ⟨p0, p1', p2', p3⟩ := q1 k hlt
          replace p0 := ble hb p0
          replace p1' := ble hb p1'
          replace p2' := ble hb p2'
          replace p3 := ble hb p3
          obtain ⟨va, vc, rfl⟩ := own_form ho
          have S1 := hide (show flatUs (xs ++ ys.take (k + 1)) = _ by rw [flatUs_app, flatUs_step hlt, ← List.append_assoc, ← flatUs_app])
          clear q1
          generalize ys.getD k UV.zero = y at *
          obtain ⟨yi, yc, ym, yb⟩ := y
          dsimp only at *
          have hN := one_block' wr (.cells #[.int .i64 yi, .int .i64 yc, .int .i64 ym, .bool yb] 34)
          have hb6 := balloc wr (.cells #[.int .i64 yi, .int .i64 yc, .int .i64 ym, .bool yb] 34)
          have ho6 := own_keep ho hb6
          have hbx := btrans hb hb6
          go_wp2_with (at_builtin; refine wpList_append_own _ rfl _ _ 24 rfl w.heap.size 34 i0 _ 4 32 Try.underlying24 hi hz0 hz1 hz2 rfl (by decide) _ _ _ rfl ho6 ⟨wr.heap.size, 0, none⟩ 1 1 [.int .i64 yi, .int .i64 yc, .int .i64 ym, .bool yb] rfl rfl ?c1 ?c2 ?c3 ?c4 ?c5 ?_)
          case c1 => exact World.news_of_block hN
          case c2 => intro u hu; simp at hu; rcases hu with rfl | rfl | rfl | rfl <;> rfl
          case c3 => unfold maxLen; omega
          case c4 => omega
          case c5 => exact hbx.size
          intro v2 w5 hown hgrow _
          have hb5 := hbx.grown hgrow hbx.size (own_from ho6 (Nat.le_refl _))
          rw [← S1.out] at hown
          clear hgrow hN ho6 hbx S1 hb6 ho
          go_wp2
          go_roundw
          case rel => exact ⟨k + 1, by omega, by go_num, hown, hb5⟩
          case measure => simp [intOf]; omega
        · obtain rfl : k = ys.length := by omega
          rw [List.take_length, ← List.length_append] at ho
          obtain ⟨va, vc, rfl⟩ := own_form ho
          clear h2
          go_wp2
          go_ret
          exact ⟨_, rfl, ho, hb⟩
end Go.Proofs.Ytfffnekbdegclaa
