/- The library's Clone, Grow and Concat at units; the model's l15Join. -/
import Derived.Test.YtnddhpdhbmbikaaDoorCE
namespace Go.Proofs.YtnddhpdhbmbikaaDoor
open Go.RowKit
theorem infoUs2 : ∃ i0, Tryd.prog.info? 34 = some i0 ∧ i0.zero = some (.agg #[.int .i64 0, .int .i64 0, .int .i64 0, .bool false]) ∧ i0.size = 4 ∧ i0.bytes = 32 := by
  obtain ⟨i0, hi, hz0, hz1, hz2⟩ := info_parts infoUs
  exact ⟨i0, hi, hz0, hz1, hz2⟩
/-- Nothing is put behind a row: it stays. -/
theorem append0 (a x : Option Addr) (m cap c : Nat) (ty : TypeId) (hm : m ≤ cap) (w : World) : (Builtin.append_ #[24, 24] ty #[.slice a m cap, .slice x 0 c]).run Tryd.prog w = .ok (.slice a m cap) w := by
  obtain ⟨i0, hi, hz0, hz1, hz2⟩ := info_parts infoUs
  cases a <;> cases x <;> simp [Builtin.append_, run_underlying Tryd.underlying24, sizeOf, typeInfo, hi, Builtin.lenOf, Builtin.firstCells, hm, storeCells, loadCells, loadCellsFrom]
theorem own_room {w : World} {base e sz n : Nat} {v : Value} {xs : List Value} (h : w.ownsRow base e sz v n xs) : ∃ a c, v = .slice a n c ∧ n ≤ c ∧ c ≤ maxLen ∧ (a = none → c = 0) ∧ (∀ x, a = some x → x.spot = none ∧ x.off = 0) := by
  rcases h.2 with ⟨rfl, h0⟩ | ⟨g, cap', cur, rfl, _, _, hn, hm, _⟩
  · exact ⟨none, 0, by rw [h0], by omega, by unfold maxLen; omega, fun _ => rfl, fun x hx => by cases hx⟩
  · exact ⟨_, _, rfl, hn, hm, fun h => by (cases h), fun x hx => by cases hx; exact ⟨rfl, rfl⟩⟩

set_option maxRecDepth 20000 in
set_option maxHeartbeats 800000 in
theorem cClone (a : Option Addr) (cap : Nat) (l : List UV) (w : World) (he : Us w a l) (ha : a = none → cap = 0) (hspot : ∀ x, a = some x → x.spot = none) (hl : l.length ≤ 1048576) :
    Calls Tryd.prog 27 #[.slice a l.length cap] w fun e w' => ∃ v, e = .returned v ∧
      w'.ownsRow w.heap.size 34 4 v l.length (flatUs l) ∧ Below w.heap.size w w' := by
  cases a with
  | none =>
    have h0 : l = [] := by
      rcases he with h | ⟨b, off, h, _⟩
      · exact h
      · cases h
    subst h0
    obtain rfl := ha rfl
    have hq : ∀ w, (binOp .eql 24 (.slice none 0 0) (.slice none 0 0)).run Tryd.prog w = .ok (.bool true) w := fun w => Go.Lib.run_eql_slice_nil w _ _ none 0 0 0 0 Tryd.underlying24
    go_enter Tryd.func27, Tryd.ntmps27
    go_wp2
    go_ret
    exact ⟨_, rfl, World.ownsRow_nil _ _ _ _, Below.refl _ _⟩
  | some x =>
    obtain ⟨b, off, spot⟩ := x
    obtain rfl : spot = none := hspot _ rfl
    obtain ⟨i0, hi, hz0, hz1, hz2⟩ := infoUs2
    have hq : ∀ w, (binOp .eql 24 (.slice (some ⟨b, off, none⟩) l.length cap) (.slice none 0 0)).run Tryd.prog w = .ok (.bool false) w := fun w => Go.Lib.run_eql_slice_nil w _ _ (some ⟨b, off, none⟩) l.length cap 0 0 Tryd.underlying24
    have hc := us_cells ((he.below (balloc w (.cells #[] 34))).flat b off rfl)
    go_enter Tryd.func27, Tryd.ntmps27
    go_wp2_with (at_builtin; refine wpList_append_own _ rfl _ _ 24 rfl w.heap.size 34 i0 (.agg #[.int .i64 0, .int .i64 0, .int .i64 0, .bool false]) 4 32 Tryd.underlying24 hi hz0 hz1 hz2 rfl (by decide) _ 0 [] rfl (World.ownsRow_made _ #[] 0 (Nat.le_refl _) (by omega) rfl) ⟨b, off, none⟩ l.length cap (flatUs l) rfl (flatUs_len l) hc flatUs_one ?c3 ?c4 ?c5 ?_)
    case c3 => unfold maxLen; omega
    case c4 => omega
    case c5 => simp
    intro v' w5 hown' hgrow _
    have hbel : Below w.heap.size w w5 := (balloc w _).grown hgrow (by simp) (fun j e => by simp [Value.ownBlock] at e; omega)
    clear hgrow
    go_wp2
    go_ret
    exact ⟨_, rfl, hown', hbel⟩

/-- What Concat has put together behind k of two lists. -/
def preU (xs ys : List UV) : Nat → List UV
  | 0 => []
  | 1 => xs
  | _ => xs ++ ys
theorem flatUs_step {l : List UV} {k : Nat} (hk : k < l.length) : flatUs (l.take (k + 1)) = flatUs (l.take k) ++ [.int .i64 (l.getD k UV.zero).i, .int .i64 (l.getD k UV.zero).c, .int .i64 (l.getD k UV.zero).m, .bool (l.getD k UV.zero).b] := by
  have e : l.getD k UV.zero = l[k] := by simp [List.getD, hk]
  rw [List.take_succ_eq_append_getElem hk, e, flatUs_app]
  rfl

end Go.Proofs.YtnddhpdhbmbikaaDoor
