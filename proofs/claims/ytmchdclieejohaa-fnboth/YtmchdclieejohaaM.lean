/- Days moved by a number, as the program does it; the week turned. -/
import Derived.Test.YtmchdclieejohaaL
namespace Go.Proofs.Ytmchdclieejohaa
open Go.RowKit

def moved (d : Int) (zs : List Int) : List Int := zs.map (· + d)
theorem moved_snoc (d : Int) (zs : List Int) (k : Nat) (h : k < zs.length) : moved d (zs.take (k + 1)) = moved d (zs.take k) ++ [zs[k] + d] := by
  rw [List.take_succ_eq_append_getElem h]; simp only [moved, List.map_append, List.map_cons, List.map_nil]
theorem moved_len (d : Int) (zs : List Int) : (moved d zs).length = zs.length := by simp [moved]

set_option maxHeartbeats 1600000 in
theorem c44 (a : Option Addr) (cap : Nat) (zs : List Int) (d : Int) (w : World) (hz : Ints w a zs) (hl : zs.length ≤ 1048576) (hd0 : -3650 ≤ d) (hd1 : d ≤ 3650) (hb : ∀ i, i < zs.length → 0 ≤ zs.getD i 0 ∧ zs.getD i 0 ≤ 3650) :
    Calls Try.prog 44 #[.slice a zs.length cap, .int .i64 d] w fun e w' => ∃ v, e = .returned v ∧ w'.ownsRow w.heap.size 3 1 v zs.length ((moved d zs).map (Value.int .i64)) ∧ (zs = [] → v = .slice none 0 0) ∧ Below w.heap.size w w' := by
  obtain ⟨i0, hi, hz0, hz1, hz2⟩ := info_parts info3
  go_enter Try.func44, Try.ntmps44
  go_wp2
  go_loopw [5, 7, 10] (fun v _ i wr => ∃ k : Nat, k ≤ zs.length ∧ i = .int .i64 k ∧ wr.ownsRow w.heap.size 3 1 v k ((moved d (zs.take k)).map (Value.int .i64)) ∧ (k = 0 → v = .slice none 0 0) ∧ Below w.heap.size w wr) (fun _ _ i _ => zs.length - (intOf i).toNat)
  case atStart => exact ⟨0, Nat.zero_le _, rfl, by simpa [moved] using World.ownsRow_nil _ _ _ _, fun _ => rfl, Below.refl _ _⟩
  case round =>
    obtain ⟨k, hk, rfl, hown, hnil, hbel⟩ := hrel
    by_cases hlt : k < zs.length
    · rcases hz with hz | ⟨b, off, rfl, hc⟩
      · simp [hz] at hlt
      have e0 : zs.getD k 0 = zs[k] := by simp [List.getD, hlt]
      have hck : wr.cell? ⟨b, off + k, none⟩ = some (.int .i64 zs[k]) := ((hbel.cell (cell_lt (hc k hlt))).trans (hc k hlt)).trans (by rw [e0])
      have hbk := hb k hlt
      rw [e0] at hbk
      obtain ⟨hb0, hb1⟩ := hbk
      have HM := hide (moved_snoc d zs k hlt)
      clear hc e0
      go_wp2_with (at_builtin; refine wpList_append_own _ rfl _ _ 24 rfl w.heap.size 3 i0 (.int .i64 0) 1 8 Try.underlying24 hi hz0 hz1 hz2 rfl (by decide) _ _ _ rfl (hown.alloc _) ⟨wr.heap.size, 0, none⟩ 1 1 [.int .i64 (zs[k] + d)] rfl rfl ?c1 ?c2 ?c3 ?c4 ?c5 ?_)
      case c1 =>
        intro j u hj
        match j, hj with
        | 0, hj => simp at hj; subst hj; simp [Addr.add]
      case c2 => intro u hu; simp at hu; subst hu; rfl
      case c3 => unfold maxLen; omega
      case c4 => omega
      case c5 => have := hbel.size; simp; omega
      intro v' w1 hown' hgrow _
      have hbel' : Below w.heap.size w w1 := (hbel.alloc hbel.size _).grown hgrow (by have := hbel.size; simp; omega) (fun j e => by
        rcases hown.2 with ⟨rfl, _⟩ | ⟨g, cap', cur, rfl, hg, _⟩
        · simp [Value.ownBlock] at e
        · simp [Value.ownBlock] at e; omega)
      have hown2 : w1.ownsRow w.heap.size 3 1 v' (k + 1) ((moved d (zs.take (k + 1))).map (Value.int .i64)) := by
        rw [HM.out, List.map_append]; exact hown'
      clear hown hown' hgrow hbel hck
      go_wp2
      go_roundw
      case rel => exact ⟨k + 1, by omega, by go_num, hown2, fun h => by omega, hbel'⟩
      case measure => simp [intOf]; omega
    · obtain rfl : k = zs.length := by omega
      have hown2 := hown
      rw [List.take_length] at hown2
      clear hown
      go_wp2
      go_ret
      exact ⟨_, rfl, hown2, fun h => hnil (by simp [h]), hbel⟩

/-- The week turned by m days: weekday by weekday, the first j of them. -/
def turnTo (W : Int) (m : Nat) : Nat → Int
  | 0 => 0
  | j + 1 => if wkB W (j : Int) then turnTo W m j + 2 ^ ((j + m) % 7) else turnTo W m j

theorem turn_bits : ∀ (W : Fin 128) (m : Fin 7), bits BinOp.and IntKind.i64 (bits BinOp.or IntKind.i64 (wrap64 ((W.val : Int) * 2 ^ m.val)) ((W.val : Int) / 2 ^ (7 - m.val))) 127 = turnTo (W.val : Int) m.val 7 := by decide +kernel
theorem turn_bits' (W : Int) (m : Nat) (hW0 : 0 ≤ W) (hW1 : W ≤ 127) (hm : m < 7) : bits BinOp.and IntKind.i64 (bits BinOp.or IntKind.i64 (wrap64 (W * 2 ^ m)) (W / 2 ^ (7 - m))) 127 = turnTo W m 7 := by
  obtain ⟨u, rfl⟩ := Int.eq_ofNat_of_zero_le hW0
  exact turn_bits ⟨u, by omega⟩ ⟨m, hm⟩
theorem turn_bd : ∀ (W : Fin 128) (m : Fin 7) (j : Fin 8), 0 ≤ turnTo (W.val : Int) m.val j.val ∧ turnTo (W.val : Int) m.val j.val ≤ 127 := by decide +kernel
theorem turn_bd' (W : Int) (m j : Nat) (hW0 : 0 ≤ W) (hW1 : W ≤ 127) (hm : m < 7) (hj : j ≤ 7) : 0 ≤ turnTo W m j ∧ turnTo W m j ≤ 127 := by
  obtain ⟨u, rfl⟩ := Int.eq_ofNat_of_zero_le hW0
  exact turn_bd ⟨u, by omega⟩ ⟨m, hm⟩ ⟨j, by omega⟩
/-- The week turned by n days. -/
def turnW (W n : Int) : Int := turnTo W (n % 7).toNat 7

set_option maxHeartbeats 800000 in
theorem c43 (W n : Int) (w : World) (hW0 : 0 ≤ W) (hW1 : W ≤ 127) : Calls Try.prog 43 #[.int .i64 W, .int .i64 n] w fun e w' => e = .returned (.int .i64 (turnW W n)) ∧ ∃ q, w' = w.drewN q := by
  obtain ⟨m, hm, h0, h1⟩ : ∃ m : Nat, n % 7 = m ∧ 0 ≤ m ∧ m ≤ 6 := ⟨(n % 7).toNat, by omega, by omega, by omega⟩
  have R := hide (show bits BinOp.and IntKind.i64 (bits BinOp.or IntKind.i64 (wrap64 (W * 2 ^ m)) (W / 2 ^ (7 - m))) 127 = turnW W n by
    rw [turn_bits' W m hW0 hW1 (by omega)]; unfold turnW; rw [hm]; rfl)
  go_enter Try.func43, Try.ntmps43
  go_wp2_with (go_at_call 57; refine (c57 _ _).mono ?_; rintro e w' ⟨rfl, rfl⟩)
  go_quiet (fail)
  go_wp2
  go_ret
  exact ⟨ret_int R.out, _, rfl⟩
end Go.Proofs.Ytmchdclieejohaa
