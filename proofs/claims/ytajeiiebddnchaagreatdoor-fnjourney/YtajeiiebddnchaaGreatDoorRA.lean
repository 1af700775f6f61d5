/- The model's reach: for each node the least minute at which one is there. -/
import Derived.Test.YtajeiiebddnchaaGreatDoorLR
import Derived.Test.YtajeiiebddnchaaGreatDoorB
import Derived.Deep.AppendLies
import Derived.Deep.RegionLaw
import Derived.Deep.RegionHeld3
namespace Go.Proofs.YtajeiiebddnchaaGreatDoor
open Go.RowKit

set_option maxHeartbeats 1600000 in
theorem cCopyInts (a : Option Addr) (cap : Nat) (zs : List Int) (w : World) (hz : Ints w a zs) (hl : zs.length ≤ 1048576) :
    Calls Tryz.prog 38 #[.slice a zs.length cap] w fun e w' => ∃ v, e = .returned v ∧ w'.ownsRow w.heap.size 3 1 v zs.length (zs.map (.int .i64)) ∧ Below w.heap.size w w' := by
  obtain ⟨i0, hi, hz0, hz1, hz2⟩ := info_parts infoInts
  go_enter Tryz.func38, Tryz.ntmps38
  go_wp2
  go_loopw [3, 4] (fun o i wr => ∃ k : Nat, k ≤ zs.length ∧ i = .int .i64 k ∧ wr.ownsRow w.heap.size 3 1 o k ((zs.take k).map (.int .i64)) ∧ Below w.heap.size w wr) (fun _ i _ => zs.length - (intOf i).toNat)
  case atStart => exact ⟨0, Nat.zero_le _, rfl, by simpa using World.ownsRow_made w #[] 0 (Nat.le_refl _) (by omega) rfl, balloc _ _⟩
  case round =>
    obtain ⟨k, hk, rfl, hown, hb⟩ := hrel
    by_cases hlt : k < zs.length
    · rcases hz with h | ⟨b, off, rfl, hc⟩
      · simp [h] at hlt
      have q0 := ble hb (hc k hlt)
      have e0 : zs.getD k 0 = zs[k] := by simp [List.getD, hlt]
      rw [e0] at q0
      have hst := hide (List.take_succ_eq_append_getElem hlt)
      generalize zs[k] = y at *
      have hsz := hb.size
      clear hc e0
      go_wp2_with (at_builtin; refine wpList_append_own _ rfl _ _ 55 rfl w.heap.size 3 i0 (.int .i64 0) 1 8 Tryz.underlying55 hi hz0 hz1 hz2 rfl (by decide) _ _ _ rfl (hown.alloc _) ⟨wr.heap.size, 0, none⟩ 1 1 [.int .i64 y] rfl rfl ?c1 ?c2 ?c3 ?c4 ?c5 ?_)
      case c1 =>
        intro j u hj
        match j, hj with
        | 0, hj => simp at hj; subst hj; simp [Addr.add]
      case c2 => intro u hu; simp at hu; subst hu; rfl
      case c3 => unfold maxLen; omega
      case c4 => omega
      case c5 => simp; omega
      intro v' w5 hown' hgrow _
      have hfrom := own_from hown (Nat.le_refl _)
      have hbel' : Below w.heap.size w w5 := (hb.alloc hsz _).grown hgrow (by simp; omega) (fun j e => by have := hfrom j e; omega)
      have hown2 : w5.ownsRow w.heap.size 3 1 v' (k + 1) ((zs.take (k + 1)).map (.int .i64)) := by
        rw [hst.out, List.map_append, List.map_take]; exact hown'
      clear hown hown' hgrow hb hfrom
      go_wp2
      go_roundw
      case rel => exact ⟨k + 1, by omega, by go_num, hown2, hbel'⟩
      case measure => simp [intOf]; omega
    · obtain rfl : k = zs.length := by omega
      rw [List.take_length] at hown
      clear hz
      go_wp2
      go_ret
      exact ⟨_, rfl, hown, hb⟩

/-- A row of thirty numbers at a block. -/
def Row30 (w : World) (g c : Nat) (L : List Int) : Prop := w.ownsRow g 3 1 (.slice (some ⟨g, 0, none⟩) 30 c) 30 (L.map (.int .i64))
theorem row30_of {w : World} {B : Nat} {v : Value} {L : List Int} (h : w.ownsRow B 3 1 v 30 (L.map (.int .i64))) : ∃ g c, v = .slice (some ⟨g, 0, none⟩) 30 c ∧ B ≤ g ∧ Row30 w g c L ∧ L.length = 30 := by
  have hl := h.1
  simp at hl
  rcases h.2 with ⟨_, h0⟩ | ⟨g, c, cur, rfl, hg, r⟩
  · omega
  · exact ⟨g, c, rfl, hg, ⟨h.1, .inr ⟨g, c, cur, rfl, Nat.le_refl _, r⟩⟩, hl⟩
theorem Row30.lt {w : World} {g c : Nat} {L : List Int} (h : Row30 w g c L) : g < w.heap.size := owns_lt h
theorem Row30.len {w : World} {g c : Nat} {L : List Int} (h : Row30 w g c L) : L.length = 30 := by have := h.1; simpa using this
theorem Row30.cell {w : World} {g c : Nat} {L : List Int} (h : Row30 w g c L) {j : Nat} (hj : j < 30) : w.cell? ⟨g, j, none⟩ = some (.int .i64 (L.getD j 0)) := by
  have hl := h.len
  rw [World.ownsRow.cellAt h j (by omega)]
  simp [List.getD, show j < L.length by omega]
theorem Row30.below {w w' : World} {g c : Nat} {L : List Int} (h : Row30 w g c L) (hb : Below w.heap.size w w') : Row30 w' g c L := own_keep h hb
theorem Row30.set {w : World} {g c : Nat} {L : List Int} (h : Row30 w g c L) (j : Nat) (x : Int) : Row30 (w.setCell ⟨g, j, none⟩ (.int .i64 x)) g c (L.set j x) := by
  have := (World.ownsRow.stored h j (.int .i64 x)).1
  unfold Row30
  rw [List.map_set]
  exact this
theorem Row30.far {w : World} {g c b j : Nat} {u : Value} {L : List Int} (h : Row30 w g c L) (hne : g ≠ b) : Row30 (w.setCell ⟨b, j, none⟩ u) g c L :=
  own_set h (fun k hk e => by simp [Value.ownBlock] at hk; omega)
theorem Row30.own {w : World} {g c B : Nat} {L : List Int} (h : Row30 w g c L) (hB : B ≤ g) : w.ownsRow B 3 1 (.slice (some ⟨g, 0, none⟩) 30 c) 30 (L.map (.int .i64)) := own_base h hB
theorem Row30.frozen {w : World} {g c : Nat} {L : List Int} (h : Row30 w g c L) (j : Nat) : w.frozen? ⟨g, j, none⟩ = false := World.ownsRow.frozenAt h j
end Go.Proofs.YtajeiiebddnchaaGreatDoor
