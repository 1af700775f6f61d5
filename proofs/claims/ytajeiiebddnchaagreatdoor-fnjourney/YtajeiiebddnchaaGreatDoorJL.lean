/- Legs that are right: of the program. -/
import Derived.Test.YtajeiiebddnchaaGreatDoorSD
import Derived.Test.YtajeiiebddnchaaGreatDoorLA
namespace Go.Proofs.YtajeiiebddnchaaGreatDoor
open Go.RowKit

/-- One leg that is right: a trip of the list, and two of its calls in order. -/
def LegG (ts : List TripV) (e : LegV) : Prop := (0 ≤ e.t ∧ e.t ≤ (ts.length : Int) - 1) ∧ 0 ≤ e.o ∧ e.o < e.f ∧ e.f < (ncA ts e.t.toNat : Int)
/-- One leg behind another. -/
def JoinG (ts : List TripV) (ch : Int) (p e : LegV) : Prop := (hcA ts e.t.toNat e.o.toNat).n = (hcA ts p.t.toNat p.f.toNat).n ∧ (hcA ts p.t.toNat p.f.toNat).a + ch ≤ (hcA ts e.t.toNat e.o.toNat).d
def LegsP (ts : List TripV) (es : List LegV) (ch : Int) : Prop :=
  Table ts ∧ inB ch 0 60 = true ∧ es.length ≤ 5 ∧ (∀ i, i < es.length → LegG ts (es.getD i LegV.zero)) ∧ ∀ i, i + 1 < es.length → JoinG ts ch (es.getD i LegV.zero) (es.getD (i + 1) LegV.zero)

set_option maxRecDepth 20000 in
set_option maxHeartbeats 1600000 in
theorem cLegOk (a : Option Addr) (cap : Nat) (ts : List TripV) (e : LegV) (w : World) (hz : Trips w a ts) (hl : ts.length ≤ 24) :
    Calls Tryz.prog 25 #[.slice a ts.length cap, e.val] w (AnsIff w (LegG ts e)) := by
  have hE := hide (Iff.refl (LegG ts e))
  obtain ⟨t, o, f⟩ := e
  unfold LegV.val
  have hG : Hid (LegG ts ⟨t, o, f⟩ ↔ ((0 ≤ t ∧ t ≤ (ts.length : Int) - 1) ∧ 0 ≤ o ∧ o < f ∧ f < (ncA ts t.toNat : Int))) := hide Iff.rfl
  have hb := balloc w (.cells #[.int .i64 t, .int .i64 o, .int .i64 f] 38)
  have C1 := fun V => cWithin t 0 ((ts.length : Int) - 1) V
  have hw1 : IntKind.i64.wrap ((ts.length : Int) - 1) = (ts.length : Int) - 1 := wrap_in _ (by omega) (by omega)
  clear hE
  dsimp only
  cases hin : inB t 0 ((ts.length : Int) - 1)
  · have hF : Hid (¬ LegG ts ⟨t, o, f⟩) := hide (fun q => by have := inB_ff hin; have := (hG.out.1 q).1; omega)
    rw [hin] at C1
    clear hG
    go_enter Tryz.func25, Tryz.ntmps25
    go_wp2_with fail
    go_quiet (first | (go_at_call 43; with_reducible refine Calls.quiet_of_same (C1 _)))
    go_wp2
    go_ret
    exact AnsIff.no hF.out (bdraw hb _)
  rw [hin] at C1
  obtain ⟨h0, h1⟩ := inB_true hin
  obtain ⟨T, rfl⟩ : ∃ T : Nat, t = T := ⟨t.toNat, by omega⟩
  have hT : T < ts.length := by omega
  have hT' : (T : Int) < (ts.length : Int) := by omega
  have hT0 : (0 : Int) ≤ (T : Int) := by omega
  rw [show ((T : Int)).toNat = T from rfl] at hG
  by_cases ho : 0 ≤ o
  rotate_left
  · have hF : Hid (¬ LegG ts ⟨T, o, f⟩) := hide (fun q => by have := (hG.out.1 q).2; omega)
    have ho' : decide (0 ≤ o) = false := decide_eq_false ho
    clear hG
    go_enter Tryz.func25, Tryz.ntmps25
    go_wp2_with fail
    go_quiet (first | (go_at_call 43; with_reducible refine Calls.quiet_of_same (C1 _)))
    go_wp2
    go_ret
    exact AnsIff.no hF.out (bdraw hb _)
  have ho' : decide (0 ≤ o) = true := decide_eq_true ho
  by_cases hf : o < f
  rotate_left
  · have hF : Hid (¬ LegG ts ⟨T, o, f⟩) := hide (fun q => by have := (hG.out.1 q).2; omega)
    have hf' : decide (o < f) = false := decide_eq_false hf
    clear hG
    go_enter Tryz.func25, Tryz.ntmps25
    go_wp2_with fail
    go_quiet (first | (go_at_call 43; with_reducible refine Calls.quiet_of_same (C1 _)))
    go_wp2
    go_ret
    exact AnsIff.no hF.out (bdraw hb _)
  have hf' : decide (o < f) = true := decide_eq_true hf
  obtain ⟨b, off, n, cn, rfl, -, c2, -, -⟩ := hz.at hT
  have c2' : w.cell? ⟨b, off + T * 2 + 1, none⟩ = some (.slice n (ncA ts T) cn) := c2
  have hbl := cell_lt c2'
  have hG2 : Hid (LegG ts ⟨T, o, f⟩ ↔ f < (ncA ts T : Int)) := hide ⟨fun q => (hG.out.1 q).2.2.2, fun q => hG.out.2 ⟨⟨h0, h1⟩, ho, hf, q⟩⟩
  clear c2 hG hz
  generalize ncA ts T = nc at *
  by_cases hn : f < (nc : Int)
  · have hF := hide (hG2.out.2 hn)
    have hn' : decide (f < (nc : Int)) = true := decide_eq_true hn
    clear hG2
    go_enter Tryz.func25, Tryz.ntmps25
    go_wp2_with fail
    go_quiet (first | (go_at_call 43; with_reducible refine Calls.quiet_of_same (C1 _)))
    go_wp2
    go_ret
    exact AnsIff.yes hF.out (bdraw hb _)
  · have hF : Hid (¬ LegG ts ⟨T, o, f⟩) := hide (fun q => hn (hG2.out.1 q))
    have hn' : decide (f < (nc : Int)) = false := decide_eq_false hn
    clear hG2
    go_enter Tryz.func25, Tryz.ntmps25
    go_wp2_with fail
    go_quiet (first | (go_at_call 43; with_reducible refine Calls.quiet_of_same (C1 _)))
    go_wp2
    go_ret
    exact AnsIff.no hF.out (bdraw hb _)

set_option maxHeartbeats 800000 in
theorem cLegOk1 (a : Option Addr) (bl cap : Nat) (ts : List TripV) (e : LegV) (w : World) (hz : Trips w a ts) (hl : ts.length ≤ 24) (hc : w.cell? ⟨bl, 0, none⟩ = some (.slice a ts.length cap)) :
    Calls Tryz.prog 24 #[e.val, .pointer (some ⟨bl, 0, none⟩)] w (AnsIff w (LegG ts e)) := by
  have CL := fun w' (h : Below w.heap.size w w') => cLegOk a cap ts e w' (hz.below h) hl
  obtain ⟨t, o, f⟩ := e
  unfold LegV.val at CL ⊢
  have hb := balloc w (.cells #[.int .i64 t, .int .i64 o, .int .i64 f] 38)
  have hbl := cell_lt hc
  dsimp only at *
  go_enter Tryz.func24, Tryz.ntmps24
  go_wp2_with fail
  refine (CL _ hb).mono ?_
  rintro e w1 ⟨r, rfl, hr, hb1⟩
  have HB := btrans hb hb1
  replace hr := hide hr
  clear CL hb hb1
  go_wp2
  go_ret
  exact ⟨r, rfl, hr.out, HB⟩

set_option maxHeartbeats 1600000 in
theorem cAllLegs (a : Option Addr) (bl cap : Nat) (ts : List TripV) (la : Option Addr) (lc : Nat) (es : List LegV) (w : World) (hz : Trips w a ts) (hl : ts.length ≤ 24) (hc : w.cell? ⟨bl, 0, none⟩ = some (.slice a ts.length cap)) (he : Legs w la es) (h5 : es.length ≤ 5) :
    Calls Tryz.prog 23 #[.slice la es.length lc, .func (.func 24) #[] #[.pointer (some ⟨bl, 0, none⟩)]] w (AnsIff w (∀ i, i < es.length → LegG ts (es.getD i LegV.zero))) := by
  go_enter Tryz.func23, Tryz.ntmps23
  go_wp2
  go_loopw [9] (fun i wr => ∃ k : Nat, k ≤ es.length ∧ i = .int .i64 k ∧ Hid (∀ i, i < k → LegG ts (es.getD i LegV.zero)) ∧ Below w.heap.size w wr) (fun i _ => es.length - (intOf i).toNat)
  case atStart => exact ⟨0, Nat.zero_le _, rfl, hide (fun i h => by omega), Below.refl _ _⟩
  case round =>
    obtain ⟨k, hk, rfl, hI, hb⟩ := hrel
    by_cases hlt : k < es.length
    · have hlt' : (k : Int) < (es.length : Int) := by omega
      rcases he with h | ⟨b, off, rfl, hcs⟩
      · simp [h] at hlt
      obtain ⟨q0, q1, q2⟩ := hcs k hlt
      replace q0 := ble hb q0
      replace q1 := ble hb q1
      replace q2 := ble hb q2
      have hN : Hid (¬ LegG ts (es.getD k LegV.zero) → ¬ ∀ i, i < es.length → LegG ts (es.getD i LegV.zero)) := hide (fun h q => h (q k hlt))
      have hY : Hid (LegG ts (es.getD k LegV.zero) → ∀ i, i < k + 1 → LegG ts (es.getD i LegV.zero)) := hide (fun h i hi => by
        by_cases e : i = k
        · subst e; exact h
        · exact hI.out i (by omega))
      have CL := fun w' (h : Below wr.heap.size wr w') => cLegOk1 a bl cap ts (es.getD k LegV.zero) w' (hz.below (btrans hb h)) hl (ble (btrans hb h) hc)
      clear hcs hI
      generalize es.getD k LegV.zero = y at *
      obtain ⟨t, o, f⟩ := y
      unfold LegV.val at CL
      dsimp only at *
      have hba := balloc wr (.cells #[.int .i64 t, .int .i64 o, .int .i64 f] 38)
      have hbs := cell_lt q0
      go_wp2_with fail
      refine (CL _ hba).mono ?_
      rintro e w1 ⟨r, rfl, hr, hb1⟩
      have HB := btrans (btrans hb hba) hb1
      clear CL hba hb1 hb
      cases r
      · have hF : Hid (¬ ∀ i, i < es.length → LegG ts (es.getD i LegV.zero)) := hide (hN.out (fun q => absurd (hr.2 q) (by decide)))
        clear hN hY hr
        go_wp2
        go_ret
        exact AnsIff.no hF.out HB
      · have hF := hide (hY.out (hr.1 rfl))
        clear hN hY hr
        go_wp2
        go_roundw
        case rel => exact ⟨k + 1, by omega, by go_num, hF, HB⟩
        case measure => simp [intOf]; omega
    · have hlt' : ¬ (k : Int) < (es.length : Int) := by omega
      obtain rfl : k = es.length := by omega
      clear he
      go_wp2
      go_ret
      exact AnsIff.yes hI.out hb
end Go.Proofs.YtajeiiebddnchaaGreatDoor
