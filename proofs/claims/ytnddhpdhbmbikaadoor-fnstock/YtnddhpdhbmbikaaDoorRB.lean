/- What is read of a text: the class of a unit; whether a sign is a digit. -/
import Derived.Test.YtnddhpdhbmbikaaDoorRA
namespace Go.Proofs.YtnddhpdhbmbikaaDoor
open Go.RowKit
def classO (b : UInt8) : Option Nat := if 65 ≤ b.toNat ∧ b.toNat ≤ 73 then some (b.toNat - 64) else none
theorem ixb (b : UInt8) : Lib.indexByte [65, 66, 67, 68, 69, 70, 71, 72, 73] b = (if 65 ≤ b.toNat ∧ b.toNat ≤ 73 then (b.toNat : Int) - 65 else -1) := by
  have h : ∀ n : Fin 256, Lib.indexByte [65, 66, 67, 68, 69, 70, 71, 72, 73] (UInt8.ofNat n.val) = (if 65 ≤ n.val ∧ n.val ≤ 73 then (n.val : Int) - 65 else -1) := by decide +kernel
  have := h ⟨b.toNat, UInt8.toNat_lt b⟩
  simpa using this
set_option maxHeartbeats 800000 in
theorem cClass (g k : Nat) (l : List UInt8) (w : World) (T : TypeId) (u : Value) (hv : w.cell? ⟨0, 0, none⟩ = some (.iface T u)) (h0 : 0 < g) (hg : Sg w g k l) (hk : k ≤ l.length) (hm : l.length ≤ 1048576) :
    Calls Tryd.prog 59 #[.pointer (some ⟨g, 0, none⟩)] w fun e w' => AnsM (.int .i64 0) ((classO (nx l k)).map fun n => .int .i64 n) (.iface T u) e ∧ Sg w' g (nk l k) l ∧ Rd g w w' := by
  have C := cNext g k l w hg hk hm
  have CI := fun w => Tryd.strings_IndexByte ⟨#[65, 66, 67, 68, 69, 70, 71, 72, 73]⟩ ((nx l k).toNat : Int) w
  have eb : ((nx l k).toNat : Int).toNat.toUInt8 = nx l k := by simp
  rw [eb, show (⟨#[65, 66, 67, 68, 69, 70, 71, 72, 73]⟩ : ByteArray).data.toList = [65, 66, 67, 68, 69, 70, 71, 72, 73] from rfl, ixb] at CI
  clear eb
  generalize nx l k = b at *
  obtain ⟨O, hO⟩ : ∃ O, (classO b).map (fun n => Value.int .i64 (n : Int)) = O := ⟨_, rfl⟩
  rw [hO]
  replace hO := hide hO
  by_cases h1 : 65 ≤ b.toNat ∧ b.toNat ≤ 73
  · have hS := hide (show O = some (.int .i64 ((b.toNat : Int) - 65 + 1)) by
      rw [← hO.out, classO, if_pos h1]
      show some (Value.int .i64 ((b.toNat - 64 : Nat) : Int)) = _
      have e : ((b.toNat - 64 : Nat) : Int) = (b.toNat : Int) - 65 + 1 := by omega
      rw [e])
    rw [if_pos h1] at CI
    have p0 : ¬ ((b.toNat : Int) - 65 < 0) := by omega
    have wr : IntKind.i64.wrap ((b.toNat : Int) - 65 + 1) = (b.toNat : Int) - 65 + 1 := wrap_in _ (by omega) (by omega)
    clear h1 hO
    generalize (b.toNat : Int) = B at *
    obtain ⟨D, hD⟩ : ∃ D, B - 65 = D := ⟨_, rfl⟩
    rw [hD] at CI p0 wr hS
    clear hD
    go_enter Tryd.func59, Tryd.ntmps59
    go_wp2_with fail
    refine C.mono ?_
    rintro e w1 ⟨rfl, hg1, hR⟩
    go_wp2_with fail
    refine (CI _).mono ?_
    rintro e w2 ⟨rfl, hw⟩
    subst w2
    go_wp2
    go_ret2
    exact ⟨.inl ⟨_, hS.out, rfl⟩, hg1, hR⟩
  · have hN := hide (show O = none by rw [← hO.out, classO, if_neg h1]; rfl)
    rw [if_neg h1] at CI
    clear h1 hO
    generalize (b.toNat : Int) = B at *
    go_enter Tryd.func59, Tryd.ntmps59
    go_wp2_with fail
    refine C.mono ?_
    rintro e w1 ⟨rfl, hg1, hR⟩
    have hv1 := hR.cell0 h0 hv
    go_wp2_with fail
    refine (CI _).mono ?_
    rintro e w2 ⟨rfl, hw⟩
    subst w2
    go_wp2_with fail
    go_region_held3 (fun w' => w'.cell? ⟨0, 0, none⟩ = some (.iface T u)) (exact hv1) (fail)
    go_wp2
    go_ret2
    exact ⟨.inr ⟨hN.out, _, rfl⟩, hg1, hR.trans (Rd.of (below_drewN _ _) hg1.lt)⟩
/-- A digit. -/
def digB (b : UInt8) : Bool := decide (48 ≤ b.toNat) && decide (b.toNat ≤ 57)
set_option maxHeartbeats 800000 in
theorem cDigit (r : Int) (w : World) :
    Calls Tryd.prog 68 #[.int .i32 r] w fun e w' => e = .returned (.bool (decide (48 ≤ r) && decide (r ≤ 57))) ∧ w' = w := by
  by_cases h1 : 48 ≤ r
  · go_enter Tryd.func68, Tryd.ntmps68
    go_wp2
    go_ret
    exact ⟨ret_bool (by simp [h1]), rfl⟩
  · go_enter Tryd.func68, Tryd.ntmps68
    go_wp2
    go_ret
    exact ⟨ret_bool (by simp; omega), rfl⟩
end Go.Proofs.YtnddhpdhbmbikaaDoor
