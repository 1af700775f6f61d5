/- The front as a heap.Interface: which methods are meant. -/
import Derived.Test.YtdjambejppanoaaHM
namespace Go.Proofs.Ytdjambejppanoaa
open Go.RowKit
theorem via (fb : Nat) (v : Value) (w : World) (h : w.cell? ⟨fb, 0, none⟩ = some v) : (loadVar 86 ⟨fb, 0, none⟩).run Try.prog w = .ok v w := by
  simp [loadVar, go_sem, h]
theorem metOf (name : String) (f : FuncId) (fb : Nat) (v : Value) (w : World) (h : w.cell? ⟨fb, 0, none⟩ = some v)
    (hm : (Try.prog.info? 84).map (fun i => (i.methods.find? (·.name == name)).map (fun m => (m.path.toList, m.func))) = some (some ([⟨88, 0, true⟩], some (f, false)))) :
    (method 254 84 (.pointer (some ⟨fb, 0, none⟩)) name).run Try.prog w = .ok (f, v) w := by
  cases hi : Try.prog.info? 84 with
  | none => rw [hi] at hm; simp at hm
  | some i =>
    rw [hi] at hm
    simp only [Option.map_some, Option.some.injEq] at hm
    cases hf : i.methods.find? (·.name == name) with
    | none => rw [hf] at hm; simp at hm
    | some m =>
      rw [hf] at hm
      simp only [Option.map_some, Option.some.injEq, Prod.mk.injEq] at hm
      obtain ⟨h1, h2⟩ := hm
      have hu := Try.underlying88
      have hu2 := Try.underlying86
      unfold method
      simp [typeInfo, hi, hf, h1, h2, follow, go_sem, Place.get, receiverAt, h]
theorem metPush (fb : Nat) (w : World) : (method 254 84 (.pointer (some ⟨fb, 0, none⟩)) "Push").run Try.prog w = .ok (56, .pointer (some ⟨fb, 0, none⟩)) w := by kernel_rfl
theorem metPop (fb : Nat) (w : World) : (method 254 84 (.pointer (some ⟨fb, 0, none⟩)) "Pop").run Try.prog w = .ok (108, .pointer (some ⟨fb, 0, none⟩)) w := by kernel_rfl
theorem metLen (fb : Nat) (v : Value) (w : World) (h : w.cell? ⟨fb, 0, none⟩ = some v) : (method 254 84 (.pointer (some ⟨fb, 0, none⟩)) "Len").run Try.prog w = .ok (106, v) w := metOf _ _ fb v w h (by kernel_rfl)
theorem metLess (fb : Nat) (v : Value) (w : World) (h : w.cell? ⟨fb, 0, none⟩ = some v) : (method 254 84 (.pointer (some ⟨fb, 0, none⟩)) "Less").run Try.prog w = .ok (107, v) w := metOf _ _ fb v w h (by kernel_rfl)
theorem metSwap (fb : Nat) (v : Value) (w : World) (h : w.cell? ⟨fb, 0, none⟩ = some v) : (method 254 84 (.pointer (some ⟨fb, 0, none⟩)) "Swap").run Try.prog w = .ok (109, v) w := metOf _ _ fb v w h (by kernel_rfl)
end Go.Proofs.Ytdjambejppanoaa
