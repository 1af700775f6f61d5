/- errors.Is at a misread. -/
import Derived.Test.YtnddhpdhbmbikaaDoorRI
import Derived.LaidEql
import Derived.Stop.Asserts
import Derived.RowKitTokens
namespace Go.Proofs.YtnddhpdhbmbikaaDoor
open Go.RowKit Go.Extern.Stop Go.Stop Go.Extern
theorem isTypeOf (v : Value) (w : World) : (Extern.ReflectliteType.typeOf #[.iface 127 v]).run Tryd.prog w = .ok (.iface 94 (.agg #[.pointer (some ⟨5, 127, none⟩)])) w := by kernel_rfl
theorem isComparable (w : World) : ((Extern.ReflectliteType.method fun t => do Extern.Rtype.noPackHeld "Comparable" t; pure (.bool (← typeInfo t).comparable)) #[.agg #[.pointer (some ⟨5, 127, none⟩)]]).run Tryd.prog w = .ok (.bool true) w := by kernel_rfl
theorem runComparable (w : World) : (callFunc 104 #[.agg #[.pointer (some ⟨5, 127, none⟩)]]).run Tryd.prog w = .ok (.value (.bool true)) w := by
  have h := @run_callFunc_extern Tryd.prog 104 _ (Extern.ReflectliteType.method fun t => do Extern.Rtype.noPackHeld "Comparable" t; pure (.bool (← typeInfo t).comparable)) Tryd.func104 (by kernel_rfl) (by kernel_rfl) (by kernel_rfl) (by kernel_rfl)
  rw [h, isComparable]
  rfl
theorem isMethodComparable (v : Value) (w : World) : (Go.method 261 94 v "Comparable").run Tryd.prog w = .ok (104, v) w := by kernel_rfl
theorem isComp : (Tryd.prog.info? 127).map (·.comparable) = some true := by kernel_rfl
theorem isSize : (Tryd.prog.info? 150).map (·.size) = some 1 := by kernel_rfl
theorem noIsE (v : Value) (xT : TypeId) (w : World) : (Instr.typeAssert (.iface 127 v) xT 96 true).run Tryd.prog w = .ok (.tuple #[.nilIface, .bool false]) w := run_typeAssert_lacksB Tryd.underlying96 (by kernel_rfl) (by kernel_rfl) v xT w
theorem noIsM (v : Value) (xT : TypeId) (w : World) : (Instr.typeAssert (.iface 75 v) xT 96 true).run Tryd.prog w = .ok (.tuple #[.nilIface, .bool false]) w := run_typeAssert_lacksB Tryd.underlying96 (by kernel_rfl) (by kernel_rfl) v xT w
theorem hasUnwrapM (v : Value) (xT : TypeId) (w : World) : (Instr.typeAssert (.iface 75 v) xT 99 true).run Tryd.prog w = .ok (.tuple #[.iface 75 v, .bool true]) w := run_typeAssert_hasB Tryd.underlying99 (by kernel_rfl) v xT w
theorem methodUnwrapM (v : Value) (w : World) : (Go.method 261 75 v "Unwrap").run Tryd.prog w = .ok (100, v) w := by kernel_rfl
set_option maxHeartbeats 800000 in
theorem cUnwrapM (m : ByteArray) (v : Value) (w : World) : Calls Tryd.prog 100 #[.agg #[.string m, v]] w fun e w' => e = .returned v ∧ Below w.heap.size w w' := by
  have hb := balloc w (.cells #[.string m, v] 75)
  go_enter Tryd.func100, Tryd.ntmps100
  go_wp2
  go_ret
  exact ⟨rfl, hb⟩
/-- What the sentinel is: a pointer to an errorString. -/
theorem is_nilM (b : Addr) (w : World) :
    Calls Tryd.prog 38 #[.nilIface, .iface 127 (.pointer (some b))] w fun e w' => e = .returned (.bool false) ∧ w' = w := by
  have hn := run_eql_iface_nil_left (P := Tryd.prog) w 127 (.pointer (some b)) Tryd.underlying55
  go_enter Tryd.func38, Tryd.ntmps38
  go_wp2
  go_ret
  exact ⟨rfl, rfl⟩
set_option maxHeartbeats 1600000 in
theorem is_mis1 (b : Addr) (m : ByteArray) (w : World) :
    Calls Tryd.prog 38 #[mis m (.iface 127 (.pointer (some b))), .iface 127 (.pointer (some b))] w fun e w' => e = .returned (.bool true) ∧ Below w.heap.size w w' := by
  obtain ⟨i, hi, hcmp⟩ := Option.map_eq_some_iff.1 isComp
  obtain ⟨j, hj, hjs⟩ := Option.map_eq_some_iff.1 isSize
  have h8 := @run_callFunc_extern Tryd.prog 53 _ Extern.ReflectliteType.typeOf Tryd.func53 (by kernel_rfl) (by kernel_rfl) (by kernel_rfl) (by kernel_rfl)
  have h32 := runComparable
  have tT := isTypeOf
  have mR := isMethodComparable
  have nE := noIsE
  have nM := noIsM
  have uM := hasUnwrapM
  have mU := methodUnwrapM
  have heq := fun w => run_eql_iface_ptr_same (P := Tryd.prog) w b Tryd.underlying55 Tryd.underlying127 hi hcmp hj
  have hty := fun x w => run_eql_iface_types (P := Tryd.prog) 75 127 x (.pointer (some b)) Tryd.underlying55 (by decide) w
  go_enter Tryd.func38, Tryd.ntmps38
  go_wp2
  refine wp_loop_rounds 2 ?_
  rw [rounds_succ]
  go_wp2
  rw [rounds_succ]
  go_wp2
  go_ret
  exact ⟨rfl, balloc w _⟩
set_option maxHeartbeats 1600000 in
theorem is_mis2 (b : Addr) (m m' : ByteArray) (w : World) :
    Calls Tryd.prog 38 #[mis m (mis m' (.iface 127 (.pointer (some b)))), .iface 127 (.pointer (some b))] w fun e w' => e = .returned (.bool true) ∧ Below w.heap.size w w' := by
  obtain ⟨i, hi, hcmp⟩ := Option.map_eq_some_iff.1 isComp
  obtain ⟨j, hj, hjs⟩ := Option.map_eq_some_iff.1 isSize
  have h8 := @run_callFunc_extern Tryd.prog 53 _ Extern.ReflectliteType.typeOf Tryd.func53 (by kernel_rfl) (by kernel_rfl) (by kernel_rfl) (by kernel_rfl)
  have h32 := runComparable
  have tT := isTypeOf
  have mR := isMethodComparable
  have nE := noIsE
  have nM := noIsM
  have uM := hasUnwrapM
  have mU := methodUnwrapM
  have heq := fun w => run_eql_iface_ptr_same (P := Tryd.prog) w b Tryd.underlying55 Tryd.underlying127 hi hcmp hj
  have hty := fun x w => run_eql_iface_types (P := Tryd.prog) 75 127 x (.pointer (some b)) Tryd.underlying55 (by decide) w
  go_enter Tryd.func38, Tryd.ntmps38
  go_wp2
  refine wp_loop_rounds 3 ?_
  rw [rounds_succ]
  go_wp2
  rw [rounds_succ]
  go_wp2
  rw [rounds_succ]
  go_wp2
  go_ret
  exact ⟨rfl, btrans (balloc w _) (balloc _ _)⟩
end Go.Proofs.YtnddhpdhbmbikaaDoor
