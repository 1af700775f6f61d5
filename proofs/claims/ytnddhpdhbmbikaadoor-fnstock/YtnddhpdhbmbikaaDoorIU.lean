/- ReadStock of the program. -/
import Derived.Test.YtnddhpdhbmbikaaDoorIS
import Derived.Test.YtnddhpdhbmbikaaDoorPR
namespace Go.Proofs.YtnddhpdhbmbikaaDoor
open Go.RowKit
/-- What ReadStock answers: the formation and true, or nothing and false. -/
def RAns (w : World) (l : List UInt8) (e : Ending) (W : World) : Prop :=
  Below w.heap.size w W ∧ ((∃ us v, RdS l (some us) ∧ e = .returned (.tuple #[v, .bool true]) ∧ W.ownsRow w.heap.size 34 4 v us.length (flatUs us)) ∨ (RdS l none ∧ e = .returned (.tuple #[.slice none 0 0, .bool false])))
set_option maxRecDepth 100000 in
set_option maxHeartbeats 1600000 in
theorem cReadI (l : List UInt8) (w : World) (b : Addr) (hv : w.cell? ⟨0, 0, none⟩ = some (.iface 127 (.pointer (some b)))) (ht : Tab w) (hm : l.length ≤ 1048576) :
    Calls Tryd.prog 16 #[.string ⟨l.toArray⟩] w (RAns w l) := by
  have CF := cReadF l w _ _ hv ht hm
  generalize (⟨l.toArray⟩ : ByteArray) = t at *
  go_enter Tryd.func16, Tryd.ntmps16
  go_wp2_with fail
  refine CF.mono ?_
  rintro e W1 ⟨HB, ⟨us, v, hr, rfl, hrow⟩ | ⟨hr, x, ⟨m, rfl⟩ | ⟨m, m', rfl⟩, rfl⟩⟩
  · have va := ble HB hv
    have hr2 := hide (rdf_rdS hr)
    clear hr hv CF
    go_wp2_with fail
    refine (is_nilM b _).mono ?_
    rintro e W2 ⟨rfl, hw⟩
    subst W2
    go_wp2
    go_ret2
    exact ⟨HB, .inl ⟨us, _, hr2.out, rfl, hrow⟩⟩
  · have va := ble HB hv
    have hr2 := hide (rdf_rdS hr)
    clear hr hv CF
    go_wp2_with fail
    refine (is_mis1 b m _).mono ?_
    rintro e W2 ⟨rfl, hb2⟩
    go_wp2
    go_ret2
    exact ⟨btrans HB hb2, .inr ⟨hr2.out, rfl⟩⟩
  · have va := ble HB hv
    have hr2 := hide (rdf_rdS hr)
    clear hr hv CF
    go_wp2_with fail
    refine (is_mis2 b m m' _).mono ?_
    rintro e W2 ⟨rfl, hb2⟩
    go_wp2
    go_ret2
    exact ⟨btrans HB hb2, .inr ⟨hr2.out, rfl⟩⟩
end Go.Proofs.YtnddhpdhbmbikaaDoor
