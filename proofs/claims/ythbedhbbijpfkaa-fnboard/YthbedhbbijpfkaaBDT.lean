/- The draw of a right timetable of five nodes. -/
import Derived.Test.YthbedhbbijpfkaaDU
namespace Go.Proofs.Ythbedhbbijpfkaa
open Go.RowKit
theorem trip_smallB {t : TripV} (h : tripB t = true) : t.name.size ≤ 12 ∧ t.calls.length ≤ 12 := by
  obtain ⟨h1, h2, h3, _, _⟩ := trip_partsJ h
  simp only [nameB, Bool.and_eq_true] at h1
  have := inB_true h1.2
  omega
theorem TabD.smallB {B : Nat} {wr : World} {v : Value} {vs : List (Value × Value)} {ts : List TripV} (h : TabD B wr v vs ts) (h6 : ts.length ≤ 11) : Small ts := by
  refine ⟨by omega, fun t ht => ?_⟩
  obtain ⟨i, hi, rfl⟩ := List.mem_iff_getElem.1 ht
  have := h.ok i hi
  rw [show ts.getD i TripV.zero = ts[i] by simp [List.getD, hi]] at this
  have := trip_smallB this
  omega
/-- A drawn timetable: right. -/
def DrawnTb (w : World) (e : Ending) (w' : World) : Prop :=
  ∃ (ao : Option Addr) (cp : Nat) (ts : List TripV), e = .returned (.slice ao ts.length cp) ∧ Trips w' ao ts ∧ Small ts ∧ Table ts ∧ Below w.heap.size w w'
set_option maxRecDepth 100000 in
set_option maxHeartbeats 1600000 in
theorem cDrawTb (a : Option Addr) (cap : Nat) (zs : List Int) (w : World) (hz : Bytes w a zs) (hl : zs.length ≤ 1048576) :
    Calls Try.prog 6 #[.slice a zs.length cap] w (DrawnTb w) := by
  go_enter Try.func6, Try.ntmps6
  go_wp2_with fail
  refine (cnew a cap zs _ hz hl).mono ?_
  rintro e w1 ⟨cb, rfl, hcb, hc, HB⟩
  have hcl := hc.lt (k := cb) (.inl rfl)
  have CT := hide (fun w hc hb => cDrawTrip5 cb cap a zs w hc hl hb)
  go_wp2_with fail
  refine (csize a zs.length cap 7 _ hl (by omega) (by omega)).mono ?_
  rintro e w' ⟨s, rfl, hs0, hs1, hw⟩
  subst w'
  go_wp2_with fail
  refine (cDrawTab cb cap a zs 5 CT.out s (by omega) (by omega) _ hc hl hcl).mono ?_
  rintro e w3 ⟨ao, cp, vs, ts, rfl, hT, h11, hc3, hg⟩
  replace HB := HB.grown hg HB.size (fun k hk => by simp at hk; omega)
  clear hg hc CT
  go_wp2
  go_ret
  exact ⟨ao, cp, ts, rfl, Trips.of_pairs hT.own hT.read, hT.smallB h11, ⟨by omega, hT.ok, hT.names⟩, HB⟩
end Go.Proofs.Ythbedhbbijpfkaa
