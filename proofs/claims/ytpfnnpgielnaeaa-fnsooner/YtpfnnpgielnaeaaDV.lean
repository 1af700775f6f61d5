/- The draw of a right question. -/
import Derived.Test.YtpfnnpgielnaeaaDU
import Derived.Test.YtpfnnpgielnaeaaLT
namespace Go.Proofs.Ytpfnnpgielnaeaa
open Go.RowKit
theorem trip_small {t : TripV} (h : tripB t = true) : t.name.size ≤ 12 ∧ t.calls.length ≤ 12 := by
  obtain ⟨h1, h2, h3, _, _⟩ := trip_partsJ h
  simp only [nameB, Bool.and_eq_true] at h1
  have := inB_true h1.2
  omega
theorem TabD.small {B : Nat} {wr : World} {v : Value} {vs : List (Value × Value)} {ts : List TripV} (h : TabD B wr v vs ts) (h6 : ts.length ≤ 11) : Small ts := by
  refine ⟨by omega, fun t ht => ?_⟩
  obtain ⟨i, hi, rfl⟩ := List.mem_iff_getElem.1 ht
  have := h.ok i hi
  rw [show ts.getD i TripV.zero = ts[i] by simp [List.getD, hi]] at this
  have := trip_small this
  omega
/-- A drawn question: a right timetable, two nodes, a minute and a change. -/
def DrawnQ (w : World) (e : Ending) (w' : World) : Prop :=
  ∃ (ao : Option Addr) (cp : Nat) (ts : List TripV) (f u m ch : Int), e = .returned (.tuple #[.slice ao ts.length cp, .int .i64 f, .int .i64 u, .int .i64 m, .int .i64 ch]) ∧ Trips w' ao ts ∧ Small ts ∧ Table ts ∧ (0 ≤ f ∧ f < 5) ∧ (0 ≤ u ∧ u < 5) ∧ (0 ≤ m ∧ m < 60) ∧ (0 ≤ ch ∧ ch < 8) ∧ Below w.heap.size w w'

set_option maxRecDepth 100000 in
set_option maxHeartbeats 1600000 in
theorem cDrawQ (a : Option Addr) (cap : Nat) (zs : List Int) (w : World) (hz : Bytes w a zs) (hl : zs.length ≤ 1048576) :
    Calls Try.prog 12 #[.slice a zs.length cap] w (DrawnQ w) := by
  go_enter Try.func12, Try.ntmps12
  go_wp2_with fail
  refine (cnew a cap zs _ hz hl).mono ?_
  rintro e w1 ⟨cb, rfl, hcb, hc, HB⟩
  go_wp2_with fail
  refine (cbelow cb cap a zs 2 _ hc hl (by omega) (by omega)).mono ?_
  rintro e w2 ⟨r, rfl, hr0, hr1, hc2, hg⟩
  replace HB := HB.grown hg HB.size (fun k hk => by simp at hk; omega)
  have hcl := hc2.lt (k := cb) (.inl rfl)
  clear hg hc
  have CT : ∀ w, Cur w cb a cap zs → cb < w.heap.size → Calls Try.prog 71 #[.pointer (some ⟨cb, 0, none⟩), .agg #[.int .i64 (4 + r), .slice none 0 0], .int .i64 4] w (DrawnTrip w cb cap a zs) := by
    intro w hc hb
    have : r = 0 ∨ r = 1 := by omega
    rcases this with rfl | rfl
    · exact cDrawTrip4 cb cap a zs w hc hl hb
    · exact cDrawTrip5 cb cap a zs w hc hl hb
  have CTh := hide CT
  clear CT
  go_wp2_with fail
  refine (csize a zs.length cap 8 _ hl (by omega) (by omega)).mono ?_
  rintro e w' ⟨s, rfl, hs0, hs1, hw⟩
  subst w'
  go_wp2_with fail
  refine (cDrawTab cb cap a zs (4 + r) CTh.out (3 + s) (by omega) (by omega) _ hc2 hl hcl).mono ?_
  rintro e w3 ⟨ao, cp, vs, ts, rfl, hT, h11, hc3, hg⟩
  have hw2 := HB.size
  replace HB := HB.grown hg HB.size (fun k hk => by simp at hk; omega)
  replace hT := hide (hT.mono (Nat.le_refl _))
  have hTb : ts.length ≤ 1048576 := by omega
  clear hg hc2 CTh
  go_wp2_with fail
  refine (cbelow cb cap a zs 5 _ hc3 hl (by omega) (by omega)).mono ?_
  rintro e w4 ⟨f, rfl, hf0, hf1, hc4, hg⟩
  replace HB := HB.grown hg HB.size (fun k hk => by simp at hk; omega)
  replace hT := hide (hT.out.cur hcl hg)
  clear hg hc3
  go_wp2_with fail
  refine (cbelow cb cap a zs 5 _ hc4 hl (by omega) (by omega)).mono ?_
  rintro e w5 ⟨u, rfl, hu0, hu1, hc5, hg⟩
  replace HB := HB.grown hg HB.size (fun k hk => by simp at hk; omega)
  replace hT := hide (hT.out.cur hcl hg)
  clear hg hc4
  go_wp2_with fail
  refine (cbelow cb cap a zs 60 _ hc5 hl (by omega) (by omega)).mono ?_
  rintro e w6 ⟨m, rfl, hm0, hm1, hc6, hg⟩
  replace HB := HB.grown hg HB.size (fun k hk => by simp at hk; omega)
  replace hT := hide (hT.out.cur hcl hg)
  clear hg hc5
  go_wp2_with fail
  refine (cbelow cb cap a zs 8 _ hc6 hl (by omega) (by omega)).mono ?_
  rintro e w7 ⟨ch, rfl, hch0, hch1, hc7, hg⟩
  replace HB := HB.grown hg HB.size (fun k hk => by simp at hk; omega)
  replace hT := hide (hT.out.cur hcl hg)
  clear hg hc6 hc7
  go_wp2
  refine bodyPost_ret (v := .tuple #[.slice ao ts.length cp, .int .i64 f, .int .i64 u, .int .i64 m, .int .i64 ch]) (by simp [results, Try.results12, go_sem]) rfl ?_
  have T := hT.out
  exact ⟨ao, cp, ts, f, u, m, ch, rfl, Trips.of_pairs T.own T.read, T.small h11, ⟨by omega, T.ok, T.names⟩, ⟨hf0, hf1⟩, ⟨hu0, hu1⟩, ⟨hm0, hm1⟩, ⟨hch0, hch1⟩, HB⟩
end Go.Proofs.Ytpfnnpgielnaeaa
