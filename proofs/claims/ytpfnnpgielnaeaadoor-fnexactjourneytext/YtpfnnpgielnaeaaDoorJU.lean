/- The text of a journey: of the model. -/
import Derived.Test.YtpfnnpgielnaeaaDoorJT
import Derived.Test.YtpfnnpgielnaeaaDoorJN
import Derived.Deep.RegionHeld3
namespace Go.Proofs.YtpfnnpgielnaeaaDoor
open Go.RowKit
theorem text_more {P : ByteArray} {p : List UInt8} (h : P = ⟨p.toArray⟩) (s : ByteArray) (a b : List UInt8) : P ++ s ++ ⟨#[32]⟩ ++ ⟨a.toArray⟩ ++ ⟨#[45]⟩ ++ ⟨b.toArray⟩ = ⟨(p ++ (s.data.toList ++ (32 :: (a ++ (45 :: b))))).toArray⟩ := by
  have e : s = ⟨s.data.toList.toArray⟩ := by cases s; simp
  generalize s.data.toList = l at *
  subst e
  subst h
  rw [show (⟨#[32]⟩ : ByteArray) = ⟨[32].toArray⟩ from rfl, show (⟨#[45]⟩ : ByteArray) = ⟨[45].toArray⟩ from rfl, str_append, str_append, str_append, str_append, str_append]
  simp

set_option maxRecDepth 100000 in
set_option maxHeartbeats 6400000 in
theorem cJtS (a : Option Addr) (cap : Nat) (ts : List TripV) (la : Option Addr) (lc : Nat) (es : List LegV) (ch : Int) (w : World) (hz : Trips w a ts) (hS : Small ts) (he : Legs w la es) :
    Calls Tryd.prog 6 #[.slice a ts.length cap, .slice la es.length lc, .int .i64 ch] w (JtPost ts es ch w) := by
  go_enter Tryd.func6, Tryd.ntmps6
  go_wp2_with fail
  refine (cLegsS a cap ts la lc es ch _ hz hS he).mono ?_
  rintro e w1 ⟨r, rfl, hr, hb⟩
  cases r
  · have R : Hid (JtAns ts es ch []) := hide (.inr ⟨fun q => absurd (hr.2 q) (by decide), rfl⟩)
    clear hr
    go_wp2
    go_ret
    exact ⟨[], rfl, R.out, hb⟩
  have hP := hide (hr.1 rfl)
  clear hr
  have hG := hide (hP.out.2.2.2.1)
  have h5 : es.length ≤ 5 := hP.out.2.2.1
  have hz' := hz.below hb
  have he' := he.below hb
  have hnm : Hid (∀ T, T < ts.length → (ts.getD T TripV.zero).name.size ≤ 12) := hide (fun T hT => by
    have h1 := (trip_partsJ (hP.out.1.2.1 T hT)).1
    simp only [nameB, Bool.and_eq_true] at h1
    have := (inB_true h1.2).2
    omega)
  have hjl := hide (fun k => jnL_le (ts := ts) (es := es.take k) (fun i hi => by
    rw [List.length_take] at hi
    have hik : i < k := by omega
    have := hG.out i (by omega)
    rw [show (es.take k).getD i LegV.zero = es.getD i LegV.zero by simp [List.getD, hik]]
    exact this) hnm.out (by rw [List.length_take]; omega))
  have n0 : (.string ⟨#[]⟩ : Value) = S (jnL ts (es.take 0)) := by rw [List.take_zero, jnL_nil]
  have N0 := hide n0
  clear n0
  go_wp2
  go_loopw [7, 8, 9] (fun v ii _ wr => ∃ k : Nat, k ≤ es.length ∧ ii = .int .i64 k ∧ v = S (jnL ts (es.take k)) ∧ Below w1.heap.size w1 wr) (fun _ ii _ _ => es.length - (intOf ii).toNat)
  case atStart => exact ⟨0, Nat.zero_le _, rfl, N0.out, Below.refl _ _⟩
  case round =>
    clear N0
    obtain ⟨k, hk, rfl, rfl, hbr⟩ := hrel
    by_cases hlt : k < es.length
    · have hlt' : (k : Int) < (es.length : Int) := by omega
      have hjk := hjl.out k
      obtain ⟨T, O, F, hE, hT, hO, hF⟩ := leg_nat (hG.out k hlt)
      have hN1 : Hid (k = 0 → S (jnL ts (es.take (k + 1))) = S (jnL ts (es.take k) ++ legL ts (es.getD k LegV.zero))) := hide (by
        rintro rfl
        have e1 : es.getD 0 LegV.zero = es[0] := by simp [List.getD, hlt]
        rw [List.take_succ_eq_append_getElem hlt, e1, List.take_zero, List.nil_append, jnL_nil, List.nil_append, jnL_one])
      have hN2 : Hid (0 < k → S (jnL ts (es.take (k + 1))) = S ((jnL ts (es.take k) ++ sepL) ++ legL ts (es.getD k LegV.zero))) := hide (by
        intro h0
        have e1 : es.getD k LegV.zero = es[k] := by simp [List.getD, hlt]
        rw [List.take_succ_eq_append_getElem hlt, e1, jnL_snoc ts _ (by intro h; have h2 := congrArg List.length h; rw [List.length_take, List.length_nil] at h2; omega), List.append_assoc])
      have hL : legL ts (es.getD k LegV.zero) = (ts.getD T TripV.zero).name.data.toList ++ (32 :: (tt (hcA ts T O).d ++ (45 :: tt (hcA ts T F).a))) := by rw [hE]; simp [legL]
      rw [hL] at hN1 hN2
      have hcl : ∃ lb lo, la = some ⟨lb, lo, none⟩ ∧ wr.cell? ⟨lb, lo + k * 3, none⟩ = some (.int .i64 (T : Int)) ∧ wr.cell? ⟨lb, lo + k * 3 + 1, none⟩ = some (.int .i64 (O : Int)) ∧ wr.cell? ⟨lb, lo + k * 3 + 2, none⟩ = some (.int .i64 (F : Int)) := by
        rcases he' with h | ⟨lb, lo, hla, hc⟩
        · simp [h] at hlt
        · obtain ⟨q0, q1, q2⟩ := hc k hlt
          rw [hE] at q0 q1 q2
          exact ⟨lb, lo, hla, ble hbr q0, ble hbr q1, ble hbr q2⟩
      obtain ⟨lb, lo, rfl, l0, l1, l2⟩ := hcl
      obtain ⟨b, off, hn, cn, rfl, c0, c1, -, hHl⟩ := hz'.at hT
      have c0 := ble hbr c0
      have c1 : wr.cell? ⟨b, off + T * 2 + 1, none⟩ = some (.slice hn (ncA ts T) cn) := ble hbr c1
      obtain ⟨b2, off2, rfl, -, -, q0⟩ := call_cells (hHl.below hbr) (show O < ncA ts T by omega)
      obtain ⟨b3, off3, hE3, -, q1, -⟩ := call_cells (hHl.below hbr) hF
      simp only [Option.some.injEq, Addr.mk.injEq, and_true] at hE3
      obtain ⟨rfl, rfl⟩ := hE3
      replace q0 : wr.cell? ⟨b2, off2 + O * 3 + 2, none⟩ = some (.int .i64 (hcA ts T O).d) := q0
      replace q1 : wr.cell? ⟨b2, off2 + F * 3 + 1, none⟩ = some (.int .i64 (hcA ts T F).a) := q1
      have hsz := hnm.out T hT
      have hnO : (O : Int) < (ncA ts T : Int) := by omega
      have hnF : (F : Int) < (ncA ts T : Int) := by omega
      have hO0 : (0 : Int) ≤ O := by omega
      have hF0 : (0 : Int) ≤ F := by omega
      have hT0 : (0 : Int) ≤ T := by omega
      have hT1 : (T : Int) < ts.length := by omega
      have lz1 := cell_lt l0
      have lz2 := cell_lt c0
      have lz3 := cell_lt q0
      clear hL hHl
      generalize (ts.getD T TripV.zero).name = s at *
      generalize (hcA ts T O).d = d1 at *
      generalize (hcA ts T F).a = a2 at *
      generalize ncA ts T = nc at *
      have CT1 := fun w => cTimeS d1 w
      have CT2 := fun w => cTimeS a2 w
      have t1 := tt_le d1
      have t2 := tt_le a2
      generalize tt d1 = A at *
      generalize tt a2 = B at *
      generalize jnL ts (es.take k) = X at *
      generalize hX2 : jnL ts (es.take (k + 1)) = X2 at *
      have HX2 := hide hX2
      clear hX2
      unfold S at CT1 CT2 hN1 hN2 ⊢
      by_cases hk0 : k = 0
      · have hN := hide (hN1.out hk0)
        have hk1 : ¬ (0 : Int) < k := by omega
        have hk2 := hide hk0
        clear hk0 hN1 hN2
        have B0 := balloc wr (.cells #[.string s, .slice (some ⟨b2, off2, none⟩) nc cn] 41)
        have LB := one_block wr (.cells #[.string s, .slice (some ⟨b2, off2, none⟩) nc cn] 41)
        go_upto_region 10 with fail
        generalize wr.alloc (.cells #[.string s, .slice (some ⟨b2, off2, none⟩) nc cn] 41) = V at *
        obtain ⟨⟨z0, z1⟩, -⟩ := blk2 LB
        have p0 := ble B0 q0
        have p1 := ble B0 q1
        have l1' := ble B0 l1
        have l2' := ble B0 l2
        have HV := btrans hbr B0
        have hzl := lt_of_block LB
        have h0 : Below V.heap.size V V.drew := (Below.refl _ _).drew
        generalize wr.heap.size = z at *
        obtain ⟨P, hPq⟩ : ∃ P : ByteArray, P = ⟨X.toArray⟩ := ⟨_, rfl⟩
        have hPs : P.size ≤ 1003 := by rw [hPq]; show X.toArray.size ≤ 1003; simp; omega
        rw [← hPq]
        have hPP := hide hPq
        clear hPq
        have m1 : ¬ 9223372036854775807 < P.size + s.size := by omega
        have m2 : ¬ 9223372036854775807 < P.size + s.size + 1 := by omega
        have m3 : ¬ 9223372036854775807 < P.size + s.size + 1 + A.length := by omega
        have m4 : ¬ 9223372036854775807 < P.size + s.size + 1 + A.length + 1 := by omega
        have m5 : ¬ 9223372036854775807 < P.size + s.size + 1 + A.length + 1 + B.length := by omega
        go_region_held3 (fun w' => w'.cell? ⟨z, 0, none⟩ = some (.string s) ∧ w'.cell? ⟨z, 1, none⟩ = some (.slice (some ⟨b2, off2, none⟩) nc cn) ∧ w'.cell? ⟨lb, lo + k * 3 + 1, none⟩ = some (.int .i64 (O : Int)) ∧ w'.cell? ⟨lb, lo + k * 3 + 2, none⟩ = some (.int .i64 (F : Int)) ∧ w'.cell? ⟨b2, off2 + O * 3 + 2, none⟩ = some (.int .i64 d1) ∧ w'.cell? ⟨b2, off2 + F * 3 + 1, none⟩ = some (.int .i64 a2)) (go_keep) (first
          | (go_at_call 14; with_reducible refine (CT2 _).mono ?_; rintro e1 wb ⟨rfl, hbb⟩; have Bb := btrans Ba hbb; clear hbb; have v0 := ble Bb z0; have v1 := ble Bb z1; have v2 := ble Bb l1'; have v3 := ble Bb l2'; have v4 := ble Bb p0; have v5 := ble Bb p1)
          | (go_at_call 14; with_reducible refine (CT1 _).mono ?_; rintro e1 wa ⟨rfl, hba⟩; have Ba := undrew hba; clear hba; have v0 := ble Ba z0; have v1 := ble Ba z1; have v2 := ble Ba l1'; have v3 := ble Ba l2'; have v4 := ble Ba p0; have v5 := ble Ba p1))
        have HW := btrans HV Bb
        clear v0 v1 v2 v3 v4 v5 z0 z1 p0 p1 l1' l2' Ba Bb h0 LB B0
        go_wp2
        go_roundw
        case rel => exact ⟨k + 1, by omega, by go_num, by show _ = S _; unfold S; rw [HX2.out, hN.out]; exact congrArg Value.string (text_more hPP.out s A B), HW⟩
        case measure => simp [intOf]; omega
      · have hN := hide (hN2.out (by omega))
        have hk1 : (0 : Int) < k := by omega
        have mX : ¬ 9223372036854775807 < X.length + 3 := by omega
        clear hN1 hN2
        have B0 := balloc wr (.cells #[.string s, .slice (some ⟨b2, off2, none⟩) nc cn] 41)
        have LB := one_block wr (.cells #[.string s, .slice (some ⟨b2, off2, none⟩) nc cn] 41)
        go_upto_region 10 with fail
        generalize wr.alloc (.cells #[.string s, .slice (some ⟨b2, off2, none⟩) nc cn] 41) = V at *
        obtain ⟨⟨z0, z1⟩, -⟩ := blk2 LB
        have p0 := ble B0 q0
        have p1 := ble B0 q1
        have l1' := ble B0 l1
        have l2' := ble B0 l2
        have HV := btrans hbr B0
        have hzl := lt_of_block LB
        have h0 : Below V.heap.size V V.drew := (Below.refl _ _).drew
        generalize wr.heap.size = z at *
        have hPP : Hid ((⟨X.toArray⟩ : ByteArray) ++ ⟨#[32, 47, 32]⟩ = ⟨(X ++ sepL).toArray⟩) := hide (str_append X sepL)
        have hPs : ((⟨X.toArray⟩ : ByteArray) ++ ⟨#[32, 47, 32]⟩).size ≤ 1003 := by rw [hPP.out]; show (X ++ sepL).toArray.size ≤ 1003; simp [sepL]; omega
        generalize (⟨X.toArray⟩ : ByteArray) ++ ⟨#[32, 47, 32]⟩ = P at hPP hPs ⊢
        have m1 : ¬ 9223372036854775807 < P.size + s.size := by omega
        have m2 : ¬ 9223372036854775807 < P.size + s.size + 1 := by omega
        have m3 : ¬ 9223372036854775807 < P.size + s.size + 1 + A.length := by omega
        have m4 : ¬ 9223372036854775807 < P.size + s.size + 1 + A.length + 1 := by omega
        have m5 : ¬ 9223372036854775807 < P.size + s.size + 1 + A.length + 1 + B.length := by omega
        go_region_held3 (fun w' => w'.cell? ⟨z, 0, none⟩ = some (.string s) ∧ w'.cell? ⟨z, 1, none⟩ = some (.slice (some ⟨b2, off2, none⟩) nc cn) ∧ w'.cell? ⟨lb, lo + k * 3 + 1, none⟩ = some (.int .i64 (O : Int)) ∧ w'.cell? ⟨lb, lo + k * 3 + 2, none⟩ = some (.int .i64 (F : Int)) ∧ w'.cell? ⟨b2, off2 + O * 3 + 2, none⟩ = some (.int .i64 d1) ∧ w'.cell? ⟨b2, off2 + F * 3 + 1, none⟩ = some (.int .i64 a2)) (go_keep) (first
          | (go_at_call 14; with_reducible refine (CT2 _).mono ?_; rintro e1 wb ⟨rfl, hbb⟩; have Bb := btrans Ba hbb; clear hbb; have v0 := ble Bb z0; have v1 := ble Bb z1; have v2 := ble Bb l1'; have v3 := ble Bb l2'; have v4 := ble Bb p0; have v5 := ble Bb p1)
          | (go_at_call 14; with_reducible refine (CT1 _).mono ?_; rintro e1 wa ⟨rfl, hba⟩; have Ba := undrew hba; clear hba; have v0 := ble Ba z0; have v1 := ble Ba z1; have v2 := ble Ba l1'; have v3 := ble Ba l2'; have v4 := ble Ba p0; have v5 := ble Ba p1))
        have HW := btrans HV Bb
        clear v0 v1 v2 v3 v4 v5 z0 z1 p0 p1 l1' l2' Ba Bb h0 LB B0
        go_wp2
        go_roundw
        case rel => exact ⟨k + 1, by omega, by go_num, by show _ = S _; unfold S; rw [HX2.out, hN.out]; exact congrArg Value.string (text_more hPP.out s A B), HW⟩
        case measure => simp [intOf]; omega
    · obtain rfl : k = es.length := by omega
      rw [List.take_length]
      have R : Hid (JtAns ts es ch (jnL ts es)) := hide (.inl ⟨hP.out, rfl⟩)
      have hb9 := btrans hb hbr
      generalize jnL ts es = X at *
      unfold S
      clear hjl
      go_wp2
      go_ret
      exact ⟨_, rfl, R.out, hb9⟩
end Go.Proofs.YtpfnnpgielnaeaaDoor
