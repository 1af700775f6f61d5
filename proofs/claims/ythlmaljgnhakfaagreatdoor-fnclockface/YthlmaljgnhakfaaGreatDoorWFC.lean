/- The walk of FnClockface. -/
import Derived.Test.YthlmaljgnhakfaaGreatDoorFCM
import Derived.Test.YthlmaljgnhakfaaGreatDoorST
import Derived.Test.YthlmaljgnhakfaaGreatDoorURI
import Derived.Test.YthlmaljgnhakfaaGreatDoorO5
import Derived.BigQuiet
import Derived.Deep.RegionHeld3
namespace Go.Proofs.YthlmaljgnhakfaaGreatDoor
open Go.RowKit
theorem gRead {s : ByteArray} {cs : List HaltV} {l : List UInt8} (hT : tripB ⟨s, cs⟩ = true) (hl : tripL ⟨s, cs⟩ = l) (hm : l.length ≤ 1048576) (W : World) (ht : Tab W) (he : Errs W) :
    Calls Tryz.prog 9 #[.string ⟨l.toArray⟩] W fun e W' => Below W.heap.size W W' ∧ ∃ ag pg, e = .returned (.tuple #[.agg #[.string s, .slice ag cs.length pg], .bool true]) ∧ Halts W' ag cs := by
  refine (cReadTripI l W ht he hm).mono ?_
  rintro e W' ⟨hb, t, ag, pg, ok, rfl, O, h⟩
  have hR : RdT l (some ⟨s, cs⟩) := .inl ⟨_, rfl, hT, hl⟩
  rcases h with ⟨rfl, h⟩ | ⟨rfl, h, rfl⟩
  · have := h.unique hR
    simp only [Option.some.injEq] at this
    subst this
    exact ⟨hb, ag, pg, rfl, Halts.own O⟩
  · cases h.unique hR
theorem gSame (s : ByteArray) (a1 a2 : Option Addr) (p1 p2 : Nat) (cs : List HaltV) (hl : cs.length ≤ 1048576) (w : World) (h1 : Halts w a1 cs) (h2 : Halts w a2 cs) :
    Calls Tryz.prog 11 #[.agg #[.string s, .slice a1 cs.length p1], .agg #[.string s, .slice a2 cs.length p2]] w fun e w' => e = .returned (.bool true) ∧ Below w.heap.size w w' := by
  refine (cSameTrip s s a1 a2 p1 p2 cs cs w h1 h2 hl).mono ?_
  rintro e w' ⟨b, rfl, hb, g⟩
  obtain rfl : b = true := hb.2 ⟨rfl, rfl⟩
  exact ⟨rfl, g⟩
theorem halts_at {w : World} {a : Option Addr} {cs : List HaltV} (h : Halts w a cs) (h0 : 0 < cs.length) : ∃ b o, a = some ⟨b, o, none⟩ ∧ ∀ k, k < cs.length → w.cell? ⟨b, o + k * 3, none⟩ = some (.int .i64 (cs.getD k HaltV.zero).n) ∧ w.cell? ⟨b, o + k * 3 + 1, none⟩ = some (.int .i64 (cs.getD k HaltV.zero).a) ∧ w.cell? ⟨b, o + k * 3 + 2, none⟩ = some (.int .i64 (cs.getD k HaltV.zero).d) := by
  rcases h with h | ⟨b, o, rfl, q⟩
  · simp [h] at h0
  · exact ⟨b, o, rfl, q⟩
/-- What the loop holds: a right trip in a box, its calls in a row, and the clock face. -/
structure FcX (w W : World) (b3 ba oa cp n : Nat) (s : ByteArray) (cs : List HaltV) (la : Option Addr) (L : List TripV) : Prop where
  box : W.heap[b3]? = some (.cells #[.string s, .slice (some ⟨ba, oa, none⟩) n cp] 26)
  row : Halts W (some ⟨ba, oa, none⟩) cs
  lst : Trips W la L
  bel : Below w.heap.size w W
theorem FcX.keep {w W W' : World} {b3 ba oa cp n : Nat} {s : ByteArray} {cs : List HaltV} {la : Option Addr} {L : List TripV} (h : FcX w W b3 ba oa cp n s cs la L) (hb : Below W.heap.size W W') : FcX w W' b3 ba oa cp n s cs la L :=
  ⟨blk_keep hb h.box, h.row.below hb, h.lst.below hb, btrans h.bel hb⟩
theorem trips_at {w : World} {la : Option Addr} {L : List TripV} (h : Trips w la L) (h0 : 0 < L.length) : ∃ b o, la = some ⟨b, o, none⟩ := by
  rcases h with h | ⟨b, o, rfl, _⟩
  · simp [h] at h0
  · exact ⟨b, o, rfl⟩
theorem trips_cell {w : World} {b o k : Nat} {L : List TripV} (h : Trips w (some ⟨b, o, none⟩) L) (hk : k < L.length) : ∃ xa c, w.cell? ⟨b, o + k * 2, none⟩ = some (.string (L.getD k TripV.zero).name) ∧ w.cell? ⟨b, o + k * 2 + 1, none⟩ = some (.slice xa (L.getD k TripV.zero).calls.length c) ∧ (L.getD k TripV.zero).calls.length ≤ c ∧ Halts w xa (L.getD k TripV.zero).calls := by
  rcases h with h | ⟨b', o', e, h⟩
  · simp [h] at hk
  · simp only [Option.some.injEq, Addr.mk.injEq, and_true] at e
    obtain ⟨rfl, rfl⟩ := e
    obtain ⟨va, vb, h1, h2, rfl, xa, c, rfl, h3, h4⟩ := h k hk
    exact ⟨xa, c, h1, h2, h3, h4⟩
set_option maxRecDepth 100000 in
set_option maxHeartbeats 12800000 in
theorem walkClockface (a : Option Addr) (cap : Nat) (bs : List Int) (w : World) (ht : Tab w) (he : Errs w) (hz : Bytes w a bs) (hn : bs.length ≤ maxLen) :
    Calls Tryz.prog 3 #[.slice a bs.length cap] w fun e w' => e = .returned (.bool true) ∧ Below w.heap.size w w' := by
  by_cases hbig : 1048576 < bs.length
  · have hd : decide (1048576 < bs.length) = true := by simp [hbig]
    go_enter Tryz.func3, Tryz.ntmps3
    go_wp2_with fail
    refine (cbig a cap bs.length _ hn).mono ?_
    rintro e w1 ⟨rfl, hw⟩
    subst w1
    rw [hd]
    go_wp2
    go_ret
    exact ⟨rfl, Below.refl _ _⟩
  have hd : decide (1048576 < bs.length) = false := by simp; omega
  have hl : bs.length ≤ 1048576 := by omega
  have hat3 := atZ_in hz 3
  have hat4 := atZ_in hz 4
  have CA3 := fun (w' : World) (h : Below w.heap.size w w') => cat a cap bs 3 w' (hz.below h) hl (by omega)
  have CA4 := fun (w' : World) (h : Below w.heap.size w w') => cat a cap bs 4 w' (hz.below h) hl (by omega)
  generalize atZ bs 3 = z3 at *
  generalize atZ bs 4 = z4 at *
  go_enter Tryz.func3, Tryz.ntmps3
  go_wp2_with fail
  refine (cbig a cap bs.length _ hn).mono ?_
  rintro e w1 ⟨rfl, hw⟩
  subst w1
  rw [hd]
  clear hd hbig hn
  go_wp2_with fail
  refine (cRightTrip a cap bs _ hz hl).mono ?_
  rintro e w1 ⟨s, cs, ao, cp, rfl, hT, ⟨hU, hs4⟩, O, HB⟩
  have hcp := own_capR O
  have hcl := (tripM hT).2.2.1
  have hc2 := (tripM hT).2.2.2
  dsimp only at hcl hc2
  have H := Halts.own O
  obtain ⟨ba, oa, rfl, -⟩ := halts_at H (by omega)
  have hx1 := balloc w1 (.cells #[.string s, .slice (some ⟨ba, oa, none⟩) cs.length cp] 26)
  have K := one_block' w1 (.cells #[.string s, .slice (some ⟨ba, oa, none⟩) cs.length cp] 26)
  have X : FcX w (w1.alloc (.cells #[.string s, .slice (some ⟨ba, oa, none⟩) cs.length cp] 26)) w1.heap.size ba oa cp cs.length s cs none [] := ⟨K, H.below hx1, .inl rfl, btrans HB hx1⟩
  clear K hx1 H HB O
  go_wp2_with fail
  generalize w1.heap.size = b3 at *
  generalize w1.alloc (.cells #[.string s, .slice (some ⟨ba, oa, none⟩) cs.length cp] 26) = wA at *
  refine (CA3 _ X.bel).mono ?_
  rintro e w2 ⟨rfl, hw⟩
  subst w2
  obtain ⟨q1, q2, q3⟩ := rem_in (x := z3) (n := 120) hat3.1 (by omega) (by omega)
  have e1 : z3.tmod 120 = z3 % 120 := Int.tmod_eq_emod_of_nonneg hat3.1
  generalize z3 % 120 = q at *
  obtain ⟨st, hst⟩ : ∃ st : Int, 1 + q = st := ⟨_, rfl⟩
  have e2 : IntKind.i64.wrap (1 + q) = st := by rw [hst]; exact wrap_in _ (by omega) (by omega)
  have hs1 : 1 ≤ st := by omega
  have hs2 : st ≤ 120 := by omega
  clear hst
  go_wp2_with fail
  refine (CA4 _ X.bel).mono ?_
  rintro e w2 ⟨rfl, hw⟩
  subst w2
  obtain ⟨r1, r2, r3⟩ := rem_in (x := z4) (n := 9) hat4.1 (by omega) (by omega)
  have e3 : z4.tmod 9 = z4 % 9 := Int.tmod_eq_emod_of_nonneg hat4.1
  generalize z4 % 9 = r at *
  obtain ⟨m, hm⟩ : ∃ m : Nat, 1 + r = (m : Int) := ⟨(1 + r).toNat, by omega⟩
  have e4 : IntKind.i64.wrap (1 + r) = (m : Int) := by rw [hm]; exact wrap_in _ (by omega) (by omega)
  have hm1 : 1 ≤ m := by omega
  have hm9 : m ≤ 9 := by omega
  have hok := face_ok hT hs4 hU hm9 hm1 hs1 hs2
  have CF := fun W ht h => cFaceI s (some ⟨ba, oa, none⟩) cp cs st (m : Int) W ht h (by omega) hcp (by omega)
  have eA := faceA_yes hok
  have hTab := hide (face_ok hT hs4 hU hm9 hm1 hs1 hs2).2.2.2
  have hSm := faceL_small hT st (m := m) (by omega)
  have AT := hide (fun k (hk : k < m) => face_at hT hs4 hU (k := k) (st := st) (by omega) hs1 hs2)
  have GET := hide (fun k (hk : k < m) => faceL_get ⟨s, cs⟩ st m k hk)
  have hLn := faceL_len ⟨s, cs⟩ st m
  have hdd : 0 ≤ (cs.getD 0 HaltV.zero).a ∧ (cs.getD 0 HaltV.zero).a ≤ 400 := by
    have hm : cs.getD 0 HaltV.zero ∈ cs := by
      have e : 0 < cs.length := by omega
      rw [List.getD, List.getElem?_eq_getElem e]; exact List.getElem_mem e
    have := call_parts (List.all_eq_true.1 (tripM hT).2.1 _ hm)
    have := hU _ hm
    omega
  rw [Int.toNat_natCast] at eA hTab
  clear hm q1 q2 q3 r1 r2 r3 hat3 hat4 CA3 CA4 hok
  obtain ⟨⟨t0, t1⟩, -⟩ := blk2 X.box
  go_wp2_with fail
  refine (CF _ (ht.below X.bel) X.row).mono ?_
  rintro e w3 ⟨la, lc, vs, rfl, T, hb⟩
  rw [eA] at T ⊢
  have hL := T.trips
  rw [hLn]
  obtain ⟨L, hLL⟩ : ∃ L, faceL ⟨s, cs⟩ st m = L := ⟨_, rfl⟩
  rw [hLL] at hL hTab hSm hLn GET
  have X2 : FcX w w3 b3 ba oa cp cs.length s cs la L := ⟨blk_keep hb X.box, X.row.below hb, hL, btrans X.bel hb⟩
  clear X hb T CF eA t0 t1 e1 e2 e3 e4 hL hLL
  obtain ⟨lb, lo, rfl⟩ := trips_at X2.lst (by omega)
  have CTb := fun W h => cTableI (some ⟨lb, lo, none⟩) lc L W h hSm
  rw [hLn] at CTb
  obtain ⟨n, hnn⟩ : ∃ n, cs.length = n := ⟨_, rfl⟩
  rw [hnn] at X2 hcl hc2 hcp ⊢
  replace hnn := hide hnn
  go_wp2_with fail
  refine (CTb _ X2.lst).mono ?_
  rintro e w4 ⟨r, rfl, hr, hb⟩
  obtain rfl : r = true := hr.2 hTab.out
  replace X2 := X2.keep hb
  have hLn' := hide hLn
  clear hb hr CTb hLn hSm hTab
  go_wp2_with fail
  go_loopw [7, 8, 9] (fun kv _ _ wr => ∃ k : Nat, k ≤ m ∧ kv = .int .i64 k ∧ FcX w wr b3 ba oa cp n s cs (some ⟨lb, lo, none⟩) L) (fun kv _ _ _ => m - (intOf kv).toNat)
  case atStart => exact ⟨0, Nat.zero_le _, rfl, X2⟩
  case round =>
    clear X2
    obtain ⟨k, hk, rfl, X⟩ := hrel
    by_cases hkm : k < m
    · have hkz : (k : Int) < (m : Int) := by omega
      obtain ⟨xa, xc, c0, c1, hxc, hx⟩ := trips_cell X.lst (k := k) (by have := hLn'.out; omega)
      obtain ⟨eT, tT⟩ := AT.out k hkm
      rw [GET.out k hkm, eT] at c0 c1 hxc hx
      dsimp only at c0 c1 hxc hx
      have hml : (movedL ((k : Int) * st) cs).length = n := by rw [movedL_len]; exact hnn.out
      rw [hml] at c1 hxc
      have hlong := face_longer (s := s) (k := k) (by omega)
      obtain ⟨m0, m1⟩ := face_mul9 (k := k) (st := st) (by omega) hs1 hs2
      have hmv0 : ((movedL ((k : Int) * st) cs).getD 0 HaltV.zero).a = (cs.getD 0 HaltV.zero).a + (k : Int) * st := by
        have : 0 < cs.length := by have := hnn.out; omega
        simp [movedL, List.getD, this]
      obtain ⟨xb, xo, rfl, hxs⟩ := halts_at hx (by omega)
      obtain ⟨-, xa0, -⟩ := hxs 0 (by omega)
      obtain ⟨ba', oa', hh, htc⟩ := halts_at X.row (by have := hnn.out; omega)
      simp only [Option.some.injEq, Addr.mk.injEq, and_true] at hh
      obtain ⟨rfl, rfl⟩ := hh
      obtain ⟨-, at0, -⟩ := htc 0 (by have := hnn.out; omega)
      rw [Nat.zero_mul, Nat.add_zero] at at0 xa0
      rw [hmv0] at xa0
      have hsz := (tripM tT).2.2.1
      dsimp only at hsz
      obtain ⟨l, hLl⟩ : ∃ l, tripL ⟨s ++ decB k, movedL ((k : Int) * st) cs⟩ = l := ⟨_, rfl⟩
      have hlen : l.length ≤ 240 := by rw [← hLl]; exact tripL_len tT
      have CT := fun W ht h => cTextI (s ++ decB k) (some ⟨xb, xo, none⟩) xc (movedL ((k : Int) * st) cs) W ht h (by omega) (by omega)
      have CR := gRead tT hLl (by omega)
      have CS := fun aa pp W h g => gSame (s ++ decB k) aa (some ⟨xb, xo, none⟩) pp xc (movedL ((k : Int) * st) cs) (by omega) W h g
      obtain ⟨x, hxx⟩ : ∃ x : ByteArray, x = ⟨l.toArray⟩ := ⟨_, rfl⟩
      rw [hLl, show S l = .string x by rw [hxx]] at CT
      rw [← hxx] at CR
      rw [hml] at CT CR CS
      clear hxs htc hmv0 eT tT hlen hLl hxx hml hsz
      generalize s ++ decB k = u at *
      generalize movedL ((k : Int) * st) cs = mv at *
      generalize (cs.getD 0 HaltV.zero).a = aa at *
      have w1 : IntKind.i64.wrap ((k : Int) * st) = (k : Int) * st := wrap_in _ (by omega) (by omega)
      have w2 : IntKind.i64.wrap (aa + (k : Int) * st) = aa + (k : Int) * st := wrap_in _ (by omega) (by omega)
      have hn0 : (0 : Int) < (n : Int) := by omega
      have hkz0 : ¬ ((k : Int) < 0) := by omega
      obtain ⟨⟨t0, t1⟩, -⟩ := blk2 X.box
      go_wp2
      go_quiet (fail)
      have hq := bdraw (Below.refl wr.heap.size wr) nq
      replace X := X.keep hq
      replace hx := hx.below hq
      have d0 := ble hq c0
      have d1 := ble hq c1
      generalize wr.drewN nq = wq at *
      clear hq c0 c1 t0 t1 xa0 at0 w1 w2 hlong
      go_wp2_with fail
      refine (CT _ (ht.below X.bel) hx).mono ?_
      rintro e w6 ⟨rfl, hb⟩
      replace X := X.keep hb
      replace hx := hx.below hb
      have c0 := ble hb d0
      have c1 := ble hb d1
      clear hb d0 d1
      go_wp2_with fail
      refine (CR _ (ht.below X.bel) (he.below X.bel)).mono ?_
      rintro e w7 ⟨hb, ag, pg, rfl, H8⟩
      have hal := balloc w7 (.cells #[.string u, .slice ag n pg] 26)
      have K8 := one_block' w7 (.cells #[.string u, .slice ag n pg] 26)
      have hb2 := btrans hb hal
      replace X := X.keep hb2
      replace hx := hx.below hb2
      replace H8 := H8.below hal
      have d0 := ble hb2 c0
      have d1 := ble hb2 c1
      clear hb hal hb2 c0 c1
      obtain ⟨⟨k0, k1⟩, -⟩ := blk2 K8
      go_upto_region 14 with fail
      generalize w7.heap.size = b8 at *
      generalize w7.alloc (.cells #[.string u, .slice ag n pg] 26) = wD at *
      have hwd : Below wD.heap.size wD wD.drew := bdraw (Below.refl _ _) 1
      refine wp_region_held_drew (S := (fun w' => w'.cell? ⟨b8, 0, none⟩ = some (.string u) ∧ w'.cell? ⟨b8, 1, none⟩ = some (.slice ag n pg) ∧ w'.cell? ⟨lb, lo + k * 2, none⟩ = some (.string u) ∧ w'.cell? ⟨lb, lo + k * 2 + 1, none⟩ = some (.slice (some ⟨xb, xo, none⟩) n xc))) (by kernel_rfl) ?_ (fun hHeld => ?_)
      · go_keep
      refine wpAnyH_take (i := 0) (v := .bool true) rfl (by kernel_rfl) (by kernel_rfl) (by kernel_rfl) (fun _ _ _ h => h) (Or.inl ⟨by kernel_rfl, fun w hS => by go_simp⟩) hHeld ?_
      change wpAnyH _ _ _ _ _ _ _ { tmps := List.toArray (_ :: _ :: _ :: _ :: _ :: _ :: .slice (some ⟨lb, lo, none⟩) m lc :: .int .i64 (k : Int) :: .pointer (some ⟨b8, 0, none⟩) :: .bool true :: _ :: _ :: _ :: _ :: _ :: _ :: _ :: _ :: _ :: _ :: _ :: _ :: _ :: _ :: _ :: _ :: _ :: _ :: _ :: _ :: _ :: _ :: _ :: _ :: _ :: _ :: _ :: _ :: _ :: _ :: _ :: _ :: _ :: _ :: _ :: _ :: _ :: _ :: _ :: _ :: _ :: _ :: _ :: _ :: _ :: _ :: _ :: _ :: _ :: _ :: _ :: _ :: _ :: _ :: _ :: _ :: _ :: _ :: _ :: _ :: _ :: _ :: _ :: _ :: _ :: _ :: _ :: _ :: _ :: _ :: _ :: _ :: _ :: _ :: _ :: _ :: _ :: _ :: _ :: .bool true :: _ :: _ :: _ :: _ :: _ :: _ :: _ :: _ :: _ :: _ :: []), defers := [] } _
      refine wpAnyH_take (i := 1) (v := .bool false) rfl (by kernel_rfl) (by kernel_rfl) (by kernel_rfl) (fun _ _ _ h => h) (Or.inl ⟨by kernel_rfl, fun w hS => by go_simp⟩) hHeld ?_
      change wpAnyH _ _ _ _ _ _ _ { tmps := List.toArray (_ :: _ :: _ :: _ :: _ :: _ :: .slice (some ⟨lb, lo, none⟩) m lc :: .int .i64 (k : Int) :: .pointer (some ⟨b8, 0, none⟩) :: .bool true :: _ :: _ :: _ :: _ :: _ :: _ :: _ :: _ :: _ :: _ :: _ :: _ :: _ :: _ :: _ :: _ :: _ :: _ :: _ :: _ :: _ :: _ :: _ :: _ :: _ :: _ :: _ :: _ :: _ :: _ :: _ :: _ :: _ :: _ :: _ :: _ :: _ :: _ :: _ :: _ :: _ :: _ :: _ :: _ :: _ :: _ :: _ :: _ :: _ :: _ :: _ :: _ :: _ :: _ :: _ :: _ :: _ :: _ :: _ :: _ :: _ :: _ :: _ :: _ :: _ :: _ :: _ :: _ :: _ :: _ :: _ :: _ :: _ :: _ :: _ :: _ :: _ :: _ :: _ :: .bool true :: .bool false :: _ :: _ :: _ :: _ :: _ :: _ :: _ :: _ :: _ :: []), defers := [] } _
      refine wpAnyH_take (i := 2) (v := .bool false) rfl (by kernel_rfl) (by kernel_rfl) (by kernel_rfl) (fun _ _ _ h => h) (Or.inl ⟨by kernel_rfl, fun w hS => by go_simp⟩) hHeld ?_
      change wpAnyH _ _ _ _ _ _ _ { tmps := List.toArray (_ :: _ :: _ :: _ :: _ :: _ :: .slice (some ⟨lb, lo, none⟩) m lc :: .int .i64 (k : Int) :: .pointer (some ⟨b8, 0, none⟩) :: .bool true :: _ :: _ :: _ :: _ :: _ :: _ :: _ :: _ :: _ :: _ :: _ :: _ :: _ :: _ :: _ :: _ :: _ :: _ :: _ :: _ :: _ :: _ :: _ :: _ :: _ :: _ :: _ :: _ :: _ :: _ :: _ :: _ :: _ :: _ :: _ :: _ :: _ :: _ :: _ :: _ :: _ :: _ :: _ :: _ :: _ :: _ :: _ :: _ :: _ :: _ :: _ :: _ :: _ :: _ :: _ :: _ :: _ :: _ :: _ :: _ :: _ :: _ :: _ :: _ :: _ :: _ :: _ :: _ :: _ :: _ :: _ :: _ :: _ :: _ :: _ :: _ :: _ :: _ :: _ :: .bool true :: .bool false :: .bool false :: _ :: _ :: _ :: _ :: _ :: _ :: _ :: _ :: []), defers := [] } _
      refine wpAnyH_take (i := 3) (v := .agg #[.string u, .slice ag n pg]) rfl (by kernel_rfl) (by kernel_rfl) (by kernel_rfl) (fun _ _ _ h => h) (Or.inl ⟨by kernel_rfl, fun w hS => by (obtain ⟨hS0, hS1, hS2, hS3⟩ := hS; go_simp)⟩) hHeld ?_
      change wpAnyH _ _ _ _ _ _ _ { tmps := List.toArray (_ :: _ :: _ :: _ :: _ :: _ :: .slice (some ⟨lb, lo, none⟩) m lc :: .int .i64 (k : Int) :: .pointer (some ⟨b8, 0, none⟩) :: .bool true :: _ :: _ :: _ :: _ :: _ :: _ :: _ :: _ :: _ :: _ :: _ :: _ :: _ :: _ :: _ :: _ :: _ :: _ :: _ :: _ :: _ :: _ :: _ :: _ :: _ :: _ :: _ :: _ :: _ :: _ :: _ :: _ :: _ :: _ :: _ :: _ :: _ :: _ :: _ :: _ :: _ :: _ :: _ :: _ :: _ :: _ :: _ :: _ :: _ :: _ :: _ :: _ :: _ :: _ :: _ :: _ :: _ :: _ :: _ :: _ :: _ :: _ :: _ :: _ :: _ :: _ :: _ :: _ :: _ :: _ :: _ :: _ :: _ :: _ :: _ :: _ :: _ :: _ :: _ :: .bool true :: .bool false :: .bool false :: .agg #[.string u, .slice ag n pg] :: _ :: _ :: _ :: _ :: _ :: _ :: _ :: []), defers := [] } _
      refine wpAnyH_take (i := 4) (v := .slice (some ⟨lb, lo, none⟩) m lc) rfl (by kernel_rfl) (by kernel_rfl) (by kernel_rfl) (fun _ _ _ h => h) (Or.inl ⟨by kernel_rfl, fun w hS => by go_simp⟩) hHeld ?_
      change wpAnyH _ _ _ _ _ _ _ { tmps := List.toArray (_ :: _ :: _ :: _ :: _ :: _ :: .slice (some ⟨lb, lo, none⟩) m lc :: .int .i64 (k : Int) :: .pointer (some ⟨b8, 0, none⟩) :: .bool true :: _ :: _ :: _ :: _ :: _ :: _ :: _ :: _ :: _ :: _ :: _ :: _ :: _ :: _ :: _ :: _ :: _ :: _ :: _ :: _ :: _ :: _ :: _ :: _ :: _ :: _ :: _ :: _ :: _ :: _ :: _ :: _ :: _ :: _ :: _ :: _ :: _ :: _ :: _ :: _ :: _ :: _ :: _ :: _ :: _ :: _ :: _ :: _ :: _ :: _ :: _ :: _ :: _ :: _ :: _ :: _ :: _ :: _ :: _ :: _ :: _ :: _ :: _ :: _ :: _ :: _ :: _ :: _ :: _ :: _ :: _ :: _ :: _ :: _ :: _ :: _ :: _ :: _ :: _ :: .bool true :: .bool false :: .bool false :: .agg #[.string u, .slice ag n pg] :: .slice (some ⟨lb, lo, none⟩) m lc :: _ :: _ :: _ :: _ :: _ :: _ :: []), defers := [] } _
      refine wpAnyH_take (i := 5) (v := .int .i64 (k : Int)) rfl (by kernel_rfl) (by kernel_rfl) (by kernel_rfl) (fun _ _ _ h => h) (Or.inl ⟨by kernel_rfl, fun w hS => by go_simp⟩) hHeld ?_
      change wpAnyH _ _ _ _ _ _ _ { tmps := List.toArray (_ :: _ :: _ :: _ :: _ :: _ :: .slice (some ⟨lb, lo, none⟩) m lc :: .int .i64 (k : Int) :: .pointer (some ⟨b8, 0, none⟩) :: .bool true :: _ :: _ :: _ :: _ :: _ :: _ :: _ :: _ :: _ :: _ :: _ :: _ :: _ :: _ :: _ :: _ :: _ :: _ :: _ :: _ :: _ :: _ :: _ :: _ :: _ :: _ :: _ :: _ :: _ :: _ :: _ :: _ :: _ :: _ :: _ :: _ :: _ :: _ :: _ :: _ :: _ :: _ :: _ :: _ :: _ :: _ :: _ :: _ :: _ :: _ :: _ :: _ :: _ :: _ :: _ :: _ :: _ :: _ :: _ :: _ :: _ :: _ :: _ :: _ :: _ :: _ :: _ :: _ :: _ :: _ :: _ :: _ :: _ :: _ :: _ :: _ :: _ :: _ :: _ :: .bool true :: .bool false :: .bool false :: .agg #[.string u, .slice ag n pg] :: .slice (some ⟨lb, lo, none⟩) m lc :: .int .i64 (k : Int) :: _ :: _ :: _ :: _ :: _ :: []), defers := [] } _
      refine wpAnyH_take (i := 6) (v := .pointer (some ⟨lb, lo + k * 2, none⟩)) rfl (by kernel_rfl) (by kernel_rfl) (by kernel_rfl) (fun _ _ _ h => h) (Or.inl ⟨by kernel_rfl, fun w hS => by go_simp⟩) hHeld ?_
      change wpAnyH _ _ _ _ _ _ _ { tmps := List.toArray (_ :: _ :: _ :: _ :: _ :: _ :: .slice (some ⟨lb, lo, none⟩) m lc :: .int .i64 (k : Int) :: .pointer (some ⟨b8, 0, none⟩) :: .bool true :: _ :: _ :: _ :: _ :: _ :: _ :: _ :: _ :: _ :: _ :: _ :: _ :: _ :: _ :: _ :: _ :: _ :: _ :: _ :: _ :: _ :: _ :: _ :: _ :: _ :: _ :: _ :: _ :: _ :: _ :: _ :: _ :: _ :: _ :: _ :: _ :: _ :: _ :: _ :: _ :: _ :: _ :: _ :: _ :: _ :: _ :: _ :: _ :: _ :: _ :: _ :: _ :: _ :: _ :: _ :: _ :: _ :: _ :: _ :: _ :: _ :: _ :: _ :: _ :: _ :: _ :: _ :: _ :: _ :: _ :: _ :: _ :: _ :: _ :: _ :: _ :: _ :: _ :: _ :: .bool true :: .bool false :: .bool false :: .agg #[.string u, .slice ag n pg] :: .slice (some ⟨lb, lo, none⟩) m lc :: .int .i64 (k : Int) :: .pointer (some ⟨lb, lo + k * 2, none⟩) :: _ :: _ :: _ :: _ :: []), defers := [] } _
      refine wpAnyH_take (i := 7) (v := .agg #[.string u, .slice (some ⟨xb, xo, none⟩) n xc]) rfl (by kernel_rfl) (by kernel_rfl) (by kernel_rfl) (fun _ _ _ h => h) (Or.inl ⟨by kernel_rfl, fun w hS => by (obtain ⟨hS0, hS1, hS2, hS3⟩ := hS; go_simp)⟩) hHeld ?_
      change wpAnyH _ _ _ _ _ _ _ { tmps := List.toArray (_ :: _ :: _ :: _ :: _ :: _ :: .slice (some ⟨lb, lo, none⟩) m lc :: .int .i64 (k : Int) :: .pointer (some ⟨b8, 0, none⟩) :: .bool true :: _ :: _ :: _ :: _ :: _ :: _ :: _ :: _ :: _ :: _ :: _ :: _ :: _ :: _ :: _ :: _ :: _ :: _ :: _ :: _ :: _ :: _ :: _ :: _ :: _ :: _ :: _ :: _ :: _ :: _ :: _ :: _ :: _ :: _ :: _ :: _ :: _ :: _ :: _ :: _ :: _ :: _ :: _ :: _ :: _ :: _ :: _ :: _ :: _ :: _ :: _ :: _ :: _ :: _ :: _ :: _ :: _ :: _ :: _ :: _ :: _ :: _ :: _ :: _ :: _ :: _ :: _ :: _ :: _ :: _ :: _ :: _ :: _ :: _ :: _ :: _ :: _ :: _ :: _ :: .bool true :: .bool false :: .bool false :: .agg #[.string u, .slice ag n pg] :: .slice (some ⟨lb, lo, none⟩) m lc :: .int .i64 (k : Int) :: .pointer (some ⟨lb, lo + k * 2, none⟩) :: .agg #[.string u, .slice (some ⟨xb, xo, none⟩) n xc] :: _ :: _ :: _ :: []), defers := [] } _
      refine wpAnyH_ready (rs := [8]) (by kernel_rfl) (by simp) ?_
      refine (AllReadyH.cons rfl (fun KK hK => ?_) AllReadyH.nil)
      go_simp
      go_wp2_with fail
      refine (CS ag pg _ (H8.below hwd) (hx.below hwd)).mono ?_
      rintro e w9 ⟨rfl, hb⟩
      have B1 := btrans hwd hb
      clear hb
      clear hHeld
      refine hK.out _ _ (⟨ble B1 k0, ble B1 k1, ble B1 d0, ble B1 d1⟩) (fun hHeld => ?_)
      clear hK KK
      change wpAnyH _ _ _ _ _ _ _ { tmps := List.toArray (_ :: _ :: _ :: _ :: _ :: _ :: .slice (some ⟨lb, lo, none⟩) m lc :: .int .i64 (k : Int) :: .pointer (some ⟨b8, 0, none⟩) :: .bool true :: _ :: _ :: _ :: _ :: _ :: _ :: _ :: _ :: _ :: _ :: _ :: _ :: _ :: _ :: _ :: _ :: _ :: _ :: _ :: _ :: _ :: _ :: _ :: _ :: _ :: _ :: _ :: _ :: _ :: _ :: _ :: _ :: _ :: _ :: _ :: _ :: _ :: _ :: _ :: _ :: _ :: _ :: _ :: _ :: _ :: _ :: _ :: _ :: _ :: _ :: _ :: _ :: _ :: _ :: _ :: _ :: _ :: _ :: _ :: _ :: _ :: _ :: _ :: _ :: _ :: _ :: _ :: _ :: _ :: _ :: _ :: _ :: _ :: _ :: _ :: _ :: _ :: _ :: _ :: .bool true :: .bool false :: .bool false :: .agg #[.string u, .slice ag n pg] :: .slice (some ⟨lb, lo, none⟩) m lc :: .int .i64 (k : Int) :: .pointer (some ⟨lb, lo + k * 2, none⟩) :: .agg #[.string u, .slice (some ⟨xb, xo, none⟩) n xc] :: .bool true :: _ :: _ :: []), defers := [] } _
      refine wpAnyH_take (i := 9) (v := .bool false) rfl (by kernel_rfl) (by kernel_rfl) (by kernel_rfl) (fun _ _ _ h => h) (Or.inl ⟨by kernel_rfl, fun w hS => by go_simp⟩) hHeld ?_
      change wpAnyH _ _ _ _ _ _ _ { tmps := List.toArray (_ :: _ :: _ :: _ :: _ :: _ :: .slice (some ⟨lb, lo, none⟩) m lc :: .int .i64 (k : Int) :: .pointer (some ⟨b8, 0, none⟩) :: .bool true :: _ :: _ :: _ :: _ :: _ :: _ :: _ :: _ :: _ :: _ :: _ :: _ :: _ :: _ :: _ :: _ :: _ :: _ :: _ :: _ :: _ :: _ :: _ :: _ :: _ :: _ :: _ :: _ :: _ :: _ :: _ :: _ :: _ :: _ :: _ :: _ :: _ :: _ :: _ :: _ :: _ :: _ :: _ :: _ :: _ :: _ :: _ :: _ :: _ :: _ :: _ :: _ :: _ :: _ :: _ :: _ :: _ :: _ :: _ :: _ :: _ :: _ :: _ :: _ :: _ :: _ :: _ :: _ :: _ :: _ :: _ :: _ :: _ :: _ :: _ :: _ :: _ :: _ :: _ :: .bool true :: .bool false :: .bool false :: .agg #[.string u, .slice ag n pg] :: .slice (some ⟨lb, lo, none⟩) m lc :: .int .i64 (k : Int) :: .pointer (some ⟨lb, lo + k * 2, none⟩) :: .agg #[.string u, .slice (some ⟨xb, xo, none⟩) n xc] :: .bool true :: .bool false :: _ :: []), defers := [] } _
      refine wpAnyH_take (i := 10) (v := .bool false) rfl (by kernel_rfl) (by kernel_rfl) (by kernel_rfl) (fun _ _ _ h => h) (Or.inl ⟨by kernel_rfl, fun w hS => by go_simp⟩) hHeld ?_
      change wpAnyH _ _ _ _ _ _ _ { tmps := List.toArray (_ :: _ :: _ :: _ :: _ :: _ :: .slice (some ⟨lb, lo, none⟩) m lc :: .int .i64 (k : Int) :: .pointer (some ⟨b8, 0, none⟩) :: .bool true :: _ :: _ :: _ :: _ :: _ :: _ :: _ :: _ :: _ :: _ :: _ :: _ :: _ :: _ :: _ :: _ :: _ :: _ :: _ :: _ :: _ :: _ :: _ :: _ :: _ :: _ :: _ :: _ :: _ :: _ :: _ :: _ :: _ :: _ :: _ :: _ :: _ :: _ :: _ :: _ :: _ :: _ :: _ :: _ :: _ :: _ :: _ :: _ :: _ :: _ :: _ :: _ :: _ :: _ :: _ :: _ :: _ :: _ :: _ :: _ :: _ :: _ :: _ :: _ :: _ :: _ :: _ :: _ :: _ :: _ :: _ :: _ :: _ :: _ :: _ :: _ :: _ :: _ :: _ :: .bool true :: .bool false :: .bool false :: .agg #[.string u, .slice ag n pg] :: .slice (some ⟨lb, lo, none⟩) m lc :: .int .i64 (k : Int) :: .pointer (some ⟨lb, lo + k * 2, none⟩) :: .agg #[.string u, .slice (some ⟨xb, xo, none⟩) n xc] :: .bool true :: .bool false :: .bool false :: []), defers := [] } _
      refine wpAnyH_done (by kernel_rfl) ?_ _
      replace X := X.keep B1
      clear d0 d1 k0 k1 B1 hwd
      go_wp2_with fail
      go_roundw
      case rel => exact ⟨k + 1, by omega, by go_num, X⟩
      case measure => simp [intOf]; omega
    · obtain rfl : k = m := by omega
      go_wp2
      go_ret
      exact ⟨rfl, X.bel⟩
end Go.Proofs.YthlmaljgnhakfaaGreatDoor
