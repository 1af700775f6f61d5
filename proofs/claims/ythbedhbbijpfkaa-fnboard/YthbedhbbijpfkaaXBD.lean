/- The walk of FnBoard. -/
import Derived.Test.YthbedhbbijpfkaaBDT
import Derived.Test.YthbedhbbijpfkaaBS
import Derived.Deep.QuietTactic
import Derived.BigQuiet
namespace Go.Proofs.Ythbedhbbijpfkaa
open Go.RowKit
theorem sort_oneD {ts : List TripV} {wn : HaltV → Bool} {ds es : List (Nat × Nat)} (hp : ds.Perm (depsOf ts wn)) (hs : SortX ts ds) (hq : es.Perm (depsOf ts wn)) (ht : SortX ts es) : ds = es := by
  have h := bd_take (sortX_strict hp hs) (sortX_strict hq ht) (fun x hx => hp.symm.subset (hq.subset hx)) (fun x hx hn => absurd (hq.symm.subset (hp.subset hx)) hn)
  rw [h, hq.length_eq, ← hp.length_eq, List.take_length]
theorem deps_wantD {ts : List TripV} {n r : Int} {x : Nat × Nat} (h : x ∈ depsOf ts (wantB n r)) : x.1 < ts.length ∧ x.2 + 1 < ncA ts x.1 ∧ (hcA ts x.1 x.2).n = n ∧ r ≤ (hcA ts x.1 x.2).d := by
  unfold depsOf at h
  rw [List.mem_flatMap] at h
  obtain ⟨i, hi, h⟩ := h
  rw [List.mem_map] at h
  obtain ⟨k, hk, rfl⟩ := h
  obtain ⟨h1, h2⟩ := List.mem_filter.1 hk
  have := List.mem_range.1 h1
  simp only [wantB, Bool.and_eq_true, decide_eq_true_eq] at h2
  exact ⟨List.mem_range.1 hi, by dsimp only; omega, h2.1, h2.2⟩
/-- The cells of an entry of a row. -/
theorem ent_cells {w : World} {B n cap : Nat} {a : Option Addr} {ds : List (Nat × Nat)} (h : w.ownsRow B 35 2 (.slice a n cap) n (flatEntries (entL ds))) {j : Nat} (hj : j < ds.length) :
    ∃ g, a = some ⟨g, 0, none⟩ ∧ w.cell? ⟨g, j * 2, none⟩ = some (.int .i64 ((ds.getD j (0, 0)).1 : Int)) ∧ w.cell? ⟨g, j * 2 + 1, none⟩ = some (.int .i64 ((ds.getD j (0, 0)).2 : Int)) := by
  have hl := h.1
  rw [flatEntries_len, entL_len] at hl
  rcases h.2 with ⟨_, h0⟩ | ⟨g, cap', cur, he, _⟩
  · omega
  · simp only [Value.slice.injEq] at he
    obtain ⟨rfl, _, rfl⟩ := he
    obtain ⟨f0, f1⟩ := flatEntries_get (entL ds) j (by rw [entL_len]; exact hj)
    rw [entL_get ds hj] at f0 f1
    refine ⟨g, rfl, ?_, ?_⟩
    · rw [h.cellAt _ (by omega), f0]; simp [List.getD, hj]
    · rw [h.cellAt _ (by omega), f1]; simp [List.getD, hj]
/-- What is told of a board: each is a departure, in order. -/
structure BdT (ts : List TripV) (n r : Int) (ds : List (Nat × Nat)) : Prop where
  inn : ∀ j, j < ds.length → (ds.getD j (0, 0)).1 < ts.length ∧ (ds.getD j (0, 0)).2 + 1 < ncA ts (ds.getD j (0, 0)).1 ∧ (hcA ts (ds.getD j (0, 0)).1 (ds.getD j (0, 0)).2).n = n ∧ r ≤ (hcA ts (ds.getD j (0, 0)).1 (ds.getD j (0, 0)).2).d
  ord : ∀ j, j + 1 < ds.length → cmpX ts (ds.getD j (0, 0)) (ds.getD (j + 1) (0, 0)) < 0
theorem bdT {ts : List TripV} {n r : Int} {ds : List (Nat × Nat)} (hp : ds.Perm (depsOf ts (wantB n r))) (hs : SortX ts ds) : BdT ts n r ds := by
  have hx := sortX_strict hp hs
  refine ⟨fun j hj => ?_, fun j hj => ?_⟩
  · rw [show ds.getD j (0, 0) = ds[j] by simp [List.getD, hj]]
    exact deps_wantD (hp.subset (List.getElem_mem hj))
  · rw [show ds.getD j (0, 0) = ds[j] by simp [List.getD, show j < ds.length by omega], show ds.getD (j + 1) (0, 0) = ds[j + 1] by simp [List.getD, hj]]
    exact (List.pairwise_iff_getElem.1 hx) j (j + 1) (by omega) hj (by omega)
/-- The first of them. -/
theorem take_getD {ds : List (Nat × Nat)} {q j : Nat} (h : j < q) : (ds.take q).getD j (0, 0) = ds.getD j (0, 0) := by
  simp [List.getD, h]
/-- What a law reads of a place: the trip's calls, and the call. -/
theorem at_place {w wr : World} {ao : Option Addr} {ts : List TripV} (hz : Trips w ao ts) (hb : Below w.heap.size w wr) {i k : Nat} (hi : i < ts.length) (hk : k < ncA ts i) :
    ∃ b off cb co cc, ao = some ⟨b, off, none⟩ ∧ wr.cell? ⟨b, off + i * 2 + 1, none⟩ = some (.slice (some ⟨cb, co, none⟩) (ncA ts i) cc) ∧ wr.cell? ⟨cb, co + k * 3, none⟩ = some (.int .i64 (hcA ts i k).n) ∧ wr.cell? ⟨cb, co + k * 3 + 1, none⟩ = some (.int .i64 (hcA ts i k).a) ∧ wr.cell? ⟨cb, co + k * 3 + 2, none⟩ = some (.int .i64 (hcA ts i k).d) := by
  obtain ⟨b, off, n, c, rfl, -, h2, -, h4⟩ := hz.at hi
  obtain ⟨cb, co, rfl, q0, q1, q2⟩ := call_cells h4 hk
  exact ⟨b, off, cb, co, c, rfl, ble hb h2, ble hb q0, ble hb q1, ble hb q2⟩

/-- A call in a box of its own. -/
def GotOneD (W : World) (n a d : Int) (cv : Value) (wc : World) : Prop := ∃ q, cv = .pointer (some ⟨q, 0, none⟩) ∧ wc.heap[q]? = some (.cells #[.int .i64 n, .int .i64 a, .int .i64 d] 33 (0, 0)) ∧ Below W.heap.size W wc
theorem GotOneD.mk (W : World) (n a d : Int) (k : Nat) : GotOneD W n a d (.pointer (some ⟨W.heap.size, 0, none⟩)) ((W.drewN k).alloc (.cells #[.int .i64 n, .int .i64 a, .int .i64 d] 33)) :=
  ⟨_, rfl, one_block (W.drewN k) _, btrans (bdraw (Below.refl _ _) k) (balloc _ _)⟩
theorem GotOneD.mk1 (W : World) (n a d : Int) : GotOneD W n a d (.pointer (some ⟨W.heap.size, 0, none⟩)) ((W.drew).alloc (.cells #[.int .i64 n, .int .i64 a, .int .i64 d] 33)) := GotOneD.mk W n a d 1
theorem keepD {w w' : World} {b : Nat} {o : Obj} (hb : Below w.heap.size w w') (h : w.heap[b]? = some o) : w'.heap[b]? = some o := (hb.block b (lt_of_block h)).trans h
set_option maxRecDepth 100000 in
set_option maxHeartbeats 6400000 in
theorem walkBoardD (a : Option Addr) (cap : Nat) (zs : List Int) (w : World) (hz : Bytes w a zs) (hm : zs.length ≤ maxLen) :
    Calls Try.prog 3 #[.slice a zs.length cap] w fun e w' => e = .returned (.bool true) ∧ Below w.heap.size w w' := by
  by_cases hbig : 1048576 < zs.length
  · have hd : decide (1048576 < zs.length) = true := by simp [hbig]
    go_enter Try.func3, Try.ntmps3
    go_wp2_with fail
    refine (cbig a cap zs.length _ hm).mono ?_
    rintro e w1 ⟨rfl, hw⟩
    subst w1
    rw [hd]
    go_wp2
    go_ret
    exact ⟨rfl, Below.refl _ _⟩
  have hd : decide (1048576 < zs.length) = false := by simp; omega
  have hl : zs.length ≤ 1048576 := by omega
  have hat3 := atZ_in hz 3
  have hat4 := atZ_in hz 4
  have hat5 := atZ_in hz 5
  go_enter Try.func3, Try.ntmps3
  go_wp2_with fail
  refine (cbig a cap zs.length _ hm).mono ?_
  rintro e w1 ⟨rfl, hw⟩
  subst w1
  rw [hd]
  clear hd hbig hm
  go_wp2_with fail
  refine (cDrawTb a cap zs _ hz hl).mono ?_
  rintro e w1 ⟨ao, cp, ts, rfl, hT, hS, hTab, HB⟩
  replace hz := hz.below HB
  go_wp2_with fail
  refine (cat a cap zs 3 _ hz hl (by omega)).mono ?_
  rintro e w2 ⟨rfl, hw⟩
  subst w2
  go_wp2_with fail
  refine (cat a cap zs 4 _ hz hl (by omega)).mono ?_
  rintro e w2 ⟨rfl, hw⟩
  subst w2
  obtain ⟨z5, hz5⟩ : ∃ z5, atZ zs 5 = z5 := ⟨_, rfl⟩
  rw [hz5] at hat5
  generalize atZ zs 3 = z3 at *
  generalize atZ zs 4 = z4 at *
  obtain ⟨n1, n2, n3⟩ := rem_in (x := z3) (n := 5) hat3.1 (by omega) (by omega)
  obtain ⟨m1, m2, m3⟩ := rem_in (x := z4) (n := 90) hat4.1 (by omega) (by omega)
  obtain ⟨l1, l2, l3⟩ := rem_in (x := z5) (n := 4) hat5.1 (by omega) (by omega)
  obtain ⟨nd, hnd⟩ : ∃ nd, z3 % 5 = nd := ⟨_, rfl⟩
  obtain ⟨mn, hmn⟩ : ∃ mn, z4 % 90 = mn := ⟨_, rfl⟩
  obtain ⟨cn, hcn⟩ : ∃ cn : Nat, z5 % 4 = (cn : Int) := ⟨(z5 % 4).toNat, by omega⟩
  have hok : Hid (BoardOk ts 50) := hide ⟨hTab, by omega, by omega⟩
  have hok2 : Hid (BoardOk ts (cn : Int)) := hide ⟨hTab, by omega, by omega⟩
  have hg := hide (table_gd hTab)
  have hfew := hg.out.few
  have hS2 := hide hS
  have hT2 := hide hT
  clear hTab hS hT
  replace hnd := hide hnd
  replace hmn := hide hmn
  replace hcn := hide hcn
  go_wp2_with fail
  rw [hnd.out, hmn.out]
  refine (cBoardI ao cp ts nd mn 50 _ hT2.out hS2.out).mono ?_
  rintro e w3 hA
  obtain ⟨hb, ⟨-, v, ds, rfl, hp, hs, hO⟩ | ⟨hn, -⟩⟩ := hA
  rotate_left
  · exact absurd hok.out hn
  rw [show ((50 : Int).toNat) = 50 from rfl] at hO
  obtain ⟨va, vc, rfl⟩ := own_form hO
  have hDL := hp.length_eq
  have hd8 := deps_288 hg.out (wantB nd mn)
  have hBt := hide (bdT hp hs)
  obtain ⟨Q, hQ⟩ : ∃ Q, (ds.take 50).length = Q := ⟨_, rfl⟩
  rw [hQ] at hO ⊢
  have hQl := hQ
  rw [List.length_take] at hQl
  have hcell := hide (fun j (hj : j < Q) => ent_cells hO (j := j) (by rw [hQ]; exact hj))
  have hE : Hid (depsI ts (wantB nd mn) ts.length = depsOf ts (wantB nd mn)) := hide rfl
  have hT3 := hide (hT2.out.below hb)
  have hz3 := hz.below hb
  replace HB := btrans HB hb
  have hps := hide (And.intro hp hs)
  obtain ⟨D, hD⟩ : ∃ D, (depsOf ts (wantB nd mn)).length = D := ⟨_, rfl⟩
  have hDds : ds.length = D := by omega
  have hQD : Q = min 50 D := by omega
  have hD8 : D ≤ 288 := by omega
  replace hQD := hide hQD
  replace hD := hide hD
  replace hQ := hide hQ
  replace hDds := hide hDds
  have hO3 := hide hO
  clear hp hs hb hT2 hz hDL hd8 hQl hO hok n1 n2 n3 m1 m2 m3 hnd hmn hat3 hat4
  clear l1
  have hlt9 : ∀ i, i ≤ ts.length → (depsI ts (wantB nd mn) i).length ≤ i * 12 := fun i hi => by have := deps_few hg.out (wantB nd mn) i hi; omega
  replace hlt9 := hide hlt9
  go_wp2
  go_loop [7, 8, 9] (fun du ii _ => ∃ i : Nat, i ≤ ts.length ∧ ii = .int .i64 i ∧ du = .int .i64 (((depsI ts (wantB nd mn) i).length : Nat) : Int)) (fun _ ii _ => ts.length - (intOf ii).toNat)
  case atStart => exact ⟨0, Nat.zero_le _, rfl, by simp [depsI]⟩
  case round =>
    obtain ⟨i, hil, rfl, rfl⟩ := hrel
    have hle := hlt9.out i hil
    by_cases hit : i < ts.length
    · have hi' : (i : Int) < (ts.length : Int) := by omega
      have hi0' : (0 : Int) ≤ (i : Int) := by omega
      obtain ⟨tb, toff, na, nc, rfl, -, c2, -, c3⟩ := hT3.out.at hit
      change w3.cell? _ = some (.slice na (ncA ts i) nc) at c2
      have hcs := hide (fun k (hk : k < ncA ts i) => call_cells c3 hk)
      obtain ⟨l1', l2'⟩ := hg.out.len i hit
      obtain ⟨cb, co, rfl, -⟩ := hcs.out 0 (by omega)
      have hK1 := hide (depsI_succ ts (wantB nd mn) i)
      have hK0 := depsK_zero ts (wantB nd mn) i
      rw [← hK0] at hle ⊢
      clear hK0
      go_wp2
      go_loop [7, 9] (fun du kk => ∃ k : Nat, k + 1 ≤ ncA ts i ∧ kk = .int .i64 k ∧ du = .int .i64 (((depsK ts (wantB nd mn) i k).length : Nat) : Int) ∧ Hid ((depsK ts (wantB nd mn) i k).length ≤ i * 12 + k)) (fun _ kk => ncA ts i - (intOf kk).toNat)
      case atStart => exact ⟨0, by omega, rfl, rfl, hide (by omega)⟩
      case round =>
        clear hle
        obtain ⟨k, hkl, rfl, rfl, hle⟩ := hrel
        have hle' := hle.out
        have hk0 : (0 : Int) ≤ (k : Int) := by omega
        have hw1 : IntKind.i64.wrap ((k : Int) + 1) = (k : Int) + 1 := wrap_in _ (by omega) (by omega)
        by_cases hk : k + 1 < ncA ts i
        · have hk1 : (k : Int) + 1 < ((ncA ts i : Nat) : Int) := by omega
          have hk2 : (k : Int) < ((ncA ts i : Nat) : Int) := by omega
          obtain ⟨cb2, co2, hE2, q0, q1, q2⟩ := hcs.out k (by omega)
          simp only [Option.some.injEq, Addr.mk.injEq, and_true] at hE2
          obtain ⟨rfl, rfl⟩ := hE2
          have hY := hide (depsK_yes (ts := ts) (wn := wantB nd mn) (i := i) (k := k))
          have hN := hide (depsK_no (ts := ts) (wn := wantB nd mn) (i := i) (k := k))
          obtain ⟨xn, hxn⟩ : ∃ xn, (hcA ts i k).n = xn := ⟨_, rfl⟩
          obtain ⟨xd, hxd⟩ : ∃ xd, (hcA ts i k).d = xd := ⟨_, rfl⟩
          have hwk : Hid (wantB nd mn (hcA ts i k) = (decide (xn = nd) && decide (mn ≤ xd))) := hide (by rw [← hxn, ← hxd]; rfl)
          rw [hxn] at q0
          rw [hxd] at q2
          replace hxn := hide hxn
          replace hxd := hide hxd
          by_cases h1 : xn = nd
          · by_cases h2 : mn ≤ xd
            · have hwt : wantB nd mn (hcA ts i k) = true := by rw [hwk.out, decide_eq_true h1, decide_eq_true h2]; rfl
              have hL := hide (hY.out hwt)
              have hlen : Hid ((depsK ts (wantB nd mn) i (k + 1)).length = (depsK ts (wantB nd mn) i k).length + 1) := hide (by rw [hL.out]; simp)
              clear hY hN hwk hwt hL hxn
              subst h1
              go_wp2
              go_round
              case rel => exact ⟨k + 1, by omega, by go_num, by rw [hlen.out]; go_num, hide (by have := hlen.out; omega)⟩
              case measure => simp [intOf]; omega
            · have hL := hide (hN.out (by rw [hwk.out, decide_eq_false h2, Bool.and_false]))
              clear hY hN hwk hxn
              subst h1
              go_wp2
              go_round
              case rel => exact ⟨k + 1, by omega, by go_num, by rw [hL.out], hide (by rw [hL.out]; omega)⟩
              case measure => simp [intOf]; omega
          · have hL := hide (hN.out (by rw [hwk.out, decide_eq_false h1, Bool.false_and]))
            clear hY hN hwk
            go_wp2
            go_round
            case rel => exact ⟨k + 1, by omega, by go_num, by rw [hL.out], hide (by rw [hL.out]; omega)⟩
            case measure => simp [intOf]; omega
        · have hk1 : ¬ ((k : Int) + 1 < ((ncA ts i : Nat) : Int)) := by omega
          have hke : Hid (depsI ts (wantB nd mn) (i + 1) = depsK ts (wantB nd mn) i k) := hide (by rw [hK1.out]; congr 1; omega)
          go_wp2
          go_round
          case rel => exact ⟨i + 1, by omega, by go_num, by rw [hke.out]⟩
          case measure => simp [intOf]; omega
    · have hi' : ¬ ((i : Int) < (ts.length : Int)) := by omega
      obtain rfl : i = ts.length := by omega
      rw [hE.out, hD.out]
      clear hle hlt9
      go_upto_if 75 with fail
      go_cut [7] from 74 (fun dv wc => dv = .int .i64 (Q : Int) ∧ wc = w3)
      case first =>
        by_cases h50 : 50 < D
        · have h50' : (50 : Int) < (D : Int) := by omega
          have hq : Hid (Q = 50) := hide (by have := hQD.out; omega)
          go_wp2_with fail
          go_meet
          exact ⟨by rw [hq.out]; rfl, rfl⟩
        · have h50' : ¬ ((50 : Int) < (D : Int)) := by omega
          have hq : Hid (Q = D) := hide (by have := hQD.out; omega)
          go_wp2_with fail
          go_meet
          exact ⟨by rw [hq.out], rfl⟩
      case rest =>
      obtain ⟨rfl, hwc⟩ := hcut
      subst wc
      have hQn : ((Q : Int) != (Q : Int)) = false := by simp
      have hQ50 : Q ≤ 50 := by have := hQD.out; omega
      have hB1 := hide (fun j (hj : j < Q) => hBt.out.inn j (by have := hDds.out; have := hQD.out; omega))
      have hB2 := hide (fun j (hj : j + 1 < Q) => hBt.out.ord j (by have := hDds.out; have := hQD.out; omega))
      clear hi' hBt hE
      go_wp2
      clear hQn
      go_loopw [10, 11, 12, 13, 14] (fun ii _ _ _ _ wr => ∃ j : Nat, j ≤ Q ∧ ii = .int .i64 j ∧ Below w3.heap.size w3 wr) (fun ii _ _ _ _ _ => Q - (intOf ii).toNat)
      case atStart => exact ⟨0, Nat.zero_le _, rfl, Below.refl _ _⟩
      case round =>
        obtain ⟨j, hj, rfl, hb⟩ := hrel
        by_cases hlt : j < Q
        · have hj0 : (0 : Int) ≤ (j : Int) := by omega
          have hj1 : (j : Int) < (Q : Int) := by omega
          obtain ⟨g, rfl, e0, e1⟩ := hcell.out j hlt
          rw [take_getD (by omega)] at e0 e1
          replace e0 := ble hb e0
          replace e1 := ble hb e1
          obtain ⟨y1, y2, y3, y4⟩ := hB1.out j hlt
          have hord := hide (hB2.out (j - 1))
          obtain ⟨y, hy⟩ : ∃ y, ds.getD j (0, 0) = y := ⟨_, rfl⟩
          rw [hy] at e0 e1 y1 y2 y3 y4
          replace hy := hide hy
          obtain ⟨yt, yk⟩ := y
          dsimp only at e0 e1 y1 y2 y3 y4
          obtain ⟨tb, toff, cb, co, cc, rfl, t1, q0, q1, q2⟩ := at_place hT3.out hb y1 (k := yk) (by omega)
          obtain ⟨X, hX⟩ : ∃ X, hcA ts yt yk = X := ⟨_, rfl⟩
          rw [hX] at q0 q1 q2 y3 y4
          obtain ⟨xn, xa, xd⟩ := X
          dsimp only at q0 q1 q2 y3 y4
          replace hX := hide hX
          subst y3
          have z1 : ((yt : Nat) : Int) < (ts.length : Int) := by omega
          have z2 : (0 : Int) ≤ (yt : Int) := by omega
          have z3 : ((yk : Nat) : Int) < (ncA ts yt : Int) := by omega
          have z4 : (0 : Int) ≤ (yk : Int) := by omega
          have z5 : ((yk : Nat) : Int) + 1 < (ncA ts yt : Int) := by omega
          have l12 := (hg.out.len yt y1).2
          have z6 : IntKind.i64.wrap ((yk : Int) + 1) = (yk : Int) + 1 := wrap_in _ (by omega) (by omega)
          have hb1 := balloc wr (.cells #[.int .i64 (yt : Int), .int .i64 (yk : Int)] 35)
          have K1 := one_block wr (.cells #[.int .i64 (yt : Int), .int .i64 (yk : Int)] 35)
          obtain ⟨be, hbe⟩ : ∃ be, wr.heap.size = be := ⟨_, rfl⟩
          rw [hbe] at K1
          replace hbe := hide hbe
          obtain ⟨⟨f0, f1⟩, -⟩ := blk2 K1
          have HB1 := btrans hb hb1
          have t1' := ble hb1 t1
          have nd1 : decide ((yt : Int) < 0) = false := by simp
          have nd2 : decide ((ts.length : Int) ≤ (yt : Int)) = false := by simp; omega
          have nd3 : decide ((yk : Int) < 0) = false := by simp
          have nd4 : decide ((ncA ts yt : Int) ≤ (yk : Int) + 1) = false := by simp; omega
          go_wp2_with fail
          rw [hbe.out]
          generalize wr.alloc (.cells #[.int .i64 (yt : Int), .int .i64 (yk : Int)] 35) = w1 at *
          go_quiet (fail)
          have Bq : Below w1.heap.size w1 (w1.drewN nq) := bdraw (Below.refl _ _) nq
          generalize w1.drewN nq = wq at *
          have HBq := btrans HB1 Bq
          replace f0 := ble Bq f0
          replace f1 := ble Bq f1
          have B1q := btrans hb1 Bq
          have t2 := ble B1q t1
          replace q0 := ble B1q q0
          replace q1 := ble B1q q1
          replace q2 := ble B1q q2
          have K2 := blk_keep Bq K1
          have s1 := cell_lt f0
          have s2 := cell_lt t2
          have s3 := cell_lt q0
          have d1 : wq.heap.size ≠ be := Nat.ne_of_gt s1
          have d2 : wq.heap.size ≠ tb := Nat.ne_of_gt s2
          have d3 : wq.heap.size ≠ cb := Nat.ne_of_gt s3
          clear nd1 nd2 nd3 nd4 t1' e0 e1 Bq hb1 HB1 B1q K1 t1
          go_upto_region 25 with fail
          go_cut [12] from 80 to 187 (fun cv wc => GotOneD wq xn xa xd cv wc)
          case first =>
            go_region_held3 (fun w' => w'.cell? ⟨be, 0, none⟩ = some (.int .i64 (yt : Int)) ∧ w'.cell? ⟨be, 1, none⟩ = some (.int .i64 (yk : Int)) ∧ w'.cell? ⟨tb, toff + yt * 2 + 1, none⟩ = some (.slice (some ⟨cb, co, none⟩) (ncA ts yt) cc) ∧ w'.cell? ⟨cb, co + yk * 3, none⟩ = some (.int .i64 xn) ∧ w'.cell? ⟨cb, co + yk * 3 + 1, none⟩ = some (.int .i64 xa) ∧ w'.cell? ⟨cb, co + yk * 3 + 2, none⟩ = some (.int .i64 xd)) (go_keep) (fail)
            go_wp2_with fail
            go_meet
            first | exact GotOneD.mk _ _ _ _ _ | exact GotOneD.mk1 _ _ _ _
          case rest =>
          obtain ⟨bq, rfl, C0, B2⟩ := hcut
          clear q0 q1 q2 s1 s2 s3 d1 d2 d3 t2
          replace K2 := keepD B2 K2
          replace HBq := btrans HBq B2
          obtain ⟨⟨f0', f1'⟩, -⟩ := blk2 K2
          have c0 : wc.cell? ⟨bq, 0, none⟩ = some (.int .i64 xn) := Go.Joins.cell_of_block C0 0
          have c1 : wc.cell? ⟨bq, 1, none⟩ = some (.int .i64 xa) := Go.Joins.cell_of_block C0 1
          have c2 : wc.cell? ⟨bq, 2, none⟩ = some (.int .i64 xd) := Go.Joins.cell_of_block C0 2
          clear f0 f1
          by_cases hjp : 0 < j
          · have hjp' : (0 : Int) < (j : Int) := by omega
            obtain ⟨p, hpd⟩ : ∃ p, p = j - 1 := ⟨_, rfl⟩
            have hpl : p < Q := by omega
            have hwp : IntKind.i64.wrap ((j : Int) - 1) = (p : Int) := by rw [wrap_in _ (by omega) (by omega)]; omega
            have hp0 : (0 : Int) ≤ (p : Int) := by omega
            have hp1 : (p : Int) < (Q : Int) := by omega
            obtain ⟨g2, hg2, e0, e1⟩ := hcell.out p hpl
            simp only [Option.some.injEq, Addr.mk.injEq, and_true] at hg2
            subst hg2
            rw [take_getD (by omega)] at e0 e1
            replace e0 := ble HBq e0
            replace e1 := ble HBq e1
            obtain ⟨v1, v2, -, -⟩ := hB1.out p hpl
            have ho := hB2.out p (by omega)
            rw [show p + 1 = j by omega, hy.out] at ho
            obtain ⟨y', hy'⟩ : ∃ y', ds.getD p (0, 0) = y' := ⟨_, rfl⟩
            rw [hy'] at e0 e1 v1 v2 ho
            replace hy' := hide hy'
            replace hpd := hide hpd
            obtain ⟨pt, pk⟩ := y'
            rw [cmpX_lt] at ho
            dsimp only at e0 e1 v1 v2 ho
            rw [hX.out] at ho
            obtain ⟨tb2, toff2, cb2, co2, cc2, hao, t1, q0, q1, q2⟩ := at_place hT3.out HBq v1 (k := pk) (by omega)
            simp only [Option.some.injEq, Addr.mk.injEq, and_true] at hao
            obtain ⟨rfl, rfl⟩ := hao
            obtain ⟨Y, hY⟩ : ∃ Y, hcA ts pt pk = Y := ⟨_, rfl⟩
            rw [hY] at q0 q1 q2 ho
            obtain ⟨pn, pa, pd⟩ := Y
            dsimp only at q0 q1 q2 ho
            replace hY := hide hY
            have hoH := hide ho
            clear ho
            have z1' : ((pt : Nat) : Int) < (ts.length : Int) := by omega
            have z2' : (0 : Int) ≤ (pt : Int) := by omega
            have z3' : ((pk : Nat) : Int) < (ncA ts pt : Int) := by omega
            have z4' : (0 : Int) ≤ (pk : Int) := by omega
            have hb1 := balloc wc (.cells #[.int .i64 (pt : Int), .int .i64 (pk : Int)] 35)
            have K1 := one_block wc (.cells #[.int .i64 (pt : Int), .int .i64 (pk : Int)] 35)
            obtain ⟨bp, hbp⟩ : ∃ bp, wc.heap.size = bp := ⟨_, rfl⟩
            rw [hbp] at K1
            replace hbp := hide hbp
            have HB1 := btrans HBq hb1
            have C1 := keepD hb1 C0
            have K3 := keepD hb1 K2
            clear f0' f1' K2 C0
            go_wp2_with fail
            rw [hbp.out]
            have t1' := ble hb1 t1
            replace q0 := ble hb1 q0
            replace q1 := ble hb1 q1
            replace q2 := ble hb1 q2
            clear hb1 t1 e0 e1 c0 c1 c2
            generalize wc.alloc (.cells #[.int .i64 (pt : Int), .int .i64 (pk : Int)] 35) = w1 at *
            obtain ⟨⟨g0, g1⟩, -⟩ := blk2 K1
            have s1 := cell_lt g0
            have s2 := cell_lt t1'
            have s3 := cell_lt q0
            have d1 : w1.heap.size ≠ bp := Nat.ne_of_gt s1
            have d2 : w1.heap.size ≠ tb := Nat.ne_of_gt s2
            have d3 : w1.heap.size ≠ cb2 := Nat.ne_of_gt s3
            go_upto_region 30 with fail
            go_cut [14] from 80 to 187 (fun cv wd => GotOneD w1 pn pa pd cv wd)
            case first =>
              go_region_held3 (fun w' => w'.cell? ⟨bp, 0, none⟩ = some (.int .i64 (pt : Int)) ∧ w'.cell? ⟨bp, 1, none⟩ = some (.int .i64 (pk : Int)) ∧ w'.cell? ⟨tb, toff + pt * 2 + 1, none⟩ = some (.slice (some ⟨cb2, co2, none⟩) (ncA ts pt) cc2) ∧ w'.cell? ⟨cb2, co2 + pk * 3, none⟩ = some (.int .i64 pn) ∧ w'.cell? ⟨cb2, co2 + pk * 3 + 1, none⟩ = some (.int .i64 pa) ∧ w'.cell? ⟨cb2, co2 + pk * 3 + 2, none⟩ = some (.int .i64 pd)) (go_keep) (fail)
              go_wp2_with fail
              go_meet
              first | exact GotOneD.mk _ _ _ _ _ | exact GotOneD.mk1 _ _ _ _
            case rest =>
            obtain ⟨br, rfl, D0, B3⟩ := hcut
            clear g0 g1 t1' q0 q1 q2 s1 s2 s3 d1 d2 d3
            replace HB1 := btrans HB1 B3
            replace C1 := keepD B3 C1
            replace K1 := keepD B3 K1
            replace K3 := keepD B3 K3
            have x0 : wc.cell? ⟨be, 0, none⟩ = some (.int .i64 (yt : Int)) := Go.Joins.cell_of_block K3 0
            have x1 : wc.cell? ⟨be, 1, none⟩ = some (.int .i64 (yk : Int)) := Go.Joins.cell_of_block K3 1
            have x2 : wc.cell? ⟨bq, 2, none⟩ = some (.int .i64 xd) := Go.Joins.cell_of_block C1 2
            have x3 : wc.cell? ⟨bp, 0, none⟩ = some (.int .i64 (pt : Int)) := Go.Joins.cell_of_block K1 0
            have x4 : wc.cell? ⟨bp, 1, none⟩ = some (.int .i64 (pk : Int)) := Go.Joins.cell_of_block K1 1
            have x5 : wc.cell? ⟨br, 2, none⟩ = some (.int .i64 pd) := Go.Joins.cell_of_block D0 2
            clear C1 K1 K3 D0 B3
            rcases hoH.out with h1 | ⟨h1, h2 | ⟨h2, h3⟩⟩
            · clear hoH
              have n1 : ¬ xd < pd := by omega
              have n2 : ¬ pd = xd := by omega
              go_wp2
              go_roundw
              case rel => exact ⟨j + 1, by omega, by go_num, HB1⟩
              case measure => simp [intOf]; omega
            · clear hoH
              subst h1
              have n1 : ¬ ((yt : Int) < (pt : Int)) := by omega
              have n2 : ¬ ((pt : Int) = (yt : Int)) := by omega
              go_wp2
              go_roundw
              case rel => exact ⟨j + 1, by omega, by go_num, HB1⟩
              case measure => simp [intOf]; omega
            · clear hoH
              subst h1 h2
              have n1 : ¬ ((yk : Int) ≤ (pk : Int)) := by omega
              go_wp2
              go_roundw
              case rel => exact ⟨j + 1, by omega, by go_num, HB1⟩
              case measure => simp [intOf]; omega
          · obtain rfl : j = 0 := by omega
            go_wp2
            go_roundw
            case rel => exact ⟨1, by omega, by go_num, HBq⟩
            case measure => simp [intOf]; omega
        · obtain rfl : Q = j := by omega
          replace HB := btrans HB hb
          have hz4 := hz3.below hb
          have hT4 := hide (hT3.out.below hb)
          have hO4 := hide (own_keep hO3.out hb)
          clear hb hB1 hB2 hcell hO3 hT3 hz3
          go_wp2_with fail
          refine (cat a cap zs 5 _ hz4 hl (by omega)).mono ?_
          rintro e w5 ⟨rfl, hw⟩
          subst w5
          go_wp2_with fail
          rw [hcn.out]
          refine (cBoardI ao cp ts nd mn (cn : Int) _ hT4.out hS2.out).mono ?_
          rintro e w5 hA
          obtain ⟨hb, ⟨-, v5, es, rfl, hp, hs, hO⟩ | ⟨hn, -⟩⟩ := hA
          rotate_left
          · exact absurd hok2.out hn
          obtain rfl : es = ds := sort_oneD hp hs hps.out.1 hps.out.2
          rw [Int.toNat_natCast] at hO
          obtain ⟨vb, vd, rfl⟩ := own_form hO
          obtain ⟨C, hC⟩ : ∃ C, (es.take cn).length = C := ⟨_, rfl⟩
          rw [hC] at hO ⊢
          have hCl := hC
          rw [List.length_take, hDds.out] at hCl
          have hcell1 := hide (fun j (hj : j < C) => ent_cells hO (j := j) (by rw [hC]; exact hj))
          have hcell2 := hide (fun j (hj : j < Q) => ent_cells (own_keep hO4.out hb) (j := j) (by rw [hQ.out]; exact hj))
          have hz6 := hz4.below hb
          replace HB := btrans HB hb
          have hcn3 : cn ≤ 3 := by have := hcn.out; omega
          have hCQ : C ≤ Q := by have := hQD.out; omega
          have hcc : C = cn ∨ (C < cn ∧ C = Q) := by have := hQD.out; omega
          replace hCl := hide hCl
          have hCcn : C ≤ cn := by have := hCl.out; omega
          clear hp hs hO hO4 hb hT4 hz4 hC
          have hgt : ¬ ((Q : Int) < (C : Int)) := by omega
          have hgt2 : decide (Q < C) = false := by simp; omega
          go_upto_region 34 with fail
          go_cut [214] from 195 (fun cv wc => cv = .bool false ∧ wc = w5)
          case first =>
            rcases hcc with hce | ⟨hce, hcq⟩
            · have hlt2 : ¬ ((C : Int) < z5 % 4) := by rw [hcn.out]; omega
              replace hce := hide hce
              go_wp2_with fail
              refine (cat a cap zs 5 _ hz6 hl (by omega)).mono ?_
              rintro e w6 ⟨rfl, hw⟩
              subst w6
              go_wp2_with fail
              go_meet
              exact ⟨by first | rfl | (rw [hgt2]; rfl) | (rw [hgt2]), rfl⟩
            · have hlt2 : (C : Int) < z5 % 4 := by rw [hcn.out]; omega
              have hcq2 : (C : Int) = (Q : Int) := by omega
              have hne : ((C : Int) != (Q : Int)) = false := by rw [hcq2]; simp
              replace hce := hide hce
              replace hcq := hide hcq
              clear hcq2
              go_wp2_with fail
              refine (cat a cap zs 5 _ hz6 hl (by omega)).mono ?_
              rintro e w6 ⟨rfl, hw⟩
              subst w6
              go_wp2_with fail
              go_meet
              exact ⟨by first | rfl | (rw [hgt2]; rfl) | (rw [hgt2]), rfl⟩
          case rest =>
          obtain ⟨rfl, hwc⟩ := hcut
          subst wc
          clear hcc
          go_wp2
          go_loopw [16] (fun ii wr => ∃ j : Nat, j ≤ C ∧ ii = .int .i64 j ∧ Below w5.heap.size w5 wr) (fun ii _ => C - (intOf ii).toNat)
          case atStart => exact ⟨0, Nat.zero_le _, rfl, Below.refl _ _⟩
          case round =>
            obtain ⟨j, hj, rfl, hb⟩ := hrel
            by_cases hlt : j < C
            · have hj0 : (0 : Int) ≤ (j : Int) := by omega
              have hj1 : (j : Int) < (C : Int) := by omega
              have hj2 : (j : Int) < (Q : Int) := by omega
              obtain ⟨g1, rfl, e0, e1⟩ := hcell1.out j hlt
              obtain ⟨g2, rfl, f0, f1⟩ := hcell2.out j (by omega)
              rw [take_getD (by omega)] at e0 e1 f0 f1
              replace e0 := ble hb e0
              replace e1 := ble hb e1
              replace f0 := ble hb f0
              replace f1 := ble hb f1
              go_wp2_with fail
              go_quiet (fail)
              go_wp2
              go_roundw
              case rel => exact ⟨j + 1, by omega, by go_num, bdraw hb _⟩
              case measure => simp [intOf]; omega
            · obtain rfl : j = C := by omega
              replace HB := btrans HB hb
              go_wp2
              go_ret
              exact ⟨rfl, HB⟩
end Go.Proofs.Ythbedhbbijpfkaa
