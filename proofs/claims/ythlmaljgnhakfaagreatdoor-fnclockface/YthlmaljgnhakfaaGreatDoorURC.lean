/- A call read of a word: the program's readCall. -/
import Derived.Test.YthlmaljgnhakfaaGreatDoorUTN
import Derived.Test.YthlmaljgnhakfaaGreatDoorRT3
import Derived.Test.YthlmaljgnhakfaaGreatDoorTM
import Derived.Test.YthlmaljgnhakfaaGreatDoorD
import Derived.Deep.RegionHeld3
import Derived.Deep.RegionWith
import Derived.Deep.Cut
import Derived.Deep.CutRange
namespace Go.Proofs.YthlmaljgnhakfaaGreatDoor
open Go.RowKit
/-- What readCall answers: where the word is a right call's, that call and true. -/
def CallAns (l : List UInt8) (w : World) (e : Ending) (W : World) : Prop :=
  Below w.heap.size w W ∧ ∃ (c : HaltV) (ok : Bool), e = .returned (.tuple #[c.val, .bool ok]) ∧ ((ok = true ∧ ∀ x, callB x = true → callL x = l → c = x) ∨ (ok = false ∧ ∀ x, callB x = true → callL x ≠ l))
/-- The call put together in its box. -/
def GotC (w2 : World) (l : List UInt8) (A D : Int) (cv : Value) (wc : World) : Prop := ∃ (q : Nat) (r1 : Int), cv = .pointer (some ⟨q, 0, none⟩) ∧ w2.heap.size ≤ q ∧ (∀ n : Nat, n ≤ 29 → Lib.decDigits n = l → r1 = n) ∧ wc.heap[q]? = some (.cells #[.int .i64 r1, .int .i64 A, .int .i64 D] 33 (0, 0)) ∧ Below w2.heap.size w2 wc
theorem three8 {w : World} {b : Nat} {c0 c1 c2 : Value} {t : TypeId} (h : w.heap[b]? = some (.cells #[c0, c1, c2] t (0, 0))) :
    (w.cell? ⟨b, 0, none⟩ = some c0 ∧ w.cell? ⟨b, 1, none⟩ = some c1 ∧ w.cell? ⟨b, 2, none⟩ = some c2) ∧ w.frozen? ⟨b, 0, none⟩ = false ∧ w.frozen? ⟨b, 1, none⟩ = false ∧ w.frozen? ⟨b, 2, none⟩ = false :=
  ⟨⟨Go.Joins.cell_of_block h 0, Go.Joins.cell_of_block h 1, Go.Joins.cell_of_block h 2⟩, Go.Joins.unfrozen_of_block h 0, Go.Joins.unfrozen_of_block h 1, Go.Joins.unfrozen_of_block h 2⟩
theorem set3_cell {W : World} {e o g : Nat} {v a b c : Value} (h : W.cell? ⟨e, o, none⟩ = some v) (hne : e ≠ g) : (((W.setCell ⟨g, 0, none⟩ a).setCell ⟨g, 1, none⟩ b).setCell ⟨g, 2, none⟩ c).cell? ⟨e, o, none⟩ = some v := by
  have hb : (((W.setCell ⟨g, 0, none⟩ a).setCell ⟨g, 1, none⟩ b).setCell ⟨g, 2, none⟩ c).heap[e]? = W.heap[e]? :=
    (Below.heap_setCell _ _ _ _ hne).trans ((Below.heap_setCell _ _ _ _ hne).trans (Below.heap_setCell _ _ _ _ hne))
  simp only [World.cell?] at h ⊢
  rw [hb]
  exact h
theorem set3_blk {W : World} {g : Nat} {x y z a b c : Value} {t : TypeId} (h : W.heap[g]? = some (.cells #[x, y, z] t (0, 0))) : (((W.setCell ⟨g, 0, none⟩ a).setCell ⟨g, 1, none⟩ b).setCell ⟨g, 2, none⟩ c).heap[g]? = some (.cells #[a, b, c] t (0, 0)) := by
  have h1 := blk_set (i := 0) (v := a) h
  have h2 := blk_set (i := 1) (v := b) h1
  have h3 := blk_set (i := 2) (v := c) h2
  simpa using h3
theorem set3_below {W w2 : World} {g : Nat} {a b c : Value} (h : Below w2.heap.size w2 W) (hg : w2.heap.size ≤ g) : Below w2.heap.size w2 (((W.setCell ⟨g, 0, none⟩ a).setCell ⟨g, 1, none⟩ b).setCell ⟨g, 2, none⟩ c) :=
  ((h.setCell (p := ⟨g, 0, none⟩) hg a).setCell (p := ⟨g, 1, none⟩) hg b).setCell (p := ⟨g, 2, none⟩) hg c
set_option maxRecDepth 100000 in
set_option maxHeartbeats 6400000 in
theorem cReadCall (l : List UInt8) (w : World) (ht : Tab w) (he : Errs w) (hm : l.length ≤ 100000) :
    Calls Tryz.prog 22 #[.string ⟨l.toArray⟩] w (CallAns l w) := by
  have CP := fun W => cParted 64 64 (by decide) (by decide) l W (by omega)
  have hcut := hide (fun x (hx : callB x = true) (hl : callL x = l) => call_cut hx hl)
  have hlen := hide (fun p hp => splitL_each 64 l p hp)
  generalize splitL 64 l = ps at *
  have hb0 := balloc w (.cells #[.int .i64 0, .int .i64 0, .int .i64 0] 33)
  have K0 := one_block' w (.cells #[.int .i64 0, .int .i64 0, .int .i64 0] 33)
  generalize (⟨l.toArray⟩ : ByteArray) = tx at *
  go_enter Tryz.func22, Tryz.ntmps22
  go_wp2_with fail
  generalize w.alloc (.cells #[.int .i64 0, .int .i64 0, .int .i64 0] 33) = w0 at *
  obtain ⟨rb, hrb⟩ : ∃ rb, w.heap.size = rb := ⟨_, rfl⟩
  rw [hrb] at K0 ⊢
  refine (CP _).mono ?_
  rintro e w1 ⟨pa, pc, rfl, oP, hb⟩
  have HB := btrans hb0 hb
  replace K0 := blk_keep hb K0
  clear hb0 hb CP
  by_cases h2 : ps.length = 2
  · obtain ⟨eg, rfl, z0⟩ := strs_cell oP (j := 0) (by omega)
    obtain ⟨eg2, hge, y1⟩ := strs_cell oP (j := 1) (by omega)
    simp only [Option.some.injEq, Addr.mk.injEq, and_true] at hge
    subst hge
    obtain ⟨x0, x1, rfl⟩ : ∃ x0 x1, ps = [x0, x1] := by
      match ps, h2 with
      | [a, b], _ => exact ⟨a, b, rfl⟩
    change w1.cell? ⟨eg, 0, none⟩ = some (.string ⟨x0.toArray⟩) at z0
    change w1.cell? ⟨eg, 1, none⟩ = some (.string ⟨x1.toArray⟩) at y1
    have l0 := hlen.out x0 (by simp)
    have l1 := hlen.out x1 (by simp)
    have CP := fun W => cParted 45 45 (by decide) (by decide) x1 W (by omega)
    have hcut2 := hide (fun q (hq : q ∈ splitL 45 x1) => splitL_each 45 x1 q hq)
    generalize hqs : splitL 45 x1 = qs at *
    replace hqs := hide hqs
    obtain ⟨e1, he1⟩ : ∃ e1 : ByteArray, e1 = ⟨x1.toArray⟩ := ⟨_, rfl⟩
    rw [← he1] at CP y1
    clear he1
    have h2n : ([x0, x1] : List (List UInt8)).length = 2 := rfl
    clear h2
    go_wp2_with fail
    refine (CP _).mono ?_
    rintro e w2 ⟨qa, qc, rfl, oQ, hb⟩
    replace HB := btrans HB hb
    replace K0 := blk_keep hb K0
    replace z0 := ble hb z0
    clear hb CP y1
    by_cases h3 : qs.length = 2
    · obtain ⟨tg, rfl, z1⟩ := strs_cell oQ (j := 0) (by omega)
      obtain ⟨tg2, hge, z2⟩ := strs_cell oQ (j := 1) (by omega)
      simp only [Option.some.injEq, Addr.mk.injEq, and_true] at hge
      subst hge
      obtain ⟨y0, y1, rfl⟩ : ∃ y0 y1, qs = [y0, y1] := by
        match qs, h3 with
        | [a, b], _ => exact ⟨a, b, rfl⟩
      change w2.cell? ⟨tg, 0, none⟩ = some (.string ⟨y0.toArray⟩) at z1
      change w2.cell? ⟨tg, 1, none⟩ = some (.string ⟨y1.toArray⟩) at z2
      have m0 := hcut2.out y0 (by simp)
      have m1 := hcut2.out y1 (by simp)
      have CU := fun W (h : Below w2.heap.size w2 W) => cUpTo x0 29 W (by omega)
      have CT0 := fun W (h : Below w2.heap.size w2 W) => cRTimeI y0 W (ht.below (btrans HB h)) (he.below (btrans HB h)) (by omega)
      have CT1 := fun W (h : Below w2.heap.size w2 W) => cRTimeI y1 W (ht.below (btrans HB h)) (he.below (btrans HB h)) (by omega)
      unfold S at CT0 CT1
      have hX : Hid (∀ x, callB x = true → callL x = l → x = ⟨x.n, readB y0, readB y1⟩ ∧ ∃ n : Nat, n ≤ 29 ∧ x.n = n ∧ Lib.decDigits n = x0) := hide (fun x hx hl => by
        obtain ⟨n, a, d, rfl, c1, c2, c3, c4, c5⟩ := hcut.out x hx hl
        simp only [List.cons.injEq, and_true] at c2
        obtain ⟨c2, c2'⟩ := c2
        have := hqs.out
        rw [c2', c3] at this
        simp only [List.cons.injEq, and_true] at this
        rw [← this.1, ← this.2, c4, c5]
        exact ⟨rfl, n, c1, rfl, c2.symm⟩)
      generalize readB y0 = A at *
      generalize readB y1 = Dd at *
      obtain ⟨e0, he0⟩ : ∃ e0 : ByteArray, e0 = ⟨x0.toArray⟩ := ⟨_, rfl⟩
      obtain ⟨t0, ht0⟩ : ∃ t0 : ByteArray, t0 = ⟨y0.toArray⟩ := ⟨_, rfl⟩
      obtain ⟨t1, ht1⟩ : ∃ t1 : ByteArray, t1 = ⟨y1.toArray⟩ := ⟨_, rfl⟩
      rw [← he0] at z0 CU
      rw [← ht0] at z1 CT0
      rw [← ht1] at z2 CT1
      have el := cell_lt z0
      have tl := cell_lt z1
      have h0b : Below w2.heap.size w2 w2.drew := (Below.refl _ _).drew
      clear he0 ht0 ht1 hcut hlen hcut2 oP oQ hqs m0 m1 l0 l1
      go_upto_region 7 with fail
      go_cut [6] from 21 (fun cv wc => GotC w2 x0 A Dd cv wc)
      case first =>
        refine wp_region_held_drew (S := (fun w' => w'.cell? ⟨eg, 0, none⟩ = some (.string e0) ∧ w'.cell? ⟨tg, 0, none⟩ = some (.string t0) ∧ w'.cell? ⟨tg, 1, none⟩ = some (.string t1))) (by kernel_rfl) ?_ (fun hHeld => ?_)
        · go_keep
        refine wpAnyH_take (i := 0) (v := .slice (some ⟨eg, 0, none⟩) 2 pc) rfl (by kernel_rfl) (by kernel_rfl) (by kernel_rfl) (fun _ _ _ h => h) (Or.inl ⟨by kernel_rfl, fun w hS => by go_simp⟩) hHeld ?_
        change wpAnyH _ _ _ _ _ _ _ { tmps := List.toArray (_ :: _ :: .pointer (some ⟨rb, 0, none⟩) :: _ :: .slice (some ⟨eg, 0, none⟩) 2 pc :: .slice (some ⟨tg, 0, none⟩) 2 qc :: _ :: _ :: _ :: _ :: _ :: _ :: _ :: _ :: _ :: _ :: _ :: _ :: _ :: _ :: _ :: .slice (some ⟨eg, 0, none⟩) 2 pc :: _ :: _ :: _ :: _ :: _ :: _ :: _ :: _ :: _ :: _ :: _ :: _ :: _ :: _ :: _ :: []), defers := [] } _
        refine wpAnyH_take (i := 1) (v := .pointer (some ⟨eg, 0, none⟩)) rfl (by kernel_rfl) (by kernel_rfl) (by kernel_rfl) (fun _ _ _ h => h) (Or.inl ⟨by kernel_rfl, fun w hS => by go_simp⟩) hHeld ?_
        change wpAnyH _ _ _ _ _ _ _ { tmps := List.toArray (_ :: _ :: .pointer (some ⟨rb, 0, none⟩) :: _ :: .slice (some ⟨eg, 0, none⟩) 2 pc :: .slice (some ⟨tg, 0, none⟩) 2 qc :: _ :: _ :: _ :: _ :: _ :: _ :: _ :: _ :: _ :: _ :: _ :: _ :: _ :: _ :: _ :: .slice (some ⟨eg, 0, none⟩) 2 pc :: .pointer (some ⟨eg, 0, none⟩) :: _ :: _ :: _ :: _ :: _ :: _ :: _ :: _ :: _ :: _ :: _ :: _ :: _ :: _ :: []), defers := [] } _
        refine wpAnyH_take (i := 2) (v := .string e0) rfl (by kernel_rfl) (by kernel_rfl) (by kernel_rfl) (fun _ _ _ h => h) (Or.inl ⟨by kernel_rfl, fun w hS => by (obtain ⟨hS0, hS1, hS2⟩ := hS; go_simp)⟩) hHeld ?_
        change wpAnyH _ _ _ _ _ _ _ { tmps := List.toArray (_ :: _ :: .pointer (some ⟨rb, 0, none⟩) :: _ :: .slice (some ⟨eg, 0, none⟩) 2 pc :: .slice (some ⟨tg, 0, none⟩) 2 qc :: _ :: _ :: _ :: _ :: _ :: _ :: _ :: _ :: _ :: _ :: _ :: _ :: _ :: _ :: _ :: .slice (some ⟨eg, 0, none⟩) 2 pc :: .pointer (some ⟨eg, 0, none⟩) :: .string e0 :: _ :: _ :: _ :: _ :: _ :: _ :: _ :: _ :: _ :: _ :: _ :: _ :: _ :: []), defers := [] } _
        refine wpAnyH_take (i := 4) (v := .slice (some ⟨tg, 0, none⟩) 2 qc) rfl (by kernel_rfl) (by kernel_rfl) (by kernel_rfl) (fun _ _ _ h => h) (Or.inl ⟨by kernel_rfl, fun w hS => by go_simp⟩) hHeld ?_
        change wpAnyH _ _ _ _ _ _ _ { tmps := List.toArray (_ :: _ :: .pointer (some ⟨rb, 0, none⟩) :: _ :: .slice (some ⟨eg, 0, none⟩) 2 pc :: .slice (some ⟨tg, 0, none⟩) 2 qc :: _ :: _ :: _ :: _ :: _ :: _ :: _ :: _ :: _ :: _ :: _ :: _ :: _ :: _ :: _ :: .slice (some ⟨eg, 0, none⟩) 2 pc :: .pointer (some ⟨eg, 0, none⟩) :: .string e0 :: _ :: .slice (some ⟨tg, 0, none⟩) 2 qc :: _ :: _ :: _ :: _ :: _ :: _ :: _ :: _ :: _ :: _ :: _ :: []), defers := [] } _
        refine wpAnyH_take (i := 5) (v := .pointer (some ⟨tg, 0, none⟩)) rfl (by kernel_rfl) (by kernel_rfl) (by kernel_rfl) (fun _ _ _ h => h) (Or.inl ⟨by kernel_rfl, fun w hS => by go_simp⟩) hHeld ?_
        change wpAnyH _ _ _ _ _ _ _ { tmps := List.toArray (_ :: _ :: .pointer (some ⟨rb, 0, none⟩) :: _ :: .slice (some ⟨eg, 0, none⟩) 2 pc :: .slice (some ⟨tg, 0, none⟩) 2 qc :: _ :: _ :: _ :: _ :: _ :: _ :: _ :: _ :: _ :: _ :: _ :: _ :: _ :: _ :: _ :: .slice (some ⟨eg, 0, none⟩) 2 pc :: .pointer (some ⟨eg, 0, none⟩) :: .string e0 :: _ :: .slice (some ⟨tg, 0, none⟩) 2 qc :: .pointer (some ⟨tg, 0, none⟩) :: _ :: _ :: _ :: _ :: _ :: _ :: _ :: _ :: _ :: _ :: []), defers := [] } _
        refine wpAnyH_take (i := 6) (v := .string t0) rfl (by kernel_rfl) (by kernel_rfl) (by kernel_rfl) (fun _ _ _ h => h) (Or.inl ⟨by kernel_rfl, fun w hS => by (obtain ⟨hS0, hS1, hS2⟩ := hS; go_simp)⟩) hHeld ?_
        change wpAnyH _ _ _ _ _ _ _ { tmps := List.toArray (_ :: _ :: .pointer (some ⟨rb, 0, none⟩) :: _ :: .slice (some ⟨eg, 0, none⟩) 2 pc :: .slice (some ⟨tg, 0, none⟩) 2 qc :: _ :: _ :: _ :: _ :: _ :: _ :: _ :: _ :: _ :: _ :: _ :: _ :: _ :: _ :: _ :: .slice (some ⟨eg, 0, none⟩) 2 pc :: .pointer (some ⟨eg, 0, none⟩) :: .string e0 :: _ :: .slice (some ⟨tg, 0, none⟩) 2 qc :: .pointer (some ⟨tg, 0, none⟩) :: .string t0 :: _ :: _ :: _ :: _ :: _ :: _ :: _ :: _ :: _ :: []), defers := [] } _
        refine wpAnyH_take (i := 8) (v := .slice (some ⟨tg, 0, none⟩) 2 qc) rfl (by kernel_rfl) (by kernel_rfl) (by kernel_rfl) (fun _ _ _ h => h) (Or.inl ⟨by kernel_rfl, fun w hS => by go_simp⟩) hHeld ?_
        change wpAnyH _ _ _ _ _ _ _ { tmps := List.toArray (_ :: _ :: .pointer (some ⟨rb, 0, none⟩) :: _ :: .slice (some ⟨eg, 0, none⟩) 2 pc :: .slice (some ⟨tg, 0, none⟩) 2 qc :: _ :: _ :: _ :: _ :: _ :: _ :: _ :: _ :: _ :: _ :: _ :: _ :: _ :: _ :: _ :: .slice (some ⟨eg, 0, none⟩) 2 pc :: .pointer (some ⟨eg, 0, none⟩) :: .string e0 :: _ :: .slice (some ⟨tg, 0, none⟩) 2 qc :: .pointer (some ⟨tg, 0, none⟩) :: .string t0 :: _ :: .slice (some ⟨tg, 0, none⟩) 2 qc :: _ :: _ :: _ :: _ :: _ :: _ :: _ :: []), defers := [] } _
        refine wpAnyH_take (i := 9) (v := .pointer (some ⟨tg, 1, none⟩)) rfl (by kernel_rfl) (by kernel_rfl) (by kernel_rfl) (fun _ _ _ h => h) (Or.inl ⟨by kernel_rfl, fun w hS => by go_simp⟩) hHeld ?_
        change wpAnyH _ _ _ _ _ _ _ { tmps := List.toArray (_ :: _ :: .pointer (some ⟨rb, 0, none⟩) :: _ :: .slice (some ⟨eg, 0, none⟩) 2 pc :: .slice (some ⟨tg, 0, none⟩) 2 qc :: _ :: _ :: _ :: _ :: _ :: _ :: _ :: _ :: _ :: _ :: _ :: _ :: _ :: _ :: _ :: .slice (some ⟨eg, 0, none⟩) 2 pc :: .pointer (some ⟨eg, 0, none⟩) :: .string e0 :: _ :: .slice (some ⟨tg, 0, none⟩) 2 qc :: .pointer (some ⟨tg, 0, none⟩) :: .string t0 :: _ :: .slice (some ⟨tg, 0, none⟩) 2 qc :: .pointer (some ⟨tg, 1, none⟩) :: _ :: _ :: _ :: _ :: _ :: _ :: []), defers := [] } _
        refine wpAnyH_take (i := 10) (v := .string t1) rfl (by kernel_rfl) (by kernel_rfl) (by kernel_rfl) (fun _ _ _ h => h) (Or.inl ⟨by kernel_rfl, fun w hS => by (obtain ⟨hS0, hS1, hS2⟩ := hS; go_simp)⟩) hHeld ?_
        change wpAnyH _ _ _ _ _ _ _ { tmps := List.toArray (_ :: _ :: .pointer (some ⟨rb, 0, none⟩) :: _ :: .slice (some ⟨eg, 0, none⟩) 2 pc :: .slice (some ⟨tg, 0, none⟩) 2 qc :: _ :: _ :: _ :: _ :: _ :: _ :: _ :: _ :: _ :: _ :: _ :: _ :: _ :: _ :: _ :: .slice (some ⟨eg, 0, none⟩) 2 pc :: .pointer (some ⟨eg, 0, none⟩) :: .string e0 :: _ :: .slice (some ⟨tg, 0, none⟩) 2 qc :: .pointer (some ⟨tg, 0, none⟩) :: .string t0 :: _ :: .slice (some ⟨tg, 0, none⟩) 2 qc :: .pointer (some ⟨tg, 1, none⟩) :: .string t1 :: _ :: _ :: _ :: _ :: _ :: []), defers := [] } _
        refine wpAnyH_ready (rs := [3, 13]) (by kernel_rfl) (by simp) ?_
        refine (AllReadyH.cons rfl (fun KK hK => ?_) (AllReadyH.cons rfl (fun KK hK => ?_) AllReadyH.nil))
        · skip
          go_simp
          go_wp2_with fail
          refine (CU _ h0b).mono ?_
          rintro e1 wa ⟨r1, rfl, hr1, hbxB1⟩
          have B1 := btrans h0b hbxB1
          clear hHeld
          refine hK.out _ _ (⟨ble B1 z0, ble B1 z1, ble B1 z2⟩) (fun hHeld => ?_)
          clear hK KK
          change wpAnyH _ _ _ _ _ _ _ { tmps := List.toArray (_ :: _ :: .pointer (some ⟨rb, 0, none⟩) :: _ :: .slice (some ⟨eg, 0, none⟩) 2 pc :: .slice (some ⟨tg, 0, none⟩) 2 qc :: _ :: _ :: _ :: _ :: _ :: _ :: _ :: _ :: _ :: _ :: _ :: _ :: _ :: _ :: _ :: .slice (some ⟨eg, 0, none⟩) 2 pc :: .pointer (some ⟨eg, 0, none⟩) :: .string e0 :: .int .i64 r1 :: .slice (some ⟨tg, 0, none⟩) 2 qc :: .pointer (some ⟨tg, 0, none⟩) :: .string t0 :: _ :: .slice (some ⟨tg, 0, none⟩) 2 qc :: .pointer (some ⟨tg, 1, none⟩) :: .string t1 :: _ :: _ :: _ :: _ :: _ :: []), defers := [] } _
          refine wpAnyH_ready (rs := [7, 13]) (by kernel_rfl) (by simp) ?_
          refine (AllReadyH.cons rfl (fun KK hK => ?_) (AllReadyH.cons rfl (fun KK hK => ?_) AllReadyH.nil))
          · skip
            go_simp
            go_wp2_with fail
            refine (CT0 _ B1).mono ?_
            rintro e1 wb ⟨rfl, hbxB2⟩
            have B2 := btrans B1 hbxB2
            clear hHeld
            refine hK.out _ _ (⟨ble B2 z0, ble B2 z1, ble B2 z2⟩) (fun hHeld => ?_)
            clear hK KK
            change wpAnyH _ _ _ _ _ _ _ { tmps := List.toArray (_ :: _ :: .pointer (some ⟨rb, 0, none⟩) :: _ :: .slice (some ⟨eg, 0, none⟩) 2 pc :: .slice (some ⟨tg, 0, none⟩) 2 qc :: _ :: _ :: _ :: _ :: _ :: _ :: _ :: _ :: _ :: _ :: _ :: _ :: _ :: _ :: _ :: .slice (some ⟨eg, 0, none⟩) 2 pc :: .pointer (some ⟨eg, 0, none⟩) :: .string e0 :: .int .i64 r1 :: .slice (some ⟨tg, 0, none⟩) 2 qc :: .pointer (some ⟨tg, 0, none⟩) :: .string t0 :: .int .i64 A :: .slice (some ⟨tg, 0, none⟩) 2 qc :: .pointer (some ⟨tg, 1, none⟩) :: .string t1 :: _ :: _ :: _ :: _ :: _ :: []), defers := [] } _
            refine wpAnyH_ready (rs := [11, 13]) (by kernel_rfl) (by simp) ?_
            refine (AllReadyH.cons rfl (fun KK hK => ?_) (AllReadyH.cons rfl (fun KK hK => ?_) AllReadyH.nil))
            · skip
              go_simp
              go_wp2_with fail
              refine (CT1 _ B2).mono ?_
              rintro e1 wc_ ⟨rfl, hbxB3⟩
              have B3 := btrans B2 hbxB3
              clear hHeld
              refine hK.out _ _ (⟨ble B3 z0, ble B3 z1, ble B3 z2⟩) (fun hHeld => ?_)
              clear hK KK
              change wpAnyH _ _ _ _ _ _ _ { tmps := List.toArray (_ :: _ :: .pointer (some ⟨rb, 0, none⟩) :: _ :: .slice (some ⟨eg, 0, none⟩) 2 pc :: .slice (some ⟨tg, 0, none⟩) 2 qc :: _ :: _ :: _ :: _ :: _ :: _ :: _ :: _ :: _ :: _ :: _ :: _ :: _ :: _ :: _ :: .slice (some ⟨eg, 0, none⟩) 2 pc :: .pointer (some ⟨eg, 0, none⟩) :: .string e0 :: .int .i64 r1 :: .slice (some ⟨tg, 0, none⟩) 2 qc :: .pointer (some ⟨tg, 0, none⟩) :: .string t0 :: .int .i64 A :: .slice (some ⟨tg, 0, none⟩) 2 qc :: .pointer (some ⟨tg, 1, none⟩) :: .string t1 :: .int .i64 Dd :: _ :: _ :: _ :: _ :: []), defers := [] } _
              refine wpAnyH_take (i := 12) (v := .agg #[.int .i64 r1, .int .i64 A, .int .i64 Dd]) rfl (by kernel_rfl) (by kernel_rfl) (by kernel_rfl) (fun _ _ _ h => h) (Or.inl ⟨by kernel_rfl, fun w hS => by go_simp⟩) hHeld ?_
              change wpAnyH _ _ _ _ _ _ _ { tmps := List.toArray (_ :: _ :: .pointer (some ⟨rb, 0, none⟩) :: _ :: .slice (some ⟨eg, 0, none⟩) 2 pc :: .slice (some ⟨tg, 0, none⟩) 2 qc :: _ :: _ :: _ :: _ :: _ :: _ :: _ :: _ :: _ :: _ :: _ :: _ :: _ :: _ :: _ :: .slice (some ⟨eg, 0, none⟩) 2 pc :: .pointer (some ⟨eg, 0, none⟩) :: .string e0 :: .int .i64 r1 :: .slice (some ⟨tg, 0, none⟩) 2 qc :: .pointer (some ⟨tg, 0, none⟩) :: .string t0 :: .int .i64 A :: .slice (some ⟨tg, 0, none⟩) 2 qc :: .pointer (some ⟨tg, 1, none⟩) :: .string t1 :: .int .i64 Dd :: .agg #[.int .i64 r1, .int .i64 A, .int .i64 Dd] :: _ :: _ :: _ :: []), defers := [] } _
              refine wpAnyH_ready (rs := [13]) (by kernel_rfl) (by simp) ?_
              refine (AllReadyH.cons rfl (fun KK hK => ?_) AllReadyH.nil)
              go_simp
              have hal := balloc wc_ (.cells #[.int .i64 0, .int .i64 0, .int .i64 0] 33)
              have Kal : (wc_.alloc (.cells #[.int .i64 0, .int .i64 0, .int .i64 0] 33)).heap[wc_.heap.size]? = some (.cells #[.int .i64 0, .int .i64 0, .int .i64 0] 33 (0, 0)) := one_block' wc_ _
              have Bal : Below w2.heap.size w2 (wc_.alloc (.cells #[.int .i64 0, .int .i64 0, .int .i64 0] 33)) := btrans B3 hal
              have hgal : w2.heap.size ≤ wc_.heap.size := B3.size
              clear hal
              generalize (wc_.alloc (.cells #[.int .i64 0, .int .i64 0, .int .i64 0] 33)) = wal at *
              clear hHeld
              refine hK.out _ _ (⟨ble Bal z0, ble Bal z1, ble Bal z2⟩) (fun hHeld => ?_)
              clear hK KK
              change wpAnyH _ _ _ _ _ _ _ { tmps := List.toArray (_ :: _ :: .pointer (some ⟨rb, 0, none⟩) :: _ :: .slice (some ⟨eg, 0, none⟩) 2 pc :: .slice (some ⟨tg, 0, none⟩) 2 qc :: .pointer (some ⟨wc_.heap.size, 0, none⟩) :: _ :: _ :: _ :: _ :: _ :: _ :: _ :: _ :: _ :: _ :: _ :: _ :: _ :: _ :: .slice (some ⟨eg, 0, none⟩) 2 pc :: .pointer (some ⟨eg, 0, none⟩) :: .string e0 :: .int .i64 r1 :: .slice (some ⟨tg, 0, none⟩) 2 qc :: .pointer (some ⟨tg, 0, none⟩) :: .string t0 :: .int .i64 A :: .slice (some ⟨tg, 0, none⟩) 2 qc :: .pointer (some ⟨tg, 1, none⟩) :: .string t1 :: .int .i64 Dd :: .agg #[.int .i64 r1, .int .i64 A, .int .i64 Dd] :: _ :: _ :: _ :: []), defers := [] } _
              refine wpAnyH_ready (rs := [14]) (by kernel_rfl) (by simp) ?_
              refine (AllReadyH.cons rfl (fun KK hK => ?_) AllReadyH.nil)
              obtain ⟨⟨s0, s1, s2⟩, sf0, sf1, sf2⟩ := three8 Kal
              go_simp
              clear hHeld
              refine hK.out _ _ (⟨set3_cell (ble Bal z0) (by omega), set3_cell (ble Bal z1) (by omega), set3_cell (ble Bal z2) (by omega)⟩) (fun hHeld => ?_)
              clear hK KK
              change wpAnyH _ _ _ _ _ _ _ { tmps := List.toArray (_ :: _ :: .pointer (some ⟨rb, 0, none⟩) :: _ :: .slice (some ⟨eg, 0, none⟩) 2 pc :: .slice (some ⟨tg, 0, none⟩) 2 qc :: .pointer (some ⟨wc_.heap.size, 0, none⟩) :: _ :: _ :: _ :: _ :: _ :: _ :: _ :: _ :: _ :: _ :: _ :: _ :: _ :: _ :: .slice (some ⟨eg, 0, none⟩) 2 pc :: .pointer (some ⟨eg, 0, none⟩) :: .string e0 :: .int .i64 r1 :: .slice (some ⟨tg, 0, none⟩) 2 qc :: .pointer (some ⟨tg, 0, none⟩) :: .string t0 :: .int .i64 A :: .slice (some ⟨tg, 0, none⟩) 2 qc :: .pointer (some ⟨tg, 1, none⟩) :: .string t1 :: .int .i64 Dd :: .agg #[.int .i64 r1, .int .i64 A, .int .i64 Dd] :: _ :: _ :: _ :: []), defers := [] } _
              refine wpAnyH_done (by kernel_rfl) ?_ _
              go_wp2_with fail
              go_meet
              exact ⟨_, r1, rfl, hgal, hr1, set3_blk Kal, set3_below Bal hgal⟩
            · skip
              go_simp
              have hal := balloc wb (.cells #[.int .i64 0, .int .i64 0, .int .i64 0] 33)
              have Kal : (wb.alloc (.cells #[.int .i64 0, .int .i64 0, .int .i64 0] 33)).heap[wb.heap.size]? = some (.cells #[.int .i64 0, .int .i64 0, .int .i64 0] 33 (0, 0)) := one_block' wb _
              have Bal : Below w2.heap.size w2 (wb.alloc (.cells #[.int .i64 0, .int .i64 0, .int .i64 0] 33)) := btrans B2 hal
              have hgal : w2.heap.size ≤ wb.heap.size := B2.size
              clear hal
              generalize (wb.alloc (.cells #[.int .i64 0, .int .i64 0, .int .i64 0] 33)) = wal at *
              clear hHeld
              refine hK.out _ _ (⟨ble Bal z0, ble Bal z1, ble Bal z2⟩) (fun hHeld => ?_)
              clear hK KK
              change wpAnyH _ _ _ _ _ _ _ { tmps := List.toArray (_ :: _ :: .pointer (some ⟨rb, 0, none⟩) :: _ :: .slice (some ⟨eg, 0, none⟩) 2 pc :: .slice (some ⟨tg, 0, none⟩) 2 qc :: .pointer (some ⟨wb.heap.size, 0, none⟩) :: _ :: _ :: _ :: _ :: _ :: _ :: _ :: _ :: _ :: _ :: _ :: _ :: _ :: _ :: .slice (some ⟨eg, 0, none⟩) 2 pc :: .pointer (some ⟨eg, 0, none⟩) :: .string e0 :: .int .i64 r1 :: .slice (some ⟨tg, 0, none⟩) 2 qc :: .pointer (some ⟨tg, 0, none⟩) :: .string t0 :: .int .i64 A :: .slice (some ⟨tg, 0, none⟩) 2 qc :: .pointer (some ⟨tg, 1, none⟩) :: .string t1 :: _ :: _ :: _ :: _ :: _ :: []), defers := [] } _
              refine wpAnyH_ready (rs := [11]) (by kernel_rfl) (by simp) ?_
              refine (AllReadyH.cons rfl (fun KK hK => ?_) AllReadyH.nil)
              go_simp
              go_wp2_with fail
              refine (CT1 _ Bal).mono ?_
              rintro e1 wc_ ⟨rfl, hbxB3⟩
              have B3 := btrans Bal hbxB3
              have KB3 := blk_keep hbxB3 Kal
              clear hHeld
              refine hK.out _ _ (⟨ble B3 z0, ble B3 z1, ble B3 z2⟩) (fun hHeld => ?_)
              clear hK KK
              change wpAnyH _ _ _ _ _ _ _ { tmps := List.toArray (_ :: _ :: .pointer (some ⟨rb, 0, none⟩) :: _ :: .slice (some ⟨eg, 0, none⟩) 2 pc :: .slice (some ⟨tg, 0, none⟩) 2 qc :: .pointer (some ⟨wb.heap.size, 0, none⟩) :: _ :: _ :: _ :: _ :: _ :: _ :: _ :: _ :: _ :: _ :: _ :: _ :: _ :: _ :: .slice (some ⟨eg, 0, none⟩) 2 pc :: .pointer (some ⟨eg, 0, none⟩) :: .string e0 :: .int .i64 r1 :: .slice (some ⟨tg, 0, none⟩) 2 qc :: .pointer (some ⟨tg, 0, none⟩) :: .string t0 :: .int .i64 A :: .slice (some ⟨tg, 0, none⟩) 2 qc :: .pointer (some ⟨tg, 1, none⟩) :: .string t1 :: .int .i64 Dd :: _ :: _ :: _ :: _ :: []), defers := [] } _
              refine wpAnyH_take (i := 12) (v := .agg #[.int .i64 r1, .int .i64 A, .int .i64 Dd]) rfl (by kernel_rfl) (by kernel_rfl) (by kernel_rfl) (fun _ _ _ h => h) (Or.inl ⟨by kernel_rfl, fun w hS => by go_simp⟩) hHeld ?_
              change wpAnyH _ _ _ _ _ _ _ { tmps := List.toArray (_ :: _ :: .pointer (some ⟨rb, 0, none⟩) :: _ :: .slice (some ⟨eg, 0, none⟩) 2 pc :: .slice (some ⟨tg, 0, none⟩) 2 qc :: .pointer (some ⟨wb.heap.size, 0, none⟩) :: _ :: _ :: _ :: _ :: _ :: _ :: _ :: _ :: _ :: _ :: _ :: _ :: _ :: _ :: .slice (some ⟨eg, 0, none⟩) 2 pc :: .pointer (some ⟨eg, 0, none⟩) :: .string e0 :: .int .i64 r1 :: .slice (some ⟨tg, 0, none⟩) 2 qc :: .pointer (some ⟨tg, 0, none⟩) :: .string t0 :: .int .i64 A :: .slice (some ⟨tg, 0, none⟩) 2 qc :: .pointer (some ⟨tg, 1, none⟩) :: .string t1 :: .int .i64 Dd :: .agg #[.int .i64 r1, .int .i64 A, .int .i64 Dd] :: _ :: _ :: _ :: []), defers := [] } _
              refine wpAnyH_ready (rs := [14]) (by kernel_rfl) (by simp) ?_
              refine (AllReadyH.cons rfl (fun KK hK => ?_) AllReadyH.nil)
              obtain ⟨⟨s0, s1, s2⟩, sf0, sf1, sf2⟩ := three8 KB3
              go_simp
              clear hHeld
              refine hK.out _ _ (⟨set3_cell (ble B3 z0) (by omega), set3_cell (ble B3 z1) (by omega), set3_cell (ble B3 z2) (by omega)⟩) (fun hHeld => ?_)
              clear hK KK
              change wpAnyH _ _ _ _ _ _ _ { tmps := List.toArray (_ :: _ :: .pointer (some ⟨rb, 0, none⟩) :: _ :: .slice (some ⟨eg, 0, none⟩) 2 pc :: .slice (some ⟨tg, 0, none⟩) 2 qc :: .pointer (some ⟨wb.heap.size, 0, none⟩) :: _ :: _ :: _ :: _ :: _ :: _ :: _ :: _ :: _ :: _ :: _ :: _ :: _ :: _ :: .slice (some ⟨eg, 0, none⟩) 2 pc :: .pointer (some ⟨eg, 0, none⟩) :: .string e0 :: .int .i64 r1 :: .slice (some ⟨tg, 0, none⟩) 2 qc :: .pointer (some ⟨tg, 0, none⟩) :: .string t0 :: .int .i64 A :: .slice (some ⟨tg, 0, none⟩) 2 qc :: .pointer (some ⟨tg, 1, none⟩) :: .string t1 :: .int .i64 Dd :: .agg #[.int .i64 r1, .int .i64 A, .int .i64 Dd] :: _ :: _ :: _ :: []), defers := [] } _
              refine wpAnyH_done (by kernel_rfl) ?_ _
              go_wp2_with fail
              go_meet
              exact ⟨_, r1, rfl, hgal, hr1, set3_blk KB3, set3_below B3 hgal⟩
          · skip
            go_simp
            have hal := balloc wa (.cells #[.int .i64 0, .int .i64 0, .int .i64 0] 33)
            have Kal : (wa.alloc (.cells #[.int .i64 0, .int .i64 0, .int .i64 0] 33)).heap[wa.heap.size]? = some (.cells #[.int .i64 0, .int .i64 0, .int .i64 0] 33 (0, 0)) := one_block' wa _
            have Bal : Below w2.heap.size w2 (wa.alloc (.cells #[.int .i64 0, .int .i64 0, .int .i64 0] 33)) := btrans B1 hal
            have hgal : w2.heap.size ≤ wa.heap.size := B1.size
            clear hal
            generalize (wa.alloc (.cells #[.int .i64 0, .int .i64 0, .int .i64 0] 33)) = wal at *
            clear hHeld
            refine hK.out _ _ (⟨ble Bal z0, ble Bal z1, ble Bal z2⟩) (fun hHeld => ?_)
            clear hK KK
            change wpAnyH _ _ _ _ _ _ _ { tmps := List.toArray (_ :: _ :: .pointer (some ⟨rb, 0, none⟩) :: _ :: .slice (some ⟨eg, 0, none⟩) 2 pc :: .slice (some ⟨tg, 0, none⟩) 2 qc :: .pointer (some ⟨wa.heap.size, 0, none⟩) :: _ :: _ :: _ :: _ :: _ :: _ :: _ :: _ :: _ :: _ :: _ :: _ :: _ :: _ :: .slice (some ⟨eg, 0, none⟩) 2 pc :: .pointer (some ⟨eg, 0, none⟩) :: .string e0 :: .int .i64 r1 :: .slice (some ⟨tg, 0, none⟩) 2 qc :: .pointer (some ⟨tg, 0, none⟩) :: .string t0 :: _ :: .slice (some ⟨tg, 0, none⟩) 2 qc :: .pointer (some ⟨tg, 1, none⟩) :: .string t1 :: _ :: _ :: _ :: _ :: _ :: []), defers := [] } _
            refine wpAnyH_ready (rs := [7]) (by kernel_rfl) (by simp) ?_
            refine (AllReadyH.cons rfl (fun KK hK => ?_) AllReadyH.nil)
            go_simp
            go_wp2_with fail
            refine (CT0 _ Bal).mono ?_
            rintro e1 wb ⟨rfl, hbxB2⟩
            have B2 := btrans Bal hbxB2
            have KB2 := blk_keep hbxB2 Kal
            clear hHeld
            refine hK.out _ _ (⟨ble B2 z0, ble B2 z1, ble B2 z2⟩) (fun hHeld => ?_)
            clear hK KK
            change wpAnyH _ _ _ _ _ _ _ { tmps := List.toArray (_ :: _ :: .pointer (some ⟨rb, 0, none⟩) :: _ :: .slice (some ⟨eg, 0, none⟩) 2 pc :: .slice (some ⟨tg, 0, none⟩) 2 qc :: .pointer (some ⟨wa.heap.size, 0, none⟩) :: _ :: _ :: _ :: _ :: _ :: _ :: _ :: _ :: _ :: _ :: _ :: _ :: _ :: _ :: .slice (some ⟨eg, 0, none⟩) 2 pc :: .pointer (some ⟨eg, 0, none⟩) :: .string e0 :: .int .i64 r1 :: .slice (some ⟨tg, 0, none⟩) 2 qc :: .pointer (some ⟨tg, 0, none⟩) :: .string t0 :: .int .i64 A :: .slice (some ⟨tg, 0, none⟩) 2 qc :: .pointer (some ⟨tg, 1, none⟩) :: .string t1 :: _ :: _ :: _ :: _ :: _ :: []), defers := [] } _
            refine wpAnyH_ready (rs := [11]) (by kernel_rfl) (by simp) ?_
            refine (AllReadyH.cons rfl (fun KK hK => ?_) AllReadyH.nil)
            go_simp
            go_wp2_with fail
            refine (CT1 _ B2).mono ?_
            rintro e1 wc_ ⟨rfl, hbxB3⟩
            have B3 := btrans B2 hbxB3
            have KB3 := blk_keep hbxB3 KB2
            clear hHeld
            refine hK.out _ _ (⟨ble B3 z0, ble B3 z1, ble B3 z2⟩) (fun hHeld => ?_)
            clear hK KK
            change wpAnyH _ _ _ _ _ _ _ { tmps := List.toArray (_ :: _ :: .pointer (some ⟨rb, 0, none⟩) :: _ :: .slice (some ⟨eg, 0, none⟩) 2 pc :: .slice (some ⟨tg, 0, none⟩) 2 qc :: .pointer (some ⟨wa.heap.size, 0, none⟩) :: _ :: _ :: _ :: _ :: _ :: _ :: _ :: _ :: _ :: _ :: _ :: _ :: _ :: _ :: .slice (some ⟨eg, 0, none⟩) 2 pc :: .pointer (some ⟨eg, 0, none⟩) :: .string e0 :: .int .i64 r1 :: .slice (some ⟨tg, 0, none⟩) 2 qc :: .pointer (some ⟨tg, 0, none⟩) :: .string t0 :: .int .i64 A :: .slice (some ⟨tg, 0, none⟩) 2 qc :: .pointer (some ⟨tg, 1, none⟩) :: .string t1 :: .int .i64 Dd :: _ :: _ :: _ :: _ :: []), defers := [] } _
            refine wpAnyH_take (i := 12) (v := .agg #[.int .i64 r1, .int .i64 A, .int .i64 Dd]) rfl (by kernel_rfl) (by kernel_rfl) (by kernel_rfl) (fun _ _ _ h => h) (Or.inl ⟨by kernel_rfl, fun w hS => by go_simp⟩) hHeld ?_
            change wpAnyH _ _ _ _ _ _ _ { tmps := List.toArray (_ :: _ :: .pointer (some ⟨rb, 0, none⟩) :: _ :: .slice (some ⟨eg, 0, none⟩) 2 pc :: .slice (some ⟨tg, 0, none⟩) 2 qc :: .pointer (some ⟨wa.heap.size, 0, none⟩) :: _ :: _ :: _ :: _ :: _ :: _ :: _ :: _ :: _ :: _ :: _ :: _ :: _ :: _ :: .slice (some ⟨eg, 0, none⟩) 2 pc :: .pointer (some ⟨eg, 0, none⟩) :: .string e0 :: .int .i64 r1 :: .slice (some ⟨tg, 0, none⟩) 2 qc :: .pointer (some ⟨tg, 0, none⟩) :: .string t0 :: .int .i64 A :: .slice (some ⟨tg, 0, none⟩) 2 qc :: .pointer (some ⟨tg, 1, none⟩) :: .string t1 :: .int .i64 Dd :: .agg #[.int .i64 r1, .int .i64 A, .int .i64 Dd] :: _ :: _ :: _ :: []), defers := [] } _
            refine wpAnyH_ready (rs := [14]) (by kernel_rfl) (by simp) ?_
            refine (AllReadyH.cons rfl (fun KK hK => ?_) AllReadyH.nil)
            obtain ⟨⟨s0, s1, s2⟩, sf0, sf1, sf2⟩ := three8 KB3
            go_simp
            clear hHeld
            refine hK.out _ _ (⟨set3_cell (ble B3 z0) (by omega), set3_cell (ble B3 z1) (by omega), set3_cell (ble B3 z2) (by omega)⟩) (fun hHeld => ?_)
            clear hK KK
            change wpAnyH _ _ _ _ _ _ _ { tmps := List.toArray (_ :: _ :: .pointer (some ⟨rb, 0, none⟩) :: _ :: .slice (some ⟨eg, 0, none⟩) 2 pc :: .slice (some ⟨tg, 0, none⟩) 2 qc :: .pointer (some ⟨wa.heap.size, 0, none⟩) :: _ :: _ :: _ :: _ :: _ :: _ :: _ :: _ :: _ :: _ :: _ :: _ :: _ :: _ :: .slice (some ⟨eg, 0, none⟩) 2 pc :: .pointer (some ⟨eg, 0, none⟩) :: .string e0 :: .int .i64 r1 :: .slice (some ⟨tg, 0, none⟩) 2 qc :: .pointer (some ⟨tg, 0, none⟩) :: .string t0 :: .int .i64 A :: .slice (some ⟨tg, 0, none⟩) 2 qc :: .pointer (some ⟨tg, 1, none⟩) :: .string t1 :: .int .i64 Dd :: .agg #[.int .i64 r1, .int .i64 A, .int .i64 Dd] :: _ :: _ :: _ :: []), defers := [] } _
            refine wpAnyH_done (by kernel_rfl) ?_ _
            go_wp2_with fail
            go_meet
            exact ⟨_, r1, rfl, hgal, hr1, set3_blk KB3, set3_below B3 hgal⟩
        · skip
          go_simp
          have hal := balloc w2 (.cells #[.int .i64 0, .int .i64 0, .int .i64 0] 33)
          have Kal : (w2.alloc (.cells #[.int .i64 0, .int .i64 0, .int .i64 0] 33)).drew.heap[w2.heap.size]? = some (.cells #[.int .i64 0, .int .i64 0, .int .i64 0] 33 (0, 0)) := one_block' w2 _
          have Bal : Below w2.heap.size w2 (w2.alloc (.cells #[.int .i64 0, .int .i64 0, .int .i64 0] 33)).drew := hal.drew
          have hgal : w2.heap.size ≤ w2.heap.size := Nat.le_refl _
          clear hal
          generalize (w2.alloc (.cells #[.int .i64 0, .int .i64 0, .int .i64 0] 33)).drew = wal at *
          clear hHeld
          refine hK.out _ _ (⟨ble Bal z0, ble Bal z1, ble Bal z2⟩) (fun hHeld => ?_)
          clear hK KK
          change wpAnyH _ _ _ _ _ _ _ { tmps := List.toArray (_ :: _ :: .pointer (some ⟨rb, 0, none⟩) :: _ :: .slice (some ⟨eg, 0, none⟩) 2 pc :: .slice (some ⟨tg, 0, none⟩) 2 qc :: .pointer (some ⟨w2.heap.size, 0, none⟩) :: _ :: _ :: _ :: _ :: _ :: _ :: _ :: _ :: _ :: _ :: _ :: _ :: _ :: _ :: .slice (some ⟨eg, 0, none⟩) 2 pc :: .pointer (some ⟨eg, 0, none⟩) :: .string e0 :: _ :: .slice (some ⟨tg, 0, none⟩) 2 qc :: .pointer (some ⟨tg, 0, none⟩) :: .string t0 :: _ :: .slice (some ⟨tg, 0, none⟩) 2 qc :: .pointer (some ⟨tg, 1, none⟩) :: .string t1 :: _ :: _ :: _ :: _ :: _ :: []), defers := [] } _
          refine wpAnyH_ready (rs := [3]) (by kernel_rfl) (by simp) ?_
          refine (AllReadyH.cons rfl (fun KK hK => ?_) AllReadyH.nil)
          go_simp
          go_wp2_with fail
          refine (CU _ Bal).mono ?_
          rintro e1 wa ⟨r1, rfl, hr1, hbxB1⟩
          have B1 := btrans Bal hbxB1
          have KB1 := blk_keep hbxB1 Kal
          clear hHeld
          refine hK.out _ _ (⟨ble B1 z0, ble B1 z1, ble B1 z2⟩) (fun hHeld => ?_)
          clear hK KK
          change wpAnyH _ _ _ _ _ _ _ { tmps := List.toArray (_ :: _ :: .pointer (some ⟨rb, 0, none⟩) :: _ :: .slice (some ⟨eg, 0, none⟩) 2 pc :: .slice (some ⟨tg, 0, none⟩) 2 qc :: .pointer (some ⟨w2.heap.size, 0, none⟩) :: _ :: _ :: _ :: _ :: _ :: _ :: _ :: _ :: _ :: _ :: _ :: _ :: _ :: _ :: .slice (some ⟨eg, 0, none⟩) 2 pc :: .pointer (some ⟨eg, 0, none⟩) :: .string e0 :: .int .i64 r1 :: .slice (some ⟨tg, 0, none⟩) 2 qc :: .pointer (some ⟨tg, 0, none⟩) :: .string t0 :: _ :: .slice (some ⟨tg, 0, none⟩) 2 qc :: .pointer (some ⟨tg, 1, none⟩) :: .string t1 :: _ :: _ :: _ :: _ :: _ :: []), defers := [] } _
          refine wpAnyH_ready (rs := [7]) (by kernel_rfl) (by simp) ?_
          refine (AllReadyH.cons rfl (fun KK hK => ?_) AllReadyH.nil)
          go_simp
          go_wp2_with fail
          refine (CT0 _ B1).mono ?_
          rintro e1 wb ⟨rfl, hbxB2⟩
          have B2 := btrans B1 hbxB2
          have KB2 := blk_keep hbxB2 KB1
          clear hHeld
          refine hK.out _ _ (⟨ble B2 z0, ble B2 z1, ble B2 z2⟩) (fun hHeld => ?_)
          clear hK KK
          change wpAnyH _ _ _ _ _ _ _ { tmps := List.toArray (_ :: _ :: .pointer (some ⟨rb, 0, none⟩) :: _ :: .slice (some ⟨eg, 0, none⟩) 2 pc :: .slice (some ⟨tg, 0, none⟩) 2 qc :: .pointer (some ⟨w2.heap.size, 0, none⟩) :: _ :: _ :: _ :: _ :: _ :: _ :: _ :: _ :: _ :: _ :: _ :: _ :: _ :: _ :: .slice (some ⟨eg, 0, none⟩) 2 pc :: .pointer (some ⟨eg, 0, none⟩) :: .string e0 :: .int .i64 r1 :: .slice (some ⟨tg, 0, none⟩) 2 qc :: .pointer (some ⟨tg, 0, none⟩) :: .string t0 :: .int .i64 A :: .slice (some ⟨tg, 0, none⟩) 2 qc :: .pointer (some ⟨tg, 1, none⟩) :: .string t1 :: _ :: _ :: _ :: _ :: _ :: []), defers := [] } _
          refine wpAnyH_ready (rs := [11]) (by kernel_rfl) (by simp) ?_
          refine (AllReadyH.cons rfl (fun KK hK => ?_) AllReadyH.nil)
          go_simp
          go_wp2_with fail
          refine (CT1 _ B2).mono ?_
          rintro e1 wc_ ⟨rfl, hbxB3⟩
          have B3 := btrans B2 hbxB3
          have KB3 := blk_keep hbxB3 KB2
          clear hHeld
          refine hK.out _ _ (⟨ble B3 z0, ble B3 z1, ble B3 z2⟩) (fun hHeld => ?_)
          clear hK KK
          change wpAnyH _ _ _ _ _ _ _ { tmps := List.toArray (_ :: _ :: .pointer (some ⟨rb, 0, none⟩) :: _ :: .slice (some ⟨eg, 0, none⟩) 2 pc :: .slice (some ⟨tg, 0, none⟩) 2 qc :: .pointer (some ⟨w2.heap.size, 0, none⟩) :: _ :: _ :: _ :: _ :: _ :: _ :: _ :: _ :: _ :: _ :: _ :: _ :: _ :: _ :: .slice (some ⟨eg, 0, none⟩) 2 pc :: .pointer (some ⟨eg, 0, none⟩) :: .string e0 :: .int .i64 r1 :: .slice (some ⟨tg, 0, none⟩) 2 qc :: .pointer (some ⟨tg, 0, none⟩) :: .string t0 :: .int .i64 A :: .slice (some ⟨tg, 0, none⟩) 2 qc :: .pointer (some ⟨tg, 1, none⟩) :: .string t1 :: .int .i64 Dd :: _ :: _ :: _ :: _ :: []), defers := [] } _
          refine wpAnyH_take (i := 12) (v := .agg #[.int .i64 r1, .int .i64 A, .int .i64 Dd]) rfl (by kernel_rfl) (by kernel_rfl) (by kernel_rfl) (fun _ _ _ h => h) (Or.inl ⟨by kernel_rfl, fun w hS => by go_simp⟩) hHeld ?_
          change wpAnyH _ _ _ _ _ _ _ { tmps := List.toArray (_ :: _ :: .pointer (some ⟨rb, 0, none⟩) :: _ :: .slice (some ⟨eg, 0, none⟩) 2 pc :: .slice (some ⟨tg, 0, none⟩) 2 qc :: .pointer (some ⟨w2.heap.size, 0, none⟩) :: _ :: _ :: _ :: _ :: _ :: _ :: _ :: _ :: _ :: _ :: _ :: _ :: _ :: _ :: .slice (some ⟨eg, 0, none⟩) 2 pc :: .pointer (some ⟨eg, 0, none⟩) :: .string e0 :: .int .i64 r1 :: .slice (some ⟨tg, 0, none⟩) 2 qc :: .pointer (some ⟨tg, 0, none⟩) :: .string t0 :: .int .i64 A :: .slice (some ⟨tg, 0, none⟩) 2 qc :: .pointer (some ⟨tg, 1, none⟩) :: .string t1 :: .int .i64 Dd :: .agg #[.int .i64 r1, .int .i64 A, .int .i64 Dd] :: _ :: _ :: _ :: []), defers := [] } _
          refine wpAnyH_ready (rs := [14]) (by kernel_rfl) (by simp) ?_
          refine (AllReadyH.cons rfl (fun KK hK => ?_) AllReadyH.nil)
          obtain ⟨⟨s0, s1, s2⟩, sf0, sf1, sf2⟩ := three8 KB3
          go_simp
          clear hHeld
          refine hK.out _ _ (⟨set3_cell (ble B3 z0) (by omega), set3_cell (ble B3 z1) (by omega), set3_cell (ble B3 z2) (by omega)⟩) (fun hHeld => ?_)
          clear hK KK
          change wpAnyH _ _ _ _ _ _ _ { tmps := List.toArray (_ :: _ :: .pointer (some ⟨rb, 0, none⟩) :: _ :: .slice (some ⟨eg, 0, none⟩) 2 pc :: .slice (some ⟨tg, 0, none⟩) 2 qc :: .pointer (some ⟨w2.heap.size, 0, none⟩) :: _ :: _ :: _ :: _ :: _ :: _ :: _ :: _ :: _ :: _ :: _ :: _ :: _ :: _ :: .slice (some ⟨eg, 0, none⟩) 2 pc :: .pointer (some ⟨eg, 0, none⟩) :: .string e0 :: .int .i64 r1 :: .slice (some ⟨tg, 0, none⟩) 2 qc :: .pointer (some ⟨tg, 0, none⟩) :: .string t0 :: .int .i64 A :: .slice (some ⟨tg, 0, none⟩) 2 qc :: .pointer (some ⟨tg, 1, none⟩) :: .string t1 :: .int .i64 Dd :: .agg #[.int .i64 r1, .int .i64 A, .int .i64 Dd] :: _ :: _ :: _ :: []), defers := [] } _
          refine wpAnyH_done (by kernel_rfl) ?_ _
          go_wp2_with fail
          go_meet
          exact ⟨_, r1, rfl, hgal, hr1, set3_blk KB3, set3_below B3 hgal⟩
    
      case rest =>
        obtain ⟨q, r1, rfl, hq2, hr1, Kq, hbc⟩ := hcut
        have rbl : rb < w2.heap.size := lt_of_block K0
        have hqr : q ≠ rb := by omega
        have hrw : w.heap.size ≤ rb := by omega
        replace HB := btrans HB hbc
        replace K0 := blk_keep hbc K0
        obtain ⟨⟨q0, q1, q2⟩, -⟩ := three8 Kq
        have hfin : (callB ⟨r1, A, Dd⟩ = true ∧ ∀ x, callB x = true → callL x = l → (⟨r1, A, Dd⟩ : HaltV) = x) ∨ (callB ⟨r1, A, Dd⟩ = false ∧ ∀ x, callB x = true → callL x ≠ l) := by
          have key : ∀ x, callB x = true → callL x = l → (⟨r1, A, Dd⟩ : HaltV) = x := fun x hx hl => by
            obtain ⟨h1, n, hn, hxn, hd⟩ := hX.out x hx hl
            rw [h1, hxn, hr1 n hn hd]
          cases hc : callB ⟨r1, A, Dd⟩ with
          | true => exact .inl ⟨rfl, key⟩
          | false =>
            refine .inr ⟨rfl, fun x hx hl => ?_⟩
            rw [← key x hx hl, hc] at hx
            exact Bool.false_ne_true hx
        clear hX hr1 hbc Kq hq2
        go_upto_region 8 with fail
        refine wp_region_held_drew (S := (fun w' => w'.cell? ⟨q, 0, none⟩ = some (.int .i64 r1) ∧ w'.cell? ⟨q, 1, none⟩ = some (.int .i64 A) ∧ w'.cell? ⟨q, 2, none⟩ = some (.int .i64 Dd))) (by kernel_rfl) ?_ (fun hHeld => ?_)
        · go_keep
        refine wpAnyH_take (i := 0) (v := .agg #[.int .i64 r1, .int .i64 A, .int .i64 Dd]) rfl (by kernel_rfl) (by kernel_rfl) (by kernel_rfl) (fun _ _ _ h => h) (Or.inl ⟨by kernel_rfl, fun w hS => by (obtain ⟨hS0, hS1, hS2⟩ := hS; go_simp)⟩) hHeld ?_
        change wpAnyH _ _ _ _ _ _ _ { tmps := List.toArray (_ :: _ :: .pointer (some ⟨rb, 0, none⟩) :: _ :: _ :: _ :: .pointer (some ⟨q, 0, none⟩) :: _ :: _ :: _ :: _ :: _ :: _ :: _ :: _ :: _ :: _ :: _ :: _ :: _ :: _ :: _ :: _ :: _ :: _ :: _ :: _ :: _ :: _ :: _ :: _ :: _ :: _ :: _ :: .agg #[.int .i64 r1, .int .i64 A, .int .i64 Dd] :: _ :: _ :: []), defers := [] } _
        refine wpAnyH_take (i := 1) (v := .agg #[.int .i64 r1, .int .i64 A, .int .i64 Dd]) rfl (by kernel_rfl) (by kernel_rfl) (by kernel_rfl) (fun _ _ _ h => h) (Or.inl ⟨by kernel_rfl, fun w hS => by (obtain ⟨hS0, hS1, hS2⟩ := hS; go_simp)⟩) hHeld ?_
        change wpAnyH _ _ _ _ _ _ _ { tmps := List.toArray (_ :: _ :: .pointer (some ⟨rb, 0, none⟩) :: _ :: _ :: _ :: .pointer (some ⟨q, 0, none⟩) :: _ :: _ :: _ :: _ :: _ :: _ :: _ :: _ :: _ :: _ :: _ :: _ :: _ :: _ :: _ :: _ :: _ :: _ :: _ :: _ :: _ :: _ :: _ :: _ :: _ :: _ :: _ :: .agg #[.int .i64 r1, .int .i64 A, .int .i64 Dd] :: .agg #[.int .i64 r1, .int .i64 A, .int .i64 Dd] :: _ :: []), defers := [] } _
        refine wpAnyH_ready (rs := [2]) (by kernel_rfl) (by simp) ?_
        refine (AllReadyH.cons rfl (fun KK hK => ?_) AllReadyH.nil)
        go_simp
        go_wp2_with fail
        refine (cCallOk ⟨r1, A, Dd⟩ _).mono ?_
        rintro e1 wk ⟨rfl, hbx⟩
        replace q0 := ble hbx q0
        replace q1 := ble hbx q1
        replace q2 := ble hbx q2
        have KC := blk_keep hbx K0
        have BC := btrans (Below.drew HB) hbx
        clear hbx
        clear hHeld
        refine hK.out _ _ (⟨q0, q1, q2⟩) (fun hHeld => ?_)
        clear hK KK
        change wpAnyH _ _ _ _ _ _ _ { tmps := List.toArray (_ :: _ :: .pointer (some ⟨rb, 0, none⟩) :: _ :: _ :: _ :: .pointer (some ⟨q, 0, none⟩) :: _ :: _ :: _ :: _ :: _ :: _ :: _ :: _ :: _ :: _ :: _ :: _ :: _ :: _ :: _ :: _ :: _ :: _ :: _ :: _ :: _ :: _ :: _ :: _ :: _ :: _ :: _ :: .agg #[.int .i64 r1, .int .i64 A, .int .i64 Dd] :: .agg #[.int .i64 r1, .int .i64 A, .int .i64 Dd] :: .bool (callB ⟨r1, A, Dd⟩) :: []), defers := [] } _
        refine wpAnyH_ready (rs := [3]) (by kernel_rfl) (by simp) ?_
        refine (AllReadyH.cons rfl (fun KK hK => ?_) AllReadyH.nil)
        obtain ⟨⟨s0, s1, s2⟩, sf0, sf1, sf2⟩ := three8 KC
        go_simp
        clear hHeld
        refine hK.out _ _ (⟨set3_cell q0 hqr, set3_cell q1 hqr, set3_cell q2 hqr⟩) (fun hHeld => ?_)
        clear hK KK
        change wpAnyH _ _ _ _ _ _ _ { tmps := List.toArray (_ :: _ :: .pointer (some ⟨rb, 0, none⟩) :: _ :: _ :: _ :: .pointer (some ⟨q, 0, none⟩) :: _ :: _ :: _ :: _ :: _ :: _ :: _ :: _ :: _ :: _ :: _ :: _ :: _ :: _ :: _ :: _ :: _ :: _ :: _ :: _ :: _ :: _ :: _ :: _ :: _ :: _ :: _ :: .agg #[.int .i64 r1, .int .i64 A, .int .i64 Dd] :: .agg #[.int .i64 r1, .int .i64 A, .int .i64 Dd] :: .bool (callB ⟨r1, A, Dd⟩) :: []), defers := [] } _
        refine wpAnyH_take (i := 4) (v := .bool (callB ⟨r1, A, Dd⟩)) rfl (by kernel_rfl) (by kernel_rfl) (by kernel_rfl) (fun _ _ _ h => h) (Or.inl ⟨by kernel_rfl, fun w hS => by go_simp⟩) hHeld ?_
        change wpAnyH _ _ _ _ _ _ _ { tmps := List.toArray (_ :: _ :: .pointer (some ⟨rb, 0, none⟩) :: .bool (callB ⟨r1, A, Dd⟩) :: _ :: _ :: .pointer (some ⟨q, 0, none⟩) :: _ :: _ :: _ :: _ :: _ :: _ :: _ :: _ :: _ :: _ :: _ :: _ :: _ :: _ :: _ :: _ :: _ :: _ :: _ :: _ :: _ :: _ :: _ :: _ :: _ :: _ :: _ :: .agg #[.int .i64 r1, .int .i64 A, .int .i64 Dd] :: .agg #[.int .i64 r1, .int .i64 A, .int .i64 Dd] :: .bool (callB ⟨r1, A, Dd⟩) :: []), defers := [] } _
        refine wpAnyH_done (by kernel_rfl) ?_ _
        go_wp2_with fail
        obtain ⟨⟨v0, v1, v2⟩, -⟩ := three8 (set3_blk (a := .int .i64 r1) (b := .int .i64 A) (c := .int .i64 Dd) KC)
        refine bodyPost_ret (v := .tuple #[.agg #[.int .i64 r1, .int .i64 A, .int .i64 Dd], .bool (callB ⟨r1, A, Dd⟩)]) (by simp [results, Tryz.results22, v0, v1, v2, go_sem]) rfl ?_
        exact ⟨(set3_below (a := .int .i64 r1) (b := .int .i64 A) (c := .int .i64 Dd) BC hrw), ⟨r1, A, Dd⟩, callB ⟨r1, A, Dd⟩, rfl, hfin⟩
    
    · have hno : ∀ x, callB x = true → callL x ≠ l := fun x hx hl => by
        obtain ⟨n, a, d, rfl, c1, c2, c3, c4, c5⟩ := hcut.out x hx hl
        simp only [List.cons.injEq, and_true] at c2
        have hq := hqs.out
        rw [c2.2, c3] at hq
        exact h3 (by rw [← hq]; rfl)
      clear hcut hcut2 hqs hlen
      have hne : ((qs.length : Int) != 2) = true := by simp only [bne_iff_ne]; omega
      clear h3
      obtain ⟨⟨s0, s1, s2⟩, sf0, sf1, sf2⟩ := three8 K0
      have K1 := set3_blk (a := .int .i64 0) (b := .int .i64 0) (c := .int .i64 0) K0
      have B1 := set3_below (a := .int .i64 0) (b := .int .i64 0) (c := .int .i64 0) HB (Nat.le_of_eq hrb)
      go_wp2_with fail
      obtain ⟨⟨v0, v1, v2⟩, -⟩ := three8 K1
      refine bodyPost_ret (v := .tuple #[HaltV.zero.val, .bool false]) (by simp [results, Tryz.results22, v0, v1, v2, HaltV.zero, HaltV.val, go_sem]) rfl ?_
      exact ⟨B1, HaltV.zero, false, rfl, .inr ⟨rfl, hno⟩⟩
  · have hno : ∀ x, callB x = true → callL x ≠ l := fun x hx hl => by
      obtain ⟨n, a, d, rfl, c1, c2, c3, c4, c5⟩ := hcut.out x hx hl
      exact h2 (by rw [c2]; rfl)
    clear hcut hlen
    have hne : ((ps.length : Int) != 2) = true := by simp only [bne_iff_ne]; omega
    clear h2
    obtain ⟨⟨s0, s1, s2⟩, sf0, sf1, sf2⟩ := three8 K0
    have K1 := set3_blk (a := .int .i64 0) (b := .int .i64 0) (c := .int .i64 0) K0
    have B1 := set3_below (a := .int .i64 0) (b := .int .i64 0) (c := .int .i64 0) HB (Nat.le_of_eq hrb)
    go_wp2_with fail
    obtain ⟨⟨v0, v1, v2⟩, -⟩ := three8 K1
    refine bodyPost_ret (v := .tuple #[HaltV.zero.val, .bool false]) (by simp [results, Tryz.results22, v0, v1, v2, HaltV.zero, HaltV.val, go_sem]) rfl ?_
    exact ⟨B1, HaltV.zero, false, rfl, .inr ⟨rfl, hno⟩⟩
end Go.Proofs.YthlmaljgnhakfaaGreatDoor
