/- A number read of a text: the program's. -/
import Derived.Test.YtnddhpdhbmbikaaDoorRD
namespace Go.Proofs.YtnddhpdhbmbikaaDoor
open Go.RowKit
theorem wrap32 (z : Nat) (h : z < 256) : IntKind.i32.wrap (z : Int) = (z : Int) := by
  simp [IntKind.wrap, IntKind.bits]
  omega
theorem Sg.fr {w : World} {g k : Nat} {l : List UInt8} (h : Sg w g k l) : w.frozen? ⟨g, 1, none⟩ = false := by unfold Sg at h; simp [World.frozen?, h]
theorem if_neg_or {α : Type} {b : UInt8} {bs : List UInt8} {x y : α} : (if (b :: bs) = [] ∨ (b :: bs).getD 0 0 = 48 then x else y) = if b = 48 then x else y := by simp
set_option maxHeartbeats 800000 in
theorem cLeftN (g k : Nat) (l : List UInt8) (w : World) (hg : Sg w g k l) (hk : k ≤ l.length) :
    Calls Tryd.prog 63 #[.pointer (some ⟨g, 0, none⟩)] w fun e w' => e = .returned (.string ⟨(l.drop k).toArray⟩) ∧ ∃ m, w' = w.drewN m := by
  have x0 : w.cell? ⟨g, 0, none⟩ = some (.string ⟨l.toArray⟩) := blk_cellR hg 0
  have x1 : w.cell? ⟨g, 1, none⟩ = some (.int .i64 (k : Int)) := blk_cellR hg 1
  rw [← ext_dropR]
  rw [← sizeR l] at *
  generalize (⟨l.toArray⟩ : ByteArray) = t at *
  have h0 : (0 : Int) ≤ (k : Int) := by omega
  have h1 : (k : Int) ≤ (t.size : Int) := by omega
  go_enter Tryd.func63, Tryd.ntmps63
  go_wp2_with fail
  go_quiet (fail)
  go_wp2
  go_ret
  exact ⟨rfl, _, rfl⟩
theorem numCase (most : Nat) (ds : List UInt8) : ((⟨ds.toArray⟩ : ByteArray) = ⟨#[]⟩ ∧ (numO most ds).map (fun n : Nat => Value.int .i64 (n : Int)) = none) ∨
    ∃ b, (⟨ds.toArray⟩ : ByteArray).toList.isEmpty = false ∧ (∀ h, (⟨ds.toArray⟩ : ByteArray)[0]'h = b) ∧ 0 < (⟨ds.toArray⟩ : ByteArray).size ∧
      (numO most ds).map (fun n : Nat => Value.int .i64 (n : Int)) = (if b = 48 then none else if rdN most ds 0 < 0 then none else some (.int .i64 ((rdN most ds 0).toNat : Int))) := by
  rcases ds with _ | ⟨b, bs⟩
  · exact .inl ⟨rfl, rfl⟩
  · refine .inr ⟨b, by rw [ByteArray.toList_eq]; rfl, fun h => rfl, by rw [sizeR]; simp, ?_⟩
    rw [numO, if_neg_or]
    split
    · rfl
    · split
      · rfl
      · rfl
def plOf (g : Nat) (w : World) : Nat := (intOf ((w.cell? ⟨g, 1, none⟩).getD undef)).toNat
theorem plOf_sg {w : World} {g k : Nat} {l : List UInt8} (h : Sg w g k l) : plOf g w = k := by
  unfold plOf
  rw [blk_cellR h 1]
  simp [intOf]
set_option maxRecDepth 1000000 in
set_option maxHeartbeats 3200000 in
theorem cNumber (g k most : Nat) (l : List UInt8) (w : World) (T : TypeId) (u : Value) (hv : w.cell? ⟨0, 0, none⟩ = some (.iface T u)) (h0 : 0 < g) (hg : Sg w g k l) (hk : k ≤ l.length) (hm : l.length ≤ 1048576) (hmo : most ≤ 100000) :
    Calls Tryd.prog 60 #[.pointer (some ⟨g, 0, none⟩), .int .i64 (most : Int)] w fun e w' => AnsM (.int .i64 0) ((numO most (dgs l k)).map fun n : Nat => Value.int .i64 (n : Int)) (.iface T u) e ∧ Sg w' g (k + (dgs l k).length) l ∧ Rd g w w' := by
  have hdat : ∀ j, j < (dgs l k).length → k + j < l.length ∧ digB (l.getD (k + j) 0) = true := fun j h => ⟨(dgs_at h).1, (dgs_at h).2.1⟩
  have hend := hide (dgs_end l k hk)
  have hE := hide (ext_dgs l k)
  have hcase := hide (numCase most (dgs l k))
  have CU : ∀ w, Calls Tryd.prog 69 #[.string ⟨(dgs l k).toArray⟩, .int .i64 (most : Int)] w fun e w' => e = .returned (.int .i64 (rdN most (dgs l k) 0)) ∧ Below w.heap.size w w' := by
    intro w
    refine cUpTo ⟨(dgs l k).toArray⟩ most w hmo ?_
    intro z hz
    rw [sizeR] at hz
    obtain ⟨-, q2, q3⟩ := dgs_at hz
    rw [indexR _ z hz, q3]
    simpa [digB] using q2
  generalize (numO most (dgs l k)).map (fun n : Nat => Value.int .i64 (n : Int)) = O at *
  generalize rdN most (dgs l k) 0 = N at *
  generalize (⟨(dgs l k).toArray⟩ : ByteArray) = F at *
  generalize (dgs l k).length = L at *
  have x0 : w.cell? ⟨g, 0, none⟩ = some (.string ⟨l.toArray⟩) := blk_cellR hg 0
  have x1 : w.cell? ⟨g, 1, none⟩ = some (.int .i64 (k : Int)) := blk_cellR hg 1
  go_enter Tryd.func60, Tryd.ntmps60
  go_wp2
  clear x0 x1
  go_loopw [] (fun wr => ∃ j : Nat, j ≤ L ∧ Sg wr g (k + j) l ∧ Rd g w wr) (fun wr => l.length - plOf g wr)
  case atStart => exact ⟨0, Nat.zero_le _, hg, Rd.of (Below.refl _ _) hg.lt⟩
  case round =>
    obtain ⟨j, hj, hgr, hR⟩ := hrel
    have pl := plOf_sg hgr
    have x0 : wr.cell? ⟨g, 0, none⟩ = some (.string ⟨l.toArray⟩) := blk_cellR hgr 0
    have x1 : wr.cell? ⟨g, 1, none⟩ = some (.int .i64 ((k + j : Nat) : Int)) := blk_cellR hgr 1
    by_cases hlt : j < L
    · obtain ⟨a1, a2⟩ := hdat j hlt
      obtain ⟨P, hP⟩ : ∃ P, k + j = P := ⟨_, rfl⟩
      rw [hP] at a1 a2 x1 hgr
      have CL := fun w hg => cLeft g P l w hg (by omega)
      have hne : (⟨(l.drop P).toArray⟩ : ByteArray).toList.isEmpty = false := by
        rw [ByteArray.toList_eq]
        cases hd : l.drop P with
        | nil => have := congrArg List.length hd; simp at this; omega
        | cons a b => rfl
      have hsz := sizeR l
      have hx := indexR l P a1
      have CD := fun w => cDigit ((l.getD P 0).toNat : Int) w
      rw [digB_iff, a2] at CD
      have e1 : IntKind.i32.wrap ((l.getD P 0).toNat : Int) = ((l.getD P 0).toNat : Int) := wrap32 _ (UInt8.toNat_lt _)
      generalize l.getD P 0 = B at *
      have hp0 : (0 : Int) ≤ (P : Int) := by omega
      have hp1 : (P : Int) < (l.length : Int) := by omega
      generalize hd : (⟨(l.drop P).toArray⟩ : ByteArray) = d at *
      have hgd : Sg wr.drew g P l := hgr
      have hR2 : Rd g wr wr := Rd.of (Below.refl _ _) hgr.lt
      clear hd hv hg hk hj pl hcase hend hE CU hdat
      generalize (⟨l.toArray⟩ : ByteArray) = t at *
      go_wp2_with fail
      go_region_held3 (fun w' => w'.cell? ⟨g, 0, none⟩ = some (.string t) ∧ w'.cell? ⟨g, 1, none⟩ = some (.int .i64 (P : Int))) (go_keep) (first
        | (go_at_call 63; with_reducible refine (CL _ hgd).mono ?_; rintro e wa ⟨rfl, hba⟩; have Ba := undrew hba; have s0 := ble Ba x0; have s1 := ble Ba x1; have hga := hgr.keep Ba; have hfa := hga.fr; have Ra := hR.trans (Rd.of Ba hgr.lt))
        | (go_at_call 68; with_reducible refine (CD _).mono ?_; rintro e wb ⟨rfl, hwb⟩; subst wb))
      go_wp2
      have hg2 : Sg (wa.setCell ⟨g, 1, none⟩ (.int .i64 ((P : Int) + 1))) g (P + 1) l := by
        have := blk_setR (i := 1) (v := .int .i64 ((P : Int) + 1)) hga
        simpa [Sg] using this
      have hR2 := Ra.trans (Rd.set (i := 1) wa (.int .i64 ((P : Int) + 1)))
      go_roundw
      case rel => exact ⟨j + 1, by omega, by rw [← Nat.add_assoc, hP]; exact hg2, hR2⟩
      case measure => rw [plOf_sg hgr, plOf_sg hg2]; omega
    · have ej : j = L := by omega
      subst ej
      obtain ⟨P, hP⟩ : ∃ P, k + j = P := ⟨_, rfl⟩
      rw [hP] at hgr x1 hend hE
      replace hE := hE.out
      have hPl : P ≤ l.length := by rcases hend.out with h | ⟨h, -⟩ <;> omega
      have CL := fun w hg => cLeftN g P l w hg hPl
      have hsz := sizeR l
      have hp0 : (0 : Int) ≤ (P : Int) := by omega
      have hp1 : (P : Int) ≤ ((⟨l.toArray⟩ : ByteArray).size : Int) := by omega
      have hk0 : (0 : Int) ≤ (k : Int) := by omega
      have hk1 : (k : Int) ≤ (P : Int) := by omega
      have hgn : ∀ n, Sg (wr.drewN n) g P l := fun _ => hgr
      have hlg := hgr.lt
      have va := hR.cell0 h0 hv
      have hga := hgr
      have Ra := hR
      clear hdat hv hg hlt pl
      rcases hend.out with he | ⟨hl, hnd⟩
      · have hne9 : (⟨(l.drop P).toArray⟩ : ByteArray).toList.isEmpty = true := by
          rw [List.drop_of_length_le (by omega), ByteArray.toList_eq]
          rfl
        generalize (⟨(l.drop P).toArray⟩ : ByteArray) = d9 at *
        clear hend he
        generalize (⟨l.toArray⟩ : ByteArray) = t at *
        rcases hcase.out with ⟨hF, hN⟩ | ⟨b, hne, hx0, hz0, hO2⟩
        · replace hN := hide hN
          rw [hF] at hE
          clear hcase CU hF
          go_wp2_with fail
          go_quiet (first | (go_at_call 63; with_reducible refine Calls.quiet_of (CL _ (hgn _))))
          go_wp2_with fail
          go_quiet (fail)
          go_wp2_with fail
          go_region_held3 (fun w' => w'.cell? ⟨0, 0, none⟩ = some (.iface T u)) (exact va) (fail)
          go_wp2
          go_ret2
          exact ⟨.inr ⟨hN.out, _, rfl⟩, (by rw [hP]; exact hga), Ra.trans (Rd.of ⟨rfl, rfl, rfl, Nat.le_refl _, fun _ _ => rfl⟩ hga.lt)⟩
        clear hcase
        replace hO2 := hide hO2
        by_cases h48 : b = 48
        · have hN := hide (show O = none by rw [hO2.out, if_pos h48])
          subst h48
          clear hO2
          go_wp2_with fail
          go_quiet (first | (go_at_call 63; with_reducible refine Calls.quiet_of (CL _ (hgn _))))
          go_wp2_with fail
          go_quiet (fail)
          go_wp2_with fail
          go_region_held3 (fun w' => w'.cell? ⟨0, 0, none⟩ = some (.iface T u)) (exact va) (fail)
          go_wp2
          go_ret2
          exact ⟨.inr ⟨hN.out, _, rfl⟩, (by rw [hP]; exact hga), Ra.trans (Rd.of ⟨rfl, rfl, rfl, Nat.le_refl _, fun _ _ => rfl⟩ hga.lt)⟩
        have n48 : ¬ ((b.toNat : Int) = 48) := by intro e; exact h48 (UInt8.toNat_inj.1 (by simpa using Int.ofNat.inj e))
        have hO3 := hide (show O = if N < 0 then none else some (.int .i64 (N.toNat : Int)) by rw [hO2.out, if_neg h48])
        clear h48 hO2
        by_cases hN0 : N < 0
        · have hN := hide (show O = none by rw [hO3.out, if_pos hN0])
          clear hO3
          go_wp2_with fail
          go_quiet (first | (go_at_call 63; with_reducible refine Calls.quiet_of (CL _ (hgn _))))
          go_wp2_with fail
          go_quiet (fail)
          go_wp2_with fail
          refine (CU _).mono ?_
          rintro e wc ⟨rfl, hbc⟩
          replace hbc : Below wr.heap.size wr wc := btrans (below_drewN _ _) hbc
          replace Ra := Ra.trans (Rd.of hbc hga.lt)
          replace va := ble hbc va
          replace hga := hga.keep hbc
          go_wp2_with fail
          go_region_held3 (fun w' => w'.cell? ⟨0, 0, none⟩ = some (.iface T u)) (exact va) (fail)
          go_wp2
          go_ret2
          exact ⟨.inr ⟨hN.out, _, rfl⟩, (by rw [hP]; exact hga), Ra.trans (Rd.of ⟨rfl, rfl, rfl, Nat.le_refl _, fun _ _ => rfl⟩ hga.lt)⟩
        · have hS := hide (show O = some (.int .i64 N) by rw [hO3.out, if_neg hN0, Int.toNat_of_nonneg (by omega)])
          clear hO3
          go_wp2_with fail
          go_quiet (first | (go_at_call 63; with_reducible refine Calls.quiet_of (CL _ (hgn _))))
          go_wp2_with fail
          go_quiet (fail)
          go_wp2_with fail
          refine (CU _).mono ?_
          rintro e wc ⟨rfl, hbc⟩
          replace hbc : Below wr.heap.size wr wc := btrans (below_drewN _ _) hbc
          replace Ra := Ra.trans (Rd.of hbc hga.lt)
          replace va := ble hbc va
          replace hga := hga.keep hbc
          go_wp2
          go_ret2
          exact ⟨.inl ⟨_, hS.out, rfl⟩, (by rw [hP]; exact hga), Ra⟩
      · have hne9 : (⟨(l.drop P).toArray⟩ : ByteArray).toList.isEmpty = false := by
          rw [ByteArray.toList_eq]
          cases hd : l.drop P with
          | nil => have := congrArg List.length hd; simp at this; omega
          | cons a b => rfl
        have hx9 := indexR l P hl
        have CD := fun w => cDigit ((l.getD P 0).toNat : Int) w
        rw [digB_iff, hnd] at CD
        have e1 : IntKind.i32.wrap ((l.getD P 0).toNat : Int) = ((l.getD P 0).toNat : Int) := wrap32 _ (UInt8.toNat_lt _)
        have hp2 : (P : Int) < (l.length : Int) := by omega
        clear hnd hend
        generalize l.getD P 0 = B at *
        generalize (⟨(l.drop P).toArray⟩ : ByteArray) = d9 at *
        generalize (⟨l.toArray⟩ : ByteArray) = t at *
        rcases hcase.out with ⟨hF, hN⟩ | ⟨b, hne, hx0, hz0, hO2⟩
        · replace hN := hide hN
          rw [hF] at hE
          clear hcase CU hF
          go_wp2_with fail
          go_quiet (first | (go_at_call 63; with_reducible refine Calls.quiet_of (CL _ (hgn _))) | (go_at_call 68; with_reducible refine Calls.quiet_of_same (CD _)))
          go_wp2_with fail
          go_quiet (fail)
          go_wp2_with fail
          go_region_held3 (fun w' => w'.cell? ⟨0, 0, none⟩ = some (.iface T u)) (exact va) (fail)
          go_wp2
          go_ret2
          exact ⟨.inr ⟨hN.out, _, rfl⟩, (by rw [hP]; exact hga), Ra.trans (Rd.of ⟨rfl, rfl, rfl, Nat.le_refl _, fun _ _ => rfl⟩ hga.lt)⟩
        clear hcase
        replace hO2 := hide hO2
        by_cases h48 : b = 48
        · have hN := hide (show O = none by rw [hO2.out, if_pos h48])
          subst h48
          clear hO2
          go_wp2_with fail
          go_quiet (first | (go_at_call 63; with_reducible refine Calls.quiet_of (CL _ (hgn _))) | (go_at_call 68; with_reducible refine Calls.quiet_of_same (CD _)))
          go_wp2_with fail
          go_quiet (fail)
          go_wp2_with fail
          go_region_held3 (fun w' => w'.cell? ⟨0, 0, none⟩ = some (.iface T u)) (exact va) (fail)
          go_wp2
          go_ret2
          exact ⟨.inr ⟨hN.out, _, rfl⟩, (by rw [hP]; exact hga), Ra.trans (Rd.of ⟨rfl, rfl, rfl, Nat.le_refl _, fun _ _ => rfl⟩ hga.lt)⟩
        have n48 : ¬ ((b.toNat : Int) = 48) := by intro e; exact h48 (UInt8.toNat_inj.1 (by simpa using Int.ofNat.inj e))
        have hO3 := hide (show O = if N < 0 then none else some (.int .i64 (N.toNat : Int)) by rw [hO2.out, if_neg h48])
        clear h48 hO2
        by_cases hN0 : N < 0
        · have hN := hide (show O = none by rw [hO3.out, if_pos hN0])
          clear hO3
          go_wp2_with fail
          go_quiet (first | (go_at_call 63; with_reducible refine Calls.quiet_of (CL _ (hgn _))) | (go_at_call 68; with_reducible refine Calls.quiet_of_same (CD _)))
          go_wp2_with fail
          go_quiet (fail)
          go_wp2_with fail
          refine (CU _).mono ?_
          rintro e wc ⟨rfl, hbc⟩
          replace hbc : Below wr.heap.size wr wc := btrans (below_drewN _ _) hbc
          replace Ra := Ra.trans (Rd.of hbc hga.lt)
          replace va := ble hbc va
          replace hga := hga.keep hbc
          go_wp2_with fail
          go_region_held3 (fun w' => w'.cell? ⟨0, 0, none⟩ = some (.iface T u)) (exact va) (fail)
          go_wp2
          go_ret2
          exact ⟨.inr ⟨hN.out, _, rfl⟩, (by rw [hP]; exact hga), Ra.trans (Rd.of ⟨rfl, rfl, rfl, Nat.le_refl _, fun _ _ => rfl⟩ hga.lt)⟩
        · have hS := hide (show O = some (.int .i64 N) by rw [hO3.out, if_neg hN0, Int.toNat_of_nonneg (by omega)])
          clear hO3
          go_wp2_with fail
          go_quiet (first | (go_at_call 63; with_reducible refine Calls.quiet_of (CL _ (hgn _))) | (go_at_call 68; with_reducible refine Calls.quiet_of_same (CD _)))
          go_wp2_with fail
          go_quiet (fail)
          go_wp2_with fail
          refine (CU _).mono ?_
          rintro e wc ⟨rfl, hbc⟩
          replace hbc : Below wr.heap.size wr wc := btrans (below_drewN _ _) hbc
          replace Ra := Ra.trans (Rd.of hbc hga.lt)
          replace va := ble hbc va
          replace hga := hga.keep hbc
          go_wp2
          go_ret2
          exact ⟨.inl ⟨_, hS.out, rfl⟩, (by rw [hP]; exact hga), Ra⟩
end Go.Proofs.YtnddhpdhbmbikaaDoor
