/- Scan of the program, whole. -/
import Derived.Test.YtgnohomplehacaaTP
namespace Go.Proofs.Ytgnohomplehacaa
open Go.RowKit
theorem Fnd.take {ts : List TelV} {n : Int} {j : Nat} {p : List Int} (h : Fnd ts n j) (hp : By p) : Fnd (takeP (ts, n) p).1 (takeP (ts, n) p).2 (j + 1) := by
  by_cases h0 : p = []
  · subst h0; rw [takeP_nil]; exact h.mono (by omega)
  · cases hd : decP p with
    | none => rw [takeP_none h0 hd]; exact h.bad
    | some t => rw [takeP_some h0 hd]; exact h.good hp hd
/-- What Scan answers. -/
def AnsSc (w : World) (zs : List Int) (e : Ending) (W : World) : Prop := ∃ v cs, e = .returned (.tuple #[v, .int .i64 (scanV zs).2]) ∧ TabT w.heap.size W v cs (scanV zs).1 ∧ Below w.heap.size w W
theorem bys_pcs {w : World} {b off : Nat} {zs : List Int} (h : Bys w (some ⟨b, off, none⟩) zs) (k j : Nat) : Bys w (some ⟨b, off + k, none⟩) (pcs zs k j) := by
  rcases h.part k with h1 | ⟨b', o', e, h1⟩
  · exact .inl (by unfold pcs; rw [h1, List.take_nil])
  · simp only [Option.some.injEq, Addr.mk.injEq, and_true] at e
    obtain ⟨rfl, rfl⟩ := e
    exact h1.upto _
theorem By.pcs {zs : List Int} (h : By zs) (b j : Nat) : By (pcs zs b j) := (h.drop b).take _
set_option maxRecDepth 100000 in
set_option maxHeartbeats 6400000 in
theorem cScanI (bb off c : Nat) (zs : List Int) (w : World) (hz : Bys w (some ⟨bb, off, none⟩) zs) (hy : By zs) (hl : zs.length ≤ 1048576) (hc : zs.length ≤ c) : Calls Try.prog 20 #[.slice (some ⟨bb, off, none⟩) zs.length c] w (AnsSc w zs) := by
  by_cases h3 : 3000 < zs.length
  · have E : Hid (scanV zs = ([], -1)) := hide (by unfold scanV; rw [if_pos h3])
    have hgt : (3000 : Int) < (zs.length : Int) := by omega
    go_enter Try.func20, Try.ntmps20
    go_wp2
    go_ret2
    exact ⟨.slice none 0 0, [], by rw [E.out]; rfl, by rw [E.out]; exact TabT.nil _ _, Below.refl _ _⟩
  have hngt : ¬ ((3000 : Int) < (zs.length : Int)) := by omega
  have E0 : Hid (scanV zs = scV (zs.drop 0) (pcs zs 0 0) ([], 0)) := hide (by unfold scanV; rw [if_neg h3, pcs_nil, List.drop_zero])
  have hb0 := balloc w (.cells #[.slice none 0 0, .int .i64 0] 70)
  have S0 : ScB w.heap.size w.heap.size [] 0 (w.alloc (.cells #[.slice none 0 0, .int .i64 0] 70)) := ⟨⟨_, [], one_block w _, TabT.nil _ _⟩, Nat.le_refl _⟩
  go_enter Try.func20, Try.ntmps20
  go_wp2
  generalize w.alloc (.cells #[.slice none 0 0, .int .i64 0] 70) = w1 at *
  generalize hsb : w.heap.size = sb at *
  replace hsb := hide hsb
  go_loopw [5, 6, 7, 15] (fun bg _ _ i wr => ∃ (j b : Nat) (ts : List TelV) (n : Int), j ≤ zs.length ∧ b ≤ j ∧ i = .int .i64 j ∧ bg = .int .i64 b ∧ Hid (scanV zs = scV (zs.drop j) (pcs zs b j) (ts, n)) ∧ Fnd ts n j ∧ ScB sb sb ts n wr ∧ Below sb w wr) (fun _ _ _ i _ => zs.length - (intOf i).toNat)
  case atStart => exact ⟨0, 0, [], 0, Nat.zero_le _, Nat.zero_le _, rfl, rfl, E0, Fnd.zero, S0, hb0⟩
  case round =>
    obtain ⟨j, b, ts, n, hj, hbj, rfl, rfl, hE, hF, hS, hb⟩ := hrel
    clear S0 hb0 E0
    have hn0 := hF.n0
    have hle := hF.le
    have hbs := hb.size
    rw [hsb.out] at hbs
    by_cases hlt : j < zs.length
    · have hzr : Bys wr (some ⟨bb, off, none⟩) zs := hz.below (by rw [hsb.out]; exact hb)
      have hpc := bys_pcs hzr b j
      rcases hzr with h1 | ⟨b', o', e, hcell⟩
      · simp [h1] at hlt
      simp only [Option.some.injEq, Addr.mk.injEq, and_true] at e
      obtain ⟨rfl, rfl⟩ := e
      have hck := hcell j hlt
      clear hcell
      by_cases hf : zs.getD j 0 = 126
      · have hE2 : Hid (scanV zs = scV (zs.drop (j + 1)) (pcs zs (j + 1) (j + 1)) (takeP (ts, n) (pcs zs b j))) := hide (by rw [hE.out, scV_flag hlt hf, pcs_nil])
        have hF2 := hF.take (hy.pcs b j)
        rw [hf] at hck
        have CT := cTake sb sb ts n (some ⟨bb, off + b, none⟩) (c - b) (pcs zs b j) wr hS hbs hpc (hy.pcs b j) (by rw [pcs_len hj]; omega) hn0 (by omega) (by omega)
        rw [pcs_len hj] at CT
        have i1 : (0 : Int) ≤ (b : Int) := by omega
        have i2 : (b : Int) ≤ (j : Int) := by omega
        have i3 : (j : Int) ≤ (c : Int) := by omega
        have i4 : j ≤ c := by omega
        have i5 : ¬ (c = b) := by omega
        generalize hP : takeP (ts, n) (pcs zs b j) = P at *
        obtain ⟨ts2, n2⟩ := P
        replace hP := hide hP
        clear hE hF hS hpc hf hle
        go_wp2_with fail
        refine CT.mono ?_
        rintro e w2 ⟨rfl, hS2, hb2⟩
        rw [hP.out] at hS2
        have hb3 := hb.trans hb2
        clear CT hck hb2 hb hbs
        go_wp2
        go_roundw
        case rel => exact ⟨j + 1, j + 1, ts2, n2, hlt, Nat.le_refl _, by go_num, by go_num, hE2, hF2, hS2, hb3⟩
        case measure => simp [intOf]; omega
      · have hE2 : Hid (scanV zs = scV (zs.drop (j + 1)) (pcs zs b (j + 1)) (ts, n)) := hide (by rw [hE.out, scV_plain hlt hf, pcs_step hbj hlt])
        have hF2 := hF.mono (Nat.le_succ j)
        generalize zs.getD j 0 = z at *
        have h5 : (z == 126) = false := by simp [hf]
        clear hE hF hpc hf hle
        go_wp2
        go_roundw
        case rel => exact ⟨j + 1, b, ts, n, hlt, by omega, by go_num, rfl, hE2, hF2, hS, hb⟩
        case measure => simp [intOf]; omega
    · obtain rfl : j = zs.length := by omega
      have hE2 : Hid (scanV zs = takeP (ts, n) (pcs zs b zs.length)) := hide (by rw [hE.out, scV_end])
      have hzr : Bys wr (some ⟨bb, off, none⟩) zs := hz.below (by rw [hsb.out]; exact hb)
      have hpc := bys_pcs hzr b zs.length
      have CT : ∀ A cp, (pcs zs b zs.length = [] ∨ A = (⟨bb, off + b, none⟩ : Addr)) → Calls Try.prog 53 #[.pointer (some ⟨sb, 0, none⟩), .slice (some A) (zs.length - b) cp] wr (TkA sb sb ts n (pcs zs b zs.length) wr) := fun A cp hA => by
        have h1 := cTake sb sb ts n (some A) cp (pcs zs b zs.length) wr hS hbs (hA.elim (fun h => .inl h) (fun h => by rw [h]; exact hpc)) (hy.pcs b _) (by rw [pcs_len hj]; omega) hn0 (by omega) (by omega)
        rw [pcs_len hj] at h1
        exact h1
      have i1 : (0 : Int) ≤ (b : Int) := by omega
      have i2 : (b : Int) ≤ (zs.length : Int) := by omega
      have i4 : zs.length ≤ c := by omega
      have i3 : (zs.length : Int) ≤ (c : Int) := by omega
      have fin : ∀ w2 e, TkA sb sb ts n (pcs zs b zs.length) wr e w2 → ∃ v, e = .returned (.tuple #[]) ∧ w2.heap[sb]? = some (.cells #[v, .int .i64 (scanV zs).2] 70 (0, 0)) ∧ AnsSc w zs (.returned (.tuple #[v, .int .i64 (scanV zs).2])) w2 ∧ (∃ va vc, v = .slice va (scanV zs).1.length vc) := by
        rintro w2 e ⟨rfl, ⟨⟨v, cs, h1, h2⟩, -⟩, hb2⟩
        rw [← hE2.out] at h1 h2
        exact ⟨v, rfl, h1, ⟨v, cs, rfl, by rw [hsb.out]; exact h2, by rw [hsb.out]; exact hb.trans hb2⟩, own_form h2.own⟩
      by_cases hcb : c = b
      · have hp0 : pcs zs b zs.length = [] := List.length_eq_zero_iff.1 (by rw [pcs_len hj]; omega)
        have CT1 := CT ⟨bb, off, none⟩ 0 (.inl hp0)
        clear hE hF hpc CT hz hS hb
        go_wp2_with fail
        refine CT1.mono ?_
        intro e w2 h2
        obtain ⟨v, rfl, hbx, hA, va, vc, rfl⟩ := fin w2 e h2
        replace hA : AnsSc w zs (.returned (.tuple #[.slice va (scanV zs).1.length vc, .int .i64 (scanV zs).2])) w2.drew := by
          obtain ⟨v', cs', e1, e2, e3⟩ := hA
          exact ⟨v', cs', e1, e2.below (Below.refl _ _).drew, e3.drew⟩
        generalize (scanV zs).2 = N at *
        obtain ⟨⟨x0, x1⟩, -⟩ := blk2 hbx
        have x1d : w2.drew.cell? ⟨sb, 1, none⟩ = some (.int .i64 N) := ble (Below.refl _ _).drew x1
        clear CT1 h2 hbx fin
        go_wp2_with fail
        go_region_held3 (fun w' => w'.cell? ⟨sb, 0, none⟩ = some (.slice va (scanV zs).1.length vc) ∧ w'.cell? ⟨sb, 1, none⟩ = some (.int .i64 N)) (go_keep) (first
          | (go_at_call 54; with_reducible refine (cAtLoad sb N _ x1d).mono ?_; rintro e wl ⟨rfl, hwl⟩; subst wl))
        go_wp2
        go_ret2
        exact hA
      · have CT1 := CT ⟨bb, off + b, none⟩ (c - b) (.inr rfl)
        clear hE hF hpc CT hz hS hb
        go_wp2_with fail
        refine CT1.mono ?_
        intro e w2 h2
        obtain ⟨v, rfl, hbx, hA, va, vc, rfl⟩ := fin w2 e h2
        replace hA : AnsSc w zs (.returned (.tuple #[.slice va (scanV zs).1.length vc, .int .i64 (scanV zs).2])) w2.drew := by
          obtain ⟨v', cs', e1, e2, e3⟩ := hA
          exact ⟨v', cs', e1, e2.below (Below.refl _ _).drew, e3.drew⟩
        generalize (scanV zs).2 = N at *
        obtain ⟨⟨x0, x1⟩, -⟩ := blk2 hbx
        have x1d : w2.drew.cell? ⟨sb, 1, none⟩ = some (.int .i64 N) := ble (Below.refl _ _).drew x1
        clear CT1 h2 hbx fin
        go_wp2_with fail
        go_region_held3 (fun w' => w'.cell? ⟨sb, 0, none⟩ = some (.slice va (scanV zs).1.length vc) ∧ w'.cell? ⟨sb, 1, none⟩ = some (.int .i64 N)) (go_keep) (first
          | (go_at_call 54; with_reducible refine (cAtLoad sb N _ x1d).mono ?_; rintro e wl ⟨rfl, hwl⟩; subst wl))
        go_wp2
        go_ret2
        exact hA
end Go.Proofs.Ytgnohomplehacaa
