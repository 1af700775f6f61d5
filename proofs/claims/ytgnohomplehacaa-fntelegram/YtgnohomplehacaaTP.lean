/- Scan of the program. -/
import Derived.Test.YtgnohomplehacaaTT
import Derived.Test.YtgnohomplehacaaMV
import Derived.Laws.LoneSync
import Derived.Deep.AppendLies
namespace Go.Proofs.Ytgnohomplehacaa
open Go.RowKit
set_option maxHeartbeats 800000 in
theorem cAtLoad (b : Nat) (n : Int) (w : World) (h0 : w.cell? ⟨b, 1, none⟩ = some (.int .i64 n)) :
    Calls Try.prog 54 #[.pointer (some ⟨b, 1, none⟩)] w fun e w' => e = .returned (.int .i64 n) ∧ w' = w := by
  have hl := run_call_load (P := Try.prog) Try.func68 (by kernel_rfl) (by kernel_rfl) (by kernel_rfl) .i64 (by kernel_rfl) h0
  go_enter Try.func54, Try.ntmps54
  go_wp2
  go_ret
  exact ⟨rfl, rfl⟩
set_option maxHeartbeats 800000 in
theorem cAtAdd (b : Nat) (n : Int) (w : World) (h0 : w.cell? ⟨b, 1, none⟩ = some (.int .i64 n)) (hz : w.frozen? ⟨b, 1, none⟩ = false) (hn0 : 0 ≤ n) (hn1 : n ≤ 1000000) :
    Calls Try.prog 67 #[.pointer (some ⟨b, 1, none⟩), .int .i64 1] w fun e w' => e = .returned (.int .i64 (n + 1)) ∧ w' = w.setCell ⟨b, 1, none⟩ (.int .i64 (n + 1)) := by
  have hw : IntKind.i64.wrap (n + 1) = n + 1 := wrap_in _ (by omega) (by omega)
  have hl := run_call_add (P := Try.prog) Try.func74 (by kernel_rfl) (by kernel_rfl) (by kernel_rfl) .i64 (by kernel_rfl) (y := 1) (s := n + 1) h0 hz (by simp [go_sem, hw])
  go_enter Try.func67, Try.ntmps67
  go_wp2
  go_ret
  exact ⟨rfl, rfl⟩
/-- The scanner's box and what it holds. -/
structure ScB (B sb : Nat) (ts : List TelV) (n : Int) (w : World) : Prop where
  ex : ∃ v cs, w.heap[sb]? = some (.cells #[v, .int .i64 n] 70 (0, 0)) ∧ TabT B w v cs ts
  lo : B ≤ sb
theorem ScB.below {B sb : Nat} {ts : List TelV} {n : Int} {w w' : World} (h : ScB B sb ts n w) (hb : Below w.heap.size w w') : ScB B sb ts n w' := by
  obtain ⟨⟨v, cs, h1, h2⟩, h3⟩ := h
  exact ⟨⟨v, cs, blk_keep hb h1, h2.below hb⟩, h3⟩
theorem blk2 {w : World} {g : Nat} {c0 c1 : Value} {t : TypeId} (h : w.heap[g]? = some (.cells #[c0, c1] t (0, 0))) :
    (w.cell? ⟨g, 0, none⟩ = some c0 ∧ w.cell? ⟨g, 1, none⟩ = some c1) ∧ (w.frozen? ⟨g, 0, none⟩ = false ∧ w.frozen? ⟨g, 1, none⟩ = false) :=
  ⟨⟨Go.Joins.cell_of_block h 0, Go.Joins.cell_of_block h 1⟩, ⟨Go.Joins.unfrozen_of_block h 0, Go.Joins.unfrozen_of_block h 1⟩⟩
def TkA (B sb : Nat) (ts : List TelV) (n : Int) (zs : List Int) (w : World) (e : Ending) (w' : World) : Prop := e = .returned (.tuple #[]) ∧ ScB B sb (takeP (ts, n) zs).1 (takeP (ts, n) zs).2 w' ∧ Below B w w'
set_option maxRecDepth 100000 in
set_option maxHeartbeats 6400000 in
theorem cTake (B sb : Nat) (ts : List TelV) (n : Int) (a : Option Addr) (c : Nat) (zs : List Int) (w : World) (hS : ScB B sb ts n w) (hB : B ≤ w.heap.size) (hz : Bys w a zs) (hy : By zs) (hl : zs.length ≤ 1048576) (hn0 : 0 ≤ n) (hn1 : n ≤ 1000000) (hts : ts.length ≤ 1000000) :
    Calls Try.prog 53 #[.pointer (some ⟨sb, 0, none⟩), .slice a zs.length c] w (TkA B sb ts n zs w) := by
  by_cases h0 : zs = []
  · subst h0
    have E : Hid (takeP (ts, n) [] = (ts, n)) := hide (takeP_nil _)
    go_enter Try.func53, Try.ntmps53
    go_wp2
    refine bodyPost_ret (results_none rfl _ _ _) rfl ?_
    exact ⟨rfl, by rw [E.out]; exact hS, Below.refl _ _⟩
  have hl0 : ((zs.length : Int) == 0) = false := by
    have : zs.length ≠ 0 := fun e => h0 (List.length_eq_zero_iff.1 e)
    simp; omega
  go_enter Try.func53, Try.ntmps53
  go_wp2_with fail
  refine (cDecoded a c zs w hz hy hl).mono ?_
  rintro e w1 ⟨hans, hb1⟩
  obtain ⟨⟨v, cs, hbx, hT⟩, hlo⟩ := hS
  have hblk : Hid (∀ j, (hj : j < cs.length) → ∀ k, cs[j].v.ownBlock = some k → k < w.heap.size) := hide (fun j hj k hk => own_blk_lt (hT.each j hj).2.2 k hk)
  replace hbx := blk_keep hb1 hbx
  replace hT := hT.below hb1
  have hB1 : B ≤ w1.heap.size := by have := hb1.size; omega
  rcases hans with ⟨t, vb, hd, rfl, R⟩ | ⟨hd, rfl⟩
  · have E : Hid (takeP (ts, n) zs = (ts ++ [t], n)) := hide (takeP_some h0 hd)
    have hpr : Hid (∀ j, (hj : j < cs.length) → ∀ k, cs[j].v.ownBlock = some k → vb.ownBlock ≠ some k) := hide (fun j hj k hk e => by have h1 := hblk.out j hj k hk; have h2 := own_from R (Nat.le_refl _) k e; omega)
    replace R := own_base R hB
    obtain ⟨tq, tk, bd⟩ := t
    dsimp only at R
    obtain ⟨bn, hbn⟩ : ∃ bn, bd.length = bn := ⟨_, rfl⟩
    rw [hbn] at R
    replace hbn := hide hbn
    obtain ⟨ba, bc, rfl⟩ := own_form R
    obtain ⟨L, hL⟩ : ∃ L, ts.length = L := ⟨_, rfl⟩
    have hot := hT.own
    rw [hL] at hot hts
    obtain ⟨va, vc, rfl⟩ := own_form hot
    replace hL := hide hL
    have htb : ∀ k, (Value.slice va L vc).ownBlock = some k → k ≠ w1.heap.size := fun k hk e => by have := own_blk_lt hot k hk; omega
    have K0 := one_block w1 (.cells #[.int .i64 tq, .int .i64 tk, .slice ba bn bc] 25)
    have hb2 := balloc w1 (.cells #[.int .i64 tq, .int .i64 tk, .slice ba bn bc] 25)
    replace hbx := blk_keep hb2 hbx
    replace hT := hT.below hb2
    replace R := own_keep R hb2
    replace hot := own_keep hot hb2
    have HB := (btrans hb1 hb2).mono hB
    have hB2 : B ≤ (w1.alloc (.cells #[.int .i64 tq, .int .i64 tk, .slice ba bn bc] 25)).heap.size := by have := hb2.size; omega
    clear hb1 hb2 hd hz hblk
    go_wp2_with fail
    generalize w1.alloc (.cells #[.int .i64 tq, .int .i64 tk, .slice ba bn bc] 25) = w3 at *
    generalize w1.heap.size = tb at *
    obtain ⟨⟨x0, x1, x2⟩, -⟩ := blk3 K0
    obtain ⟨⟨p0, -⟩, -⟩ := blk2 hbx
    obtain ⟨i1, hi1, hy0, hy1, hy2⟩ := info_parts infoTel
    have PU0 : ∀ wd, Below w3.heap.size w3 wd → B ≤ wd.heap.size ∧ ∀ g gc w4, w4.ownsRow B 25 3 (.slice (some ⟨g, 0, none⟩) (L + 1) gc) (L + 1) (flatC cs ++ [.int .i64 tq, .int .i64 tk, .slice ba bn bc]) → (wd.alloc (.cells #[.int .i64 tq, .int .i64 tk, .slice ba bn bc] 25)).grownBy w4 (Value.slice va L vc).ownBlock →
        (w4.cell? ⟨tb, 0, none⟩ = some (.int .i64 tq) ∧ w4.cell? ⟨tb, 1, none⟩ = some (.int .i64 tk) ∧ w4.cell? ⟨tb, 2, none⟩ = some (.slice ba bn bc)) ∧ w4.cell? ⟨sb, 0, none⟩ = some (.slice va L vc) ∧ w4.frozen? ⟨sb, 0, none⟩ = false ∧
        ((w4.setCell ⟨sb, 0, none⟩ (.slice (some ⟨g, 0, none⟩) (L + 1) gc)).cell? ⟨tb, 0, none⟩ = some (.int .i64 tq) ∧ (w4.setCell ⟨sb, 0, none⟩ (.slice (some ⟨g, 0, none⟩) (L + 1) gc)).cell? ⟨tb, 1, none⟩ = some (.int .i64 tk) ∧ (w4.setCell ⟨sb, 0, none⟩ (.slice (some ⟨g, 0, none⟩) (L + 1) gc)).cell? ⟨tb, 2, none⟩ = some (.slice ba bn bc) ∧
          TkA B sb ts n zs w (.returned (.tuple #[])) (w4.setCell ⟨sb, 0, none⟩ (.slice (some ⟨g, 0, none⟩) (L + 1) gc))) := by
      intro wd hbd
      refine ⟨by have := hbd.size; omega, fun g gc w4 hown hgrow => ?_⟩
      have A := balloc wd (.cells #[.int .i64 tq, .int .i64 tk, .slice ba bn bc] 25)
      have T4 := (hT.below hbd).below A
      have R4 := own_keep (own_keep R hbd) A
      have O4 := own_keep (own_keep hot hbd) A
      have X4 := blk_keep A (blk_keep hbd hbx)
      have Y4 := blk_keep A (blk_keep hbd K0)
      have T5 : TabT B w4 (.slice (some ⟨g, 0, none⟩) (L + 1) gc) (cs ++ [⟨tq, tk, .slice ba bn bc⟩]) (ts ++ [⟨tq, tk, bd⟩]) := T4.push (t := ⟨tq, tk, bd⟩) (by rw [hL.out]; exact hown) (by exact hgrow) (by rw [hbn.out]; exact R4) hpr.out
      have X5 : w4.heap[sb]? = some (.cells #[.slice va L vc, .int .i64 n] 70 (0, 0)) := (hgrow.block sb (lt_of_block X4) (fun e => own_apartB O4 X4 (by decide) sb e.symm rfl)).trans X4
      have Y5 : w4.heap[tb]? = some (.cells #[.int .i64 tq, .int .i64 tk, .slice ba bn bc] 25 (0, 0)) := (hgrow.block tb (lt_of_block Y4) (fun e => htb tb e.symm rfl)).trans Y4
      have hne : tb ≠ sb := fun e => by rw [e, X4] at Y4; simp at Y4
      have Y6 := blk_other (i := 0) (v := .slice (some ⟨g, 0, none⟩) (L + 1) gc) Y5 hne
      have Z5 := (blk3 Y5).1
      have Z6 := (blk3 Y6).1
      have B5 : Below B w w4 := ((HB.trans (hbd.mono hB2)).trans (A.mono (by have := hbd.size; omega))).grown hgrow (by have := hbd.size; have := A.size; omega) (fun x hx => own_from O4 (Nat.le_refl _) x hx)
      refine ⟨Z5, (blk2 X5).1.1, (blk2 X5).2.1, Z6.1, Z6.2.1, Z6.2.2, rfl, ?_, below_set hlo B5⟩
      rw [E.out]
      refine ⟨⟨_, _, ?_, T5.set X5 (by decide) (by decide)⟩, hlo⟩
      have h9 := blk_set (i := 0) (v := .slice (some ⟨g, 0, none⟩) (L + 1) gc) X5
      simpa using h9
    clear hbx K0 hT R HB htb hpr E
    refine wp_region_held_drew (S := (fun w' => w'.cell? ⟨tb, 0, none⟩ = some (.int .i64 tq) ∧ w'.cell? ⟨tb, 1, none⟩ = some (.int .i64 tk) ∧ w'.cell? ⟨tb, 2, none⟩ = some (.slice ba bn bc))) (by kernel_rfl) ?_ (fun hHeld => ?_)
    · exact ⟨x0, x1, x2⟩
    have B0 : Below w3.heap.size w3 w3.drew := (Below.refl _ _).drew
    have d0 := ble B0 x0
    have d1 := ble B0 x1
    have d2 := ble B0 x2
    have pd := ble B0 p0
    have hod := own_keep hot B0
    clear x0 x1 x2 p0 hot
    have PU := PU0 w3.drew B0
    clear PU0
    generalize w3.drew = wd at *
    have hdB := PU.1
    replace PU := PU.2
    have sz1 : (wd.alloc (.cells #[.int .i64 tq, .int .i64 tk, .slice ba bn bc] 25)).heap.size = wd.heap.size + 1 := by simp
    refine wpAnyH_take (i := 0) (v := .pointer (some ⟨sb, 0, none⟩)) rfl (by kernel_rfl) (by kernel_rfl) (by kernel_rfl) (fun _ _ _ h => h) (Or.inl ⟨by kernel_rfl, fun w hS => by go_simp⟩) hHeld ?_
    change wpAnyH _ _ _ _ _ _ _ { tmps := List.toArray (_ :: _ :: _ :: _ :: _ :: _ :: _ :: _ :: _ :: _ :: _ :: _ :: _ :: _ :: _ :: _ :: _ :: _ :: _ :: _ :: .pointer (some ⟨sb, 0, none⟩) :: _ :: _ :: _ :: _ :: _ :: _ :: _ :: _ :: _ :: []), defers := [] } _
    refine wpAnyH_take (i := 1) (v := .pointer (some ⟨sb, 0, none⟩)) rfl (by kernel_rfl) (by kernel_rfl) (by kernel_rfl) (fun _ _ _ h => h) (Or.inl ⟨by kernel_rfl, fun w hS => by go_simp⟩) hHeld ?_
    change wpAnyH _ _ _ _ _ _ _ { tmps := List.toArray (_ :: _ :: _ :: _ :: _ :: _ :: _ :: _ :: _ :: _ :: _ :: _ :: _ :: _ :: _ :: _ :: _ :: _ :: _ :: _ :: .pointer (some ⟨sb, 0, none⟩) :: .pointer (some ⟨sb, 0, none⟩) :: _ :: _ :: _ :: _ :: _ :: _ :: _ :: _ :: []), defers := [] } _
    refine wpAnyH_take (i := 2) (v := .pointer (some ⟨sb, 0, none⟩)) rfl (by kernel_rfl) (by kernel_rfl) (by kernel_rfl) (fun _ _ _ h => h) (Or.inl ⟨by kernel_rfl, fun w hS => by go_simp⟩) hHeld ?_
    change wpAnyH _ _ _ _ _ _ _ { tmps := List.toArray (_ :: _ :: _ :: _ :: _ :: _ :: _ :: _ :: _ :: _ :: _ :: _ :: _ :: _ :: _ :: _ :: _ :: _ :: _ :: _ :: .pointer (some ⟨sb, 0, none⟩) :: .pointer (some ⟨sb, 0, none⟩) :: .pointer (some ⟨sb, 0, none⟩) :: _ :: _ :: _ :: _ :: _ :: _ :: _ :: []), defers := [] } _
    refine wpAnyH_take (i := 3) (v := .pointer (some ⟨sb, 0, none⟩)) rfl (by kernel_rfl) (by kernel_rfl) (by kernel_rfl) (fun _ _ _ h => h) (Or.inl ⟨by kernel_rfl, fun w hS => by go_simp⟩) hHeld ?_
    change wpAnyH _ _ _ _ _ _ _ { tmps := List.toArray (_ :: _ :: _ :: _ :: _ :: _ :: _ :: _ :: _ :: _ :: _ :: _ :: _ :: _ :: _ :: _ :: _ :: _ :: _ :: _ :: .pointer (some ⟨sb, 0, none⟩) :: .pointer (some ⟨sb, 0, none⟩) :: .pointer (some ⟨sb, 0, none⟩) :: .pointer (some ⟨sb, 0, none⟩) :: _ :: _ :: _ :: _ :: _ :: _ :: []), defers := [] } _
    refine wpAnyH_take (i := 5) (v := .agg #[.int .i64 tq, .int .i64 tk, .slice ba bn bc]) rfl (by kernel_rfl) (by kernel_rfl) (by kernel_rfl) (fun _ _ _ h => h) (Or.inl ⟨by kernel_rfl, fun w hS => by (obtain ⟨hS0, hS1, hS2⟩ := hS; go_simp)⟩) hHeld ?_
    change wpAnyH _ _ _ _ _ _ _ { tmps := List.toArray (_ :: _ :: _ :: _ :: _ :: _ :: _ :: _ :: _ :: _ :: _ :: _ :: _ :: _ :: _ :: _ :: _ :: _ :: _ :: _ :: .pointer (some ⟨sb, 0, none⟩) :: .pointer (some ⟨sb, 0, none⟩) :: .pointer (some ⟨sb, 0, none⟩) :: .pointer (some ⟨sb, 0, none⟩) :: _ :: .agg #[.int .i64 tq, .int .i64 tk, .slice ba bn bc] :: _ :: _ :: _ :: _ :: []), defers := [] } _
    refine wpAnyH_ready (rs := [4, 6]) (by kernel_rfl) (by simp) ?_
    refine (AllReadyH.cons rfl (fun KK hK => ?_) (AllReadyH.cons rfl (fun KK hK => ?_) AllReadyH.nil))
    · skip
      go_simp
      clear hHeld
      refine hK.out _ _ (⟨d0, d1, d2⟩) (fun hHeld => ?_)
      clear hK KK
      change wpAnyH _ _ _ _ _ _ _ { tmps := List.toArray (_ :: _ :: _ :: _ :: _ :: _ :: _ :: _ :: _ :: _ :: _ :: _ :: _ :: _ :: _ :: _ :: _ :: _ :: _ :: _ :: .pointer (some ⟨sb, 0, none⟩) :: .pointer (some ⟨sb, 0, none⟩) :: .pointer (some ⟨sb, 0, none⟩) :: .pointer (some ⟨sb, 0, none⟩) :: .slice va L vc :: .agg #[.int .i64 tq, .int .i64 tk, .slice ba bn bc] :: _ :: _ :: _ :: _ :: []), defers := [] } _
      refine wpAnyH_ready (rs := [6]) (by kernel_rfl) (by simp) ?_
      refine (AllReadyH.cons rfl (fun KK hK => ?_) AllReadyH.nil)
      go_simp
      have p1 := ble (balloc wd (.cells #[.int .i64 tq, .int .i64 tk, .slice ba bn bc] 25)) pd
      clear hHeld
      refine hK.out _ _ (⟨ble (balloc wd (.cells #[.int .i64 tq, .int .i64 tk, .slice ba bn bc] 25)) d0, ble (balloc wd (.cells #[.int .i64 tq, .int .i64 tk, .slice ba bn bc] 25)) d1, ble (balloc wd (.cells #[.int .i64 tq, .int .i64 tk, .slice ba bn bc] 25)) d2⟩) (fun hHeld => ?_)
      clear hK KK
      change wpAnyH _ _ _ _ _ _ _ { tmps := List.toArray (_ :: _ :: _ :: _ :: _ :: _ :: _ :: _ :: _ :: _ :: _ :: _ :: _ :: _ :: _ :: _ :: _ :: _ :: _ :: _ :: .pointer (some ⟨sb, 0, none⟩) :: .pointer (some ⟨sb, 0, none⟩) :: .pointer (some ⟨sb, 0, none⟩) :: .pointer (some ⟨sb, 0, none⟩) :: .slice va L vc :: .agg #[.int .i64 tq, .int .i64 tk, .slice ba bn bc] :: .slice (some ⟨wd.heap.size, 0, none⟩) 1 1 :: _ :: _ :: _ :: []), defers := [] } _
      refine wpAnyH_ready (rs := [7]) (by kernel_rfl) (by simp) ?_
      refine (AllReadyH.cons rfl (fun KK hK => ?_) AllReadyH.nil)
      refine step_append_lies _ (by rfl) _ _ 33 (by rfl) B 25 i1 (.agg #[.int .i64 0, .int .i64 0, .slice none 0 0]) 3 40 Try.underlying33 hi1 hy0 hy1 hy2 rfl (by omega) (.slice va L vc) L (flatC cs) (by rfl) (own_keep hod (balloc wd (.cells #[.int .i64 tq, .int .i64 tk, .slice ba bn bc] 25))) ⟨wd.heap.size, 0, none⟩ 1 1 [.int .i64 tq, .int .i64 tk, .slice ba bn bc] (by rfl) rfl (World.news_of_block (heap_alloc_new wd _)) (fun u hu => by simp at hu; rcases hu with hu | hu | hu <;> subst hu <;> rfl) (by omega) (by unfold maxLen; omega) (by omega) (by rw [sz1]; omega) (wd.heap.size + 1) (by rw [sz1]) ?_
      intro g gc w3 hown hgrow hwh hgl
      obtain ⟨⟨y0, y1, y2⟩, yp, yf, HP⟩ := PU g gc w3 hown hgrow
      clear hHeld
      refine hK.out _ _ (⟨y0, y1, y2⟩) (fun hHeld => ?_)
      clear hK KK
      change wpAnyH _ _ _ _ _ _ _ { tmps := List.toArray (_ :: _ :: _ :: _ :: _ :: _ :: _ :: _ :: _ :: _ :: _ :: _ :: _ :: _ :: _ :: _ :: _ :: _ :: _ :: _ :: .pointer (some ⟨sb, 0, none⟩) :: .pointer (some ⟨sb, 0, none⟩) :: .pointer (some ⟨sb, 0, none⟩) :: .pointer (some ⟨sb, 0, none⟩) :: .slice va L vc :: .agg #[.int .i64 tq, .int .i64 tk, .slice ba bn bc] :: .slice (some ⟨wd.heap.size, 0, none⟩) 1 1 :: .slice (some ⟨g, 0, none⟩) (L + 1) gc :: _ :: _ :: []), defers := [] } _
      refine wpAnyH_take (i := 8) (v := .pointer (some ⟨sb, 0, none⟩)) rfl (by kernel_rfl) (by kernel_rfl) (by kernel_rfl) (fun _ _ _ h => h) (Or.inl ⟨by kernel_rfl, fun w hS => by go_simp⟩) hHeld ?_
      change wpAnyH _ _ _ _ _ _ _ { tmps := List.toArray (_ :: _ :: _ :: _ :: _ :: _ :: _ :: _ :: _ :: _ :: _ :: _ :: _ :: _ :: _ :: _ :: _ :: _ :: _ :: _ :: .pointer (some ⟨sb, 0, none⟩) :: .pointer (some ⟨sb, 0, none⟩) :: .pointer (some ⟨sb, 0, none⟩) :: .pointer (some ⟨sb, 0, none⟩) :: .slice va L vc :: .agg #[.int .i64 tq, .int .i64 tk, .slice ba bn bc] :: .slice (some ⟨wd.heap.size, 0, none⟩) 1 1 :: .slice (some ⟨g, 0, none⟩) (L + 1) gc :: .pointer (some ⟨sb, 0, none⟩) :: _ :: []), defers := [] } _
      refine wpAnyH_take (i := 9) (v := .pointer (some ⟨sb, 0, none⟩)) rfl (by kernel_rfl) (by kernel_rfl) (by kernel_rfl) (fun _ _ _ h => h) (Or.inl ⟨by kernel_rfl, fun w hS => by go_simp⟩) hHeld ?_
      change wpAnyH _ _ _ _ _ _ _ { tmps := List.toArray (_ :: _ :: _ :: _ :: _ :: _ :: _ :: _ :: _ :: _ :: _ :: _ :: _ :: _ :: _ :: _ :: _ :: _ :: _ :: _ :: .pointer (some ⟨sb, 0, none⟩) :: .pointer (some ⟨sb, 0, none⟩) :: .pointer (some ⟨sb, 0, none⟩) :: .pointer (some ⟨sb, 0, none⟩) :: .slice va L vc :: .agg #[.int .i64 tq, .int .i64 tk, .slice ba bn bc] :: .slice (some ⟨wd.heap.size, 0, none⟩) 1 1 :: .slice (some ⟨g, 0, none⟩) (L + 1) gc :: .pointer (some ⟨sb, 0, none⟩) :: .pointer (some ⟨sb, 0, none⟩) :: []), defers := [] } _
      refine wpAnyH_ready (rs := [10]) (by kernel_rfl) (by simp) ?_
      refine (AllReadyH.cons rfl (fun KK hK => ?_) AllReadyH.nil)
      go_simp
      clear hHeld
      refine hK.out _ _ (⟨HP.1, HP.2.1, HP.2.2.1⟩) (fun hHeld => ?_)
      clear hK KK
      change wpAnyH _ _ _ _ _ _ _ { tmps := List.toArray (_ :: _ :: _ :: _ :: _ :: _ :: _ :: _ :: _ :: _ :: _ :: _ :: _ :: _ :: _ :: _ :: _ :: _ :: _ :: _ :: .pointer (some ⟨sb, 0, none⟩) :: .pointer (some ⟨sb, 0, none⟩) :: .pointer (some ⟨sb, 0, none⟩) :: .pointer (some ⟨sb, 0, none⟩) :: .slice va L vc :: .agg #[.int .i64 tq, .int .i64 tk, .slice ba bn bc] :: .slice (some ⟨wd.heap.size, 0, none⟩) 1 1 :: .slice (some ⟨g, 0, none⟩) (L + 1) gc :: .pointer (some ⟨sb, 0, none⟩) :: .pointer (some ⟨sb, 0, none⟩) :: []), defers := [] } _
      refine wpAnyH_done (by kernel_rfl) ?_ _
      have HQ := HP.2.2.2
      clear HP hown hgrow hwh hgl PU hod y0 y1 y2 yp yf
      go_wp2
      go_end0
      exact HQ
    · skip
      go_simp
      have p1 := ble (balloc wd (.cells #[.int .i64 tq, .int .i64 tk, .slice ba bn bc] 25)) pd
      clear hHeld
      refine hK.out _ _ (⟨ble (balloc wd (.cells #[.int .i64 tq, .int .i64 tk, .slice ba bn bc] 25)) d0, ble (balloc wd (.cells #[.int .i64 tq, .int .i64 tk, .slice ba bn bc] 25)) d1, ble (balloc wd (.cells #[.int .i64 tq, .int .i64 tk, .slice ba bn bc] 25)) d2⟩) (fun hHeld => ?_)
      clear hK KK
      change wpAnyH _ _ _ _ _ _ _ { tmps := List.toArray (_ :: _ :: _ :: _ :: _ :: _ :: _ :: _ :: _ :: _ :: _ :: _ :: _ :: _ :: _ :: _ :: _ :: _ :: _ :: _ :: .pointer (some ⟨sb, 0, none⟩) :: .pointer (some ⟨sb, 0, none⟩) :: .pointer (some ⟨sb, 0, none⟩) :: .pointer (some ⟨sb, 0, none⟩) :: _ :: .agg #[.int .i64 tq, .int .i64 tk, .slice ba bn bc] :: .slice (some ⟨wd.heap.size, 0, none⟩) 1 1 :: _ :: _ :: _ :: []), defers := [] } _
      refine wpAnyH_ready (rs := [4]) (by kernel_rfl) (by simp) ?_
      refine (AllReadyH.cons rfl (fun KK hK => ?_) AllReadyH.nil)
      go_simp
      clear hHeld
      refine hK.out _ _ (⟨ble (balloc wd (.cells #[.int .i64 tq, .int .i64 tk, .slice ba bn bc] 25)) d0, ble (balloc wd (.cells #[.int .i64 tq, .int .i64 tk, .slice ba bn bc] 25)) d1, ble (balloc wd (.cells #[.int .i64 tq, .int .i64 tk, .slice ba bn bc] 25)) d2⟩) (fun hHeld => ?_)
      clear hK KK
      change wpAnyH _ _ _ _ _ _ _ { tmps := List.toArray (_ :: _ :: _ :: _ :: _ :: _ :: _ :: _ :: _ :: _ :: _ :: _ :: _ :: _ :: _ :: _ :: _ :: _ :: _ :: _ :: .pointer (some ⟨sb, 0, none⟩) :: .pointer (some ⟨sb, 0, none⟩) :: .pointer (some ⟨sb, 0, none⟩) :: .pointer (some ⟨sb, 0, none⟩) :: .slice va L vc :: .agg #[.int .i64 tq, .int .i64 tk, .slice ba bn bc] :: .slice (some ⟨wd.heap.size, 0, none⟩) 1 1 :: _ :: _ :: _ :: []), defers := [] } _
      refine wpAnyH_ready (rs := [7]) (by kernel_rfl) (by simp) ?_
      refine (AllReadyH.cons rfl (fun KK hK => ?_) AllReadyH.nil)
      refine step_append_lies _ (by rfl) _ _ 33 (by rfl) B 25 i1 (.agg #[.int .i64 0, .int .i64 0, .slice none 0 0]) 3 40 Try.underlying33 hi1 hy0 hy1 hy2 rfl (by omega) (.slice va L vc) L (flatC cs) (by rfl) (own_keep hod (balloc wd (.cells #[.int .i64 tq, .int .i64 tk, .slice ba bn bc] 25))) ⟨wd.heap.size, 0, none⟩ 1 1 [.int .i64 tq, .int .i64 tk, .slice ba bn bc] (by rfl) rfl (World.news_of_block (heap_alloc_new wd _)) (fun u hu => by simp at hu; rcases hu with hu | hu | hu <;> subst hu <;> rfl) (by omega) (by unfold maxLen; omega) (by omega) (by rw [sz1]; omega) (wd.heap.size + 1) (by rw [sz1]) ?_
      intro g gc w3 hown hgrow hwh hgl
      obtain ⟨⟨y0, y1, y2⟩, yp, yf, HP⟩ := PU g gc w3 hown hgrow
      clear hHeld
      refine hK.out _ _ (⟨y0, y1, y2⟩) (fun hHeld => ?_)
      clear hK KK
      change wpAnyH _ _ _ _ _ _ _ { tmps := List.toArray (_ :: _ :: _ :: _ :: _ :: _ :: _ :: _ :: _ :: _ :: _ :: _ :: _ :: _ :: _ :: _ :: _ :: _ :: _ :: _ :: .pointer (some ⟨sb, 0, none⟩) :: .pointer (some ⟨sb, 0, none⟩) :: .pointer (some ⟨sb, 0, none⟩) :: .pointer (some ⟨sb, 0, none⟩) :: .slice va L vc :: .agg #[.int .i64 tq, .int .i64 tk, .slice ba bn bc] :: .slice (some ⟨wd.heap.size, 0, none⟩) 1 1 :: .slice (some ⟨g, 0, none⟩) (L + 1) gc :: _ :: _ :: []), defers := [] } _
      refine wpAnyH_take (i := 8) (v := .pointer (some ⟨sb, 0, none⟩)) rfl (by kernel_rfl) (by kernel_rfl) (by kernel_rfl) (fun _ _ _ h => h) (Or.inl ⟨by kernel_rfl, fun w hS => by go_simp⟩) hHeld ?_
      change wpAnyH _ _ _ _ _ _ _ { tmps := List.toArray (_ :: _ :: _ :: _ :: _ :: _ :: _ :: _ :: _ :: _ :: _ :: _ :: _ :: _ :: _ :: _ :: _ :: _ :: _ :: _ :: .pointer (some ⟨sb, 0, none⟩) :: .pointer (some ⟨sb, 0, none⟩) :: .pointer (some ⟨sb, 0, none⟩) :: .pointer (some ⟨sb, 0, none⟩) :: .slice va L vc :: .agg #[.int .i64 tq, .int .i64 tk, .slice ba bn bc] :: .slice (some ⟨wd.heap.size, 0, none⟩) 1 1 :: .slice (some ⟨g, 0, none⟩) (L + 1) gc :: .pointer (some ⟨sb, 0, none⟩) :: _ :: []), defers := [] } _
      refine wpAnyH_take (i := 9) (v := .pointer (some ⟨sb, 0, none⟩)) rfl (by kernel_rfl) (by kernel_rfl) (by kernel_rfl) (fun _ _ _ h => h) (Or.inl ⟨by kernel_rfl, fun w hS => by go_simp⟩) hHeld ?_
      change wpAnyH _ _ _ _ _ _ _ { tmps := List.toArray (_ :: _ :: _ :: _ :: _ :: _ :: _ :: _ :: _ :: _ :: _ :: _ :: _ :: _ :: _ :: _ :: _ :: _ :: _ :: _ :: .pointer (some ⟨sb, 0, none⟩) :: .pointer (some ⟨sb, 0, none⟩) :: .pointer (some ⟨sb, 0, none⟩) :: .pointer (some ⟨sb, 0, none⟩) :: .slice va L vc :: .agg #[.int .i64 tq, .int .i64 tk, .slice ba bn bc] :: .slice (some ⟨wd.heap.size, 0, none⟩) 1 1 :: .slice (some ⟨g, 0, none⟩) (L + 1) gc :: .pointer (some ⟨sb, 0, none⟩) :: .pointer (some ⟨sb, 0, none⟩) :: []), defers := [] } _
      refine wpAnyH_ready (rs := [10]) (by kernel_rfl) (by simp) ?_
      refine (AllReadyH.cons rfl (fun KK hK => ?_) AllReadyH.nil)
      go_simp
      clear hHeld
      refine hK.out _ _ (⟨HP.1, HP.2.1, HP.2.2.1⟩) (fun hHeld => ?_)
      clear hK KK
      change wpAnyH _ _ _ _ _ _ _ { tmps := List.toArray (_ :: _ :: _ :: _ :: _ :: _ :: _ :: _ :: _ :: _ :: _ :: _ :: _ :: _ :: _ :: _ :: _ :: _ :: _ :: _ :: .pointer (some ⟨sb, 0, none⟩) :: .pointer (some ⟨sb, 0, none⟩) :: .pointer (some ⟨sb, 0, none⟩) :: .pointer (some ⟨sb, 0, none⟩) :: .slice va L vc :: .agg #[.int .i64 tq, .int .i64 tk, .slice ba bn bc] :: .slice (some ⟨wd.heap.size, 0, none⟩) 1 1 :: .slice (some ⟨g, 0, none⟩) (L + 1) gc :: .pointer (some ⟨sb, 0, none⟩) :: .pointer (some ⟨sb, 0, none⟩) :: []), defers := [] } _
      refine wpAnyH_done (by kernel_rfl) ?_ _
      have HQ := HP.2.2.2
      clear HP hown hgrow hwh hgl PU hod y0 y1 y2 yp yf
      go_wp2
      go_end0
      exact HQ
  · have E : Hid (takeP (ts, n) zs = (ts, n + 1)) := hide (takeP_none h0 hd)
    have K0 := one_block w1 (.cells #[.int .i64 0, .int .i64 0, .slice none 0 0] 25)
    have hb2 := balloc w1 (.cells #[.int .i64 0, .int .i64 0, .slice none 0 0] 25)
    replace hbx := blk_keep hb2 hbx
    replace hT := hT.below hb2
    have HB := btrans hb1 hb2
    obtain ⟨⟨x0, x1⟩, f0, f1⟩ := blk2 hbx
    clear hd hz hb2 K0
    go_wp2_with fail
    refine (cAtAdd sb n _ x1 f1 hn0 hn1).mono ?_
    rintro e w2 ⟨rfl, hw⟩
    have HQ : TkA B sb ts n zs w (.returned (.tuple #[])) w2 := by
      refine ⟨rfl, ?_, ?_⟩
      · rw [E.out, hw]
        refine ⟨⟨v, cs, ?_, hT.set hbx (by decide) (by decide)⟩, hlo⟩
        have := blk_set (i := 1) (v := .int .i64 (n + 1)) hbx
        simpa using this
      · rw [hw]
        exact below_set hlo (HB.mono hB)
    clear hw x0 x1 f0 f1 hbx hT HB
    go_wp2
    refine bodyPost_ret (results_none rfl _ _ _) rfl ?_
    exact HQ
end Go.Proofs.Ytgnohomplehacaa
