/- FnAxles. -/
import Derived.Test.YtgnohomplehacaaMW
namespace Go.Proofs.Ytgnohomplehacaa
open Go.RowKit
/-- One telegram's cells, to be read. -/
def ROne (w : World) (c : TC) (t : TelV) : Prop := c.q = t.q ∧ c.k = t.k ∧ ∃ na nc, c.v = .slice na t.b.length nc ∧ t.b.length ≤ nc ∧ Bys w na t.b
inductive RA (w : World) : List TC → List TelV → Prop where
  | nil : RA w [] []
  | cons {c : TC} {t : TelV} {cs : List TC} {ts : List TelV} : ROne w c t → RA w cs ts → RA w (c :: cs) (t :: ts)
theorem RA.len {w : World} {cs : List TC} {ts : List TelV} (h : RA w cs ts) : cs.length = ts.length := by
  induction h with
  | nil => rfl
  | cons _ _ ih => simp [ih]
theorem RA.app {w : World} {cs ds : List TC} {ts us : List TelV} (h : RA w cs ts) (g : RA w ds us) : RA w (cs ++ ds) (ts ++ us) := by
  induction h with
  | nil => exact g
  | cons h1 _ ih => exact RA.cons h1 ih
theorem RA.get {w : World} {cs : List TC} {ts : List TelV} (h : RA w cs ts) : ∀ (j : Nat) (hj : j < cs.length), ROne w cs[j] (ts.getD j TelV.zero) := by
  induction h with
  | nil => intro j hj; simp at hj
  | cons h1 _ ih =>
    intro j hj
    cases j with
    | zero => exact h1
    | succ j => exact ih j (by simpa using hj)
theorem RA.of : ∀ {w : World} (cs : List TC) (ts : List TelV), cs.length = ts.length → (∀ j, (hj : j < cs.length) → ROne w cs[j] (ts.getD j TelV.zero)) → RA w cs ts := by
  intro w cs
  induction cs with
  | nil => intro ts hl _; cases ts with
    | nil => exact RA.nil
    | cons t ts => simp at hl
  | cons c cs ih => intro ts hl h; cases ts with
    | nil => simp at hl
    | cons t ts => exact RA.cons (h 0 (by simp)) (ih ts (by simpa using hl) (fun j hj => h (j + 1) (by simpa using hj)))
theorem TabT.ra {B : Nat} {w : World} {v : Value} {cs : List TC} {ts : List TelV} (h : TabT B w v cs ts) : RA w cs ts :=
  RA.of cs ts h.len (fun j hj => by
    obtain ⟨h1, h2, h3⟩ := h.each j hj
    obtain ⟨na, nc, hv⟩ := own_form h3
    rw [hv] at h3
    exact ⟨h1, h2, na, nc, hv, own_cap h3, Bys.own h3 rfl⟩)
def sliceA : Value → Option Addr
  | .slice a _ _ => a
  | _ => none
def sliceC : Value → Nat
  | .slice _ _ c => c
  | _ => 0
theorem tels_of {wL w : World} {B n : Nat} {v : Value} {cs : List TC} {ts : List TelV} (h : w.ownsRow B 25 3 v n (flatC cs)) (hn : ts.length = n) (hr : RA wL cs ts) (hb : Below wL.heap.size wL w) : Tels w (sliceA v) ts := by
  subst hn
  rcases h.2 with ⟨rfl, h0⟩ | ⟨g, cap, cur, rfl, _⟩
  · exact .inl (List.length_eq_zero_iff.1 h0)
  · refine .inr ⟨g, 0, rfl, fun i hi => ?_⟩
    have hi' : i < cs.length := by rw [hr.len]; exact hi
    obtain ⟨q0, q1, q2⟩ := flatC_get cs i hi'
    obtain ⟨e1, e2, na, nc, hv, hcap, hy⟩ := hr.get i hi'
    have hl3 := flatC_len cs
    have hle := hr.len
    rw [hv] at q2
    refine ⟨na, nc, ?_, ?_, ?_, hcap, hy.below hb⟩
    · rw [Nat.zero_add, h.cellAt _ (by omega), q0, e1]
    · rw [Nat.zero_add, h.cellAt _ (by omega), q1, e2]
    · rw [Nat.zero_add, h.cellAt _ (by omega), q2]
theorem append0T (a x : Option Addr) (m cap c : Nat) (hm : m ≤ cap) (w : World) : (Builtin.append_ #[33, 33] 33 #[.slice a m cap, .slice x 0 c]).run Try.prog w = .ok (.slice a m cap) w := by
  obtain ⟨i0, hi, hz0, hz1, hz2⟩ := info_parts infoTel
  cases a <;> cases x <;> simp [Builtin.append_, run_underlying Try.underlying33, sizeOf, typeInfo, hi, Builtin.lenOf, Builtin.firstCells, hm, storeCells, loadCells, loadCellsFrom]
theorem app_tels {w : World} {B n : Nat} {v : Value} {cs : List TC} (h : w.ownsRow B 25 3 v n (flatC cs)) {B2 m c2 : Nat} {a2 : Option Addr} {ds : List TC} (h2 : w.ownsRow B2 25 3 (.slice a2 m c2) m (flatC ds)) (one : ∀ d ∈ ds, d.v.oneCell' = true) (hl : n + m ≤ 100000) (hB : B ≤ w.heap.size) :
    ∃ v2 w2, (Builtin.append_ #[33, 33] 33 #[v, .slice a2 m c2]).run Try.prog w = .ok v2 w2 ∧ w2.ownsRow B 25 3 v2 (n + m) (flatC (cs ++ ds)) ∧ w.grownBy w2 v.ownBlock := by
  obtain ⟨i0, hi, hz0, hz1, hz2⟩ := info_parts infoTel
  have hfl : flatC (cs ++ ds) = flatC cs ++ flatC ds := by simp [flatC]
  rcases h2.2 with ⟨he, h0⟩ | ⟨g, cap, cur, he, _⟩
  · subst h0
    obtain ⟨va, vc, rfl, hroom, _⟩ := own_room h
    have hd : ds = [] := by have := h2.1; rw [flatC_len] at this; exact List.length_eq_zero_iff.1 (by omega)
    subst hd
    exact ⟨_, _, append0T va a2 n vc c2 hroom w, by simpa using h, World.grownBy.refl _ _⟩
  · simp only [Value.slice.injEq] at he
    obtain ⟨rfl, _, rfl⟩ := he
    by_cases h0 : m = 0
    · subst h0
      obtain ⟨va, vc, rfl, hroom, _⟩ := own_room h
      have hd : ds = [] := by have := h2.1; rw [flatC_len] at this; exact List.length_eq_zero_iff.1 (by omega)
      subst hd
      exact ⟨_, _, append0T va _ n vc c2 hroom w, by simpa using h, World.grownBy.refl _ _⟩
    · obtain ⟨v2, w2, hr, hw, hg, _, _⟩ := run_append_own_at (P := Try.prog) w B 33 33 25 i0 (.agg #[.int .i64 0, .int .i64 0, .slice none 0 0]) 3 40 Try.underlying33 hi hz0 hz1 hz2 rfl (by decide) v n (flatC cs) h ⟨g, 0, none⟩ m c2 (flatC ds) h2.1 (fun j u hu => by
        have e : (⟨g, 0, none⟩ : Addr).add j = ⟨g, j, none⟩ := by unfold Addr.add; split <;> simp_all
        have hj : j < (flatC ds).length := (List.getElem?_eq_some_iff.1 hu).1
        have := h2.1
        rw [e, h2.cellAt j (by omega), hu]) (fun u hu => by
          simp only [flatC, List.mem_flatMap, TC.vs, List.mem_cons, List.not_mem_nil, or_false] at hu
          obtain ⟨d, hd, hu⟩ := hu
          rcases hu with rfl | rfl | rfl
          · rfl
          · rfl
          · exact one d hd) (by unfold maxLen; omega) (by omega) hB
      exact ⟨v2, w2, hr, by rw [hfl]; exact hw, hg⟩
theorem Below.up {w w' : World} (h : Below w.heap.size w w') : Below w.heap.size w w' := h
theorem small_more {ts : List TelV} {q k : Int} (h : Small ts ∧ ts.length ≤ 100) : Small (ts ++ [⟨q, k, []⟩]) :=
  ⟨by simp; omega, fun t ht => by
    rcases List.mem_append.1 ht with h1 | h1
    · exact h.1.2 t h1
    · simp at h1; subst h1; simp⟩
theorem byT_more {ts : List TelV} {q k : Int} (h : ByT ts) : ByT (ts ++ [⟨q, k, []⟩]) := fun t ht => by
  rcases List.mem_append.1 ht with h1 | h1
  · exact h t h1
  · simp at h1; subst h1; exact By.nil
theorem ok_more {ts : List TelV} {t : TelV} (h : ∀ t ∈ ts, okT t = true) (ht : okT t = true) : ∀ x ∈ ts ++ [t], okT x = true := fun x hx => by
  rcases List.mem_append.1 hx with h1 | h1
  · exact h x h1
  · simp at h1; subst h1; exact ht
set_option maxRecDepth 100000 in
set_option maxHeartbeats 12800000 in
theorem walkAxlesD (a : Option Addr) (cap : Nat) (bs : List Int) (w : World) (hz : Bytes w a bs) (hl0 : bs.length ≤ maxLen) :
    Calls Try.prog 5 #[.slice a bs.length cap] w fun e w' => e = .returned (.bool true) ∧ Below w.heap.size w w' := by
  by_cases hbig : 1048576 < bs.length
  · have CB := cbig a cap bs.length w hl0
    rw [decide_eq_true hbig] at CB
    go_enter Try.func5, Try.ntmps5
    go_wp2_with fail
    refine CB.mono ?_
    rintro e w1 ⟨rfl, hw1⟩
    subst w1
    go_wp2
    go_ret
    exact ⟨rfl, Below.refl _ _⟩
  have hl : bs.length ≤ 1048576 := by omega
  have CB := cbig a cap bs.length w hl0
  rw [decide_eq_false hbig] at CB
  obtain ⟨i1, hi1, hy0, hy1, hy2⟩ := info_parts infoTel
  go_enter Try.func5, Try.ntmps5
  go_wp2_with fail
  refine CB.mono ?_
  rintro e w1 ⟨rfl, hw1⟩
  subst w1
  clear CB
  go_wp2_with fail
  refine (cDrawTs cap a bs w hz hl).mono ?_
  rintro e wL ⟨ts, cs, v, rfl, hts, hD, T, HB0⟩
  have hLo := T.own
  have hRA := hide T.ra
  have hLt := T.len
  have hOk : Hid (∀ t ∈ ts, okT t = true) := hide (fun t ht => (hD t ht).ok)
  have hY : ByT ts := fun t ht => (hD t ht).by_
  have hSm : Small ts ∧ ts.length ≤ 100 := ⟨⟨by omega, fun t ht => by have := (hD t ht).len; omega⟩, by omega⟩
  have hone : ∀ d ∈ cs, d.v.oneCell' = true := fun d hd => by
    obtain ⟨j, hj, rfl⟩ := List.mem_iff_getElem.1 hd
    obtain ⟨_, _, na, nc, hv, _⟩ := hRA.out.get j hj
    rw [hv]; rfl
  replace hD := hide hD
  obtain ⟨n, hn⟩ : ∃ n, ts.length = n := ⟨_, rfl⟩
  rw [hn] at hLo hts hLt
  replace hn := hide hn
  obtain ⟨la, lc, rfl⟩ := own_form hLo
  clear T hz
  have A0 := balloc wL (.cells #[] 25)
  have R0 : (wL.alloc (.cells #[] 25)).ownsRow wL.heap.size 25 3 (.slice (some ⟨wL.heap.size, 0, none⟩) 0 0) 0 (flatC []) := World.ownsRow_made wL _ 0 (Nat.le_refl _) (by unfold maxLen; omega) (by simp)
  go_wp2
  go_loopw [4, 5] (fun tv i wr => ∃ (j m : Nat) (cs2 : List TC), j ≤ n ∧ i = .int .i64 j ∧ Hid (m = 2 * j) ∧ wr.ownsRow wL.heap.size 25 3 tv m (flatC cs2) ∧ RA wL cs2 (twiceL (ts.take j)) ∧ Below wL.heap.size wL wr) (fun _ i _ => n - (intOf i).toNat)
  case atStart => exact ⟨0, 0, [], Nat.zero_le _, rfl, hide rfl, R0, RA.nil, A0⟩
  case round =>
    clear R0 A0
    obtain ⟨j, m, cs2, hj, rfl, hm, hown, hra, hb⟩ := hrel
    have hm34 : m ≤ 34 := by have := hm.out; omega
    obtain ⟨ta, tc, rfl⟩ := own_form hown
    by_cases hlt : j < n
    · have hjc : j < cs.length := by omega
      have hjt : j < ts.length := by rw [hn.out]; exact hlt
      obtain ⟨lb, rfl⟩ : ∃ lb, la = some ⟨lb, 0, none⟩ := by
        rcases hLo.2 with ⟨_, h0⟩ | ⟨g, cap', cur, he, _⟩
        · omega
        · simp only [Value.slice.injEq] at he
          exact ⟨g, he.1⟩
      have h1 := hRA.out.get j hjc
      obtain ⟨y0, y1, y2⟩ := flatC_get cs j hjc
      have hl3 := flatC_len cs
      have e0 := (hLo.cellAt (j * 3) (by omega)).trans y0
      have e1 := (hLo.cellAt (j * 3 + 1) (by omega)).trans y1
      have e2 := (hLo.cellAt (j * 3 + 2) (by omega)).trans y2
      have hst : twiceL (ts.take (j + 1)) = twiceL (ts.take j) ++ [ts.getD j TelV.zero, ts.getD j TelV.zero] := by
        rw [List.take_succ_eq_append_getElem hjt, twiceL_app]
        simp [twiceL, List.getD, hjt]
      obtain ⟨d, hd⟩ : ∃ d, d = cs[j] := ⟨_, rfl⟩
      rw [← hd] at e0 e1 e2 h1
      have RA3 : Hid (RA wL (cs2 ++ [⟨d.q, d.k, d.v⟩, ⟨d.q, d.k, d.v⟩]) (twiceL (ts.take (j + 1)))) := hide (by rw [hst]; exact hra.app (RA.cons h1 (RA.cons h1 RA.nil)))
      obtain ⟨-, -, da, dc, hdv, -, -⟩ := h1
      generalize (ts.getD j TelV.zero).b.length = dn at *
      rw [hdv] at e2 RA3
      have x0 := ble hb e0
      have x1 := ble hb e1
      have x2 := ble hb e2
      have hm2 : Hid (m + 2 = 2 * (j + 1)) := hide (by have := hm.out; omega)
      have hk0 : (0 : Int) ≤ (j : Int) := by omega
      have hk1 : (j : Int) < (n : Int) := by omega
      clear y0 y1 y2 hst hd hdv hra hm
      go_wp2_with fail
      refine wp_region_held_drew (S := (fun w' => w'.cell? ⟨lb, j * 3, none⟩ = some (.int .i64 d.q) ∧ w'.cell? ⟨lb, j * 3 + 1, none⟩ = some (.int .i64 d.k) ∧ w'.cell? ⟨lb, j * 3 + 2, none⟩ = some (.slice da dn dc))) (by kernel_rfl) ?_ (fun hHeld => ?_)
      · exact ⟨x0, x1, x2⟩
      have Bd : Below wL.heap.size wL wr.drew := hb.drew
      have d0 := ble Bd e0
      have d1 := ble Bd e1
      have d2 := ble Bd e2
      have hod := own_keep hown (show Below wr.heap.size wr wr.drew from (Below.refl _ _).drew)
      clear x0 x1 x2 hown hb
      generalize wr.drew = wd at *
      have hds := Bd.size
      have sz1 : (wd.alloc (.cells #[.int .i64 d.q, .int .i64 d.k, .slice da dn dc, .int .i64 d.q, .int .i64 d.k, .slice da dn dc] 25)).heap.size = wd.heap.size + 1 := by simp
      refine wpAnyH_take (i := 0) (v := .slice ta m tc) rfl (by kernel_rfl) (by kernel_rfl) (by kernel_rfl) (fun _ _ _ h => h) (Or.inl ⟨by kernel_rfl, fun w hS => by go_simp⟩) hHeld ?_
      change wpAnyH _ _ _ _ _ _ _ { tmps := List.toArray (_ :: _ :: _ :: _ :: _ :: _ :: _ :: _ :: _ :: _ :: _ :: _ :: _ :: _ :: _ :: _ :: _ :: _ :: _ :: _ :: _ :: _ :: _ :: _ :: _ :: _ :: .slice ta m tc :: _ :: _ :: _ :: _ :: _ :: _ :: _ :: _ :: _ :: _ :: _ :: _ :: _ :: _ :: _ :: _ :: _ :: _ :: _ :: _ :: _ :: _ :: _ :: _ :: _ :: _ :: _ :: _ :: _ :: _ :: _ :: _ :: _ :: _ :: _ :: _ :: _ :: _ :: _ :: _ :: _ :: _ :: _ :: _ :: _ :: _ :: _ :: _ :: _ :: _ :: _ :: _ :: _ :: _ :: _ :: _ :: _ :: _ :: _ :: _ :: _ :: _ :: _ :: _ :: _ :: _ :: _ :: _ :: _ :: _ :: _ :: _ :: _ :: _ :: _ :: _ :: _ :: _ :: _ :: _ :: _ :: _ :: _ :: _ :: _ :: _ :: _ :: _ :: _ :: _ :: _ :: _ :: _ :: _ :: _ :: _ :: _ :: _ :: []), defers := [] } _
      refine wpAnyH_take (i := 1) (v := .slice (some ⟨lb, 0, none⟩) n lc) rfl (by kernel_rfl) (by kernel_rfl) (by kernel_rfl) (fun _ _ _ h => h) (Or.inl ⟨by kernel_rfl, fun w hS => by go_simp⟩) hHeld ?_
      change wpAnyH _ _ _ _ _ _ _ { tmps := List.toArray (_ :: _ :: _ :: _ :: _ :: _ :: _ :: _ :: _ :: _ :: _ :: _ :: _ :: _ :: _ :: _ :: _ :: _ :: _ :: _ :: _ :: _ :: _ :: _ :: _ :: _ :: .slice ta m tc :: .slice (some ⟨lb, 0, none⟩) n lc :: _ :: _ :: _ :: _ :: _ :: _ :: _ :: _ :: _ :: _ :: _ :: _ :: _ :: _ :: _ :: _ :: _ :: _ :: _ :: _ :: _ :: _ :: _ :: _ :: _ :: _ :: _ :: _ :: _ :: _ :: _ :: _ :: _ :: _ :: _ :: _ :: _ :: _ :: _ :: _ :: _ :: _ :: _ :: _ :: _ :: _ :: _ :: _ :: _ :: _ :: _ :: _ :: _ :: _ :: _ :: _ :: _ :: _ :: _ :: _ :: _ :: _ :: _ :: _ :: _ :: _ :: _ :: _ :: _ :: _ :: _ :: _ :: _ :: _ :: _ :: _ :: _ :: _ :: _ :: _ :: _ :: _ :: _ :: _ :: _ :: _ :: _ :: _ :: _ :: _ :: _ :: _ :: _ :: _ :: _ :: _ :: _ :: []), defers := [] } _
      refine wpAnyH_take (i := 2) (v := .int .i64 (j : Int)) rfl (by kernel_rfl) (by kernel_rfl) (by kernel_rfl) (fun _ _ _ h => h) (Or.inl ⟨by kernel_rfl, fun w hS => by go_simp⟩) hHeld ?_
      change wpAnyH _ _ _ _ _ _ _ { tmps := List.toArray (_ :: _ :: _ :: _ :: _ :: _ :: _ :: _ :: _ :: _ :: _ :: _ :: _ :: _ :: _ :: _ :: _ :: _ :: _ :: _ :: _ :: _ :: _ :: _ :: _ :: _ :: .slice ta m tc :: .slice (some ⟨lb, 0, none⟩) n lc :: .int .i64 (j : Int) :: _ :: _ :: _ :: _ :: _ :: _ :: _ :: _ :: _ :: _ :: _ :: _ :: _ :: _ :: _ :: _ :: _ :: _ :: _ :: _ :: _ :: _ :: _ :: _ :: _ :: _ :: _ :: _ :: _ :: _ :: _ :: _ :: _ :: _ :: _ :: _ :: _ :: _ :: _ :: _ :: _ :: _ :: _ :: _ :: _ :: _ :: _ :: _ :: _ :: _ :: _ :: _ :: _ :: _ :: _ :: _ :: _ :: _ :: _ :: _ :: _ :: _ :: _ :: _ :: _ :: _ :: _ :: _ :: _ :: _ :: _ :: _ :: _ :: _ :: _ :: _ :: _ :: _ :: _ :: _ :: _ :: _ :: _ :: _ :: _ :: _ :: _ :: _ :: _ :: _ :: _ :: _ :: _ :: _ :: _ :: _ :: []), defers := [] } _
      refine wpAnyH_take (i := 3) (v := .pointer (some ⟨lb, j * 3, none⟩)) rfl (by kernel_rfl) (by kernel_rfl) (by kernel_rfl) (fun _ _ _ h => h) (Or.inl ⟨by kernel_rfl, fun w hS => by go_simp⟩) hHeld ?_
      change wpAnyH _ _ _ _ _ _ _ { tmps := List.toArray (_ :: _ :: _ :: _ :: _ :: _ :: _ :: _ :: _ :: _ :: _ :: _ :: _ :: _ :: _ :: _ :: _ :: _ :: _ :: _ :: _ :: _ :: _ :: _ :: _ :: _ :: .slice ta m tc :: .slice (some ⟨lb, 0, none⟩) n lc :: .int .i64 (j : Int) :: .pointer (some ⟨lb, j * 3, none⟩) :: _ :: _ :: _ :: _ :: _ :: _ :: _ :: _ :: _ :: _ :: _ :: _ :: _ :: _ :: _ :: _ :: _ :: _ :: _ :: _ :: _ :: _ :: _ :: _ :: _ :: _ :: _ :: _ :: _ :: _ :: _ :: _ :: _ :: _ :: _ :: _ :: _ :: _ :: _ :: _ :: _ :: _ :: _ :: _ :: _ :: _ :: _ :: _ :: _ :: _ :: _ :: _ :: _ :: _ :: _ :: _ :: _ :: _ :: _ :: _ :: _ :: _ :: _ :: _ :: _ :: _ :: _ :: _ :: _ :: _ :: _ :: _ :: _ :: _ :: _ :: _ :: _ :: _ :: _ :: _ :: _ :: _ :: _ :: _ :: _ :: _ :: _ :: _ :: _ :: _ :: _ :: _ :: _ :: _ :: _ :: []), defers := [] } _
      refine wpAnyH_take (i := 4) (v := .agg #[.int .i64 d.q, .int .i64 d.k, .slice da dn dc]) rfl (by kernel_rfl) (by kernel_rfl) (by kernel_rfl) (fun _ _ _ h => h) (Or.inl ⟨by kernel_rfl, fun w hS => by (obtain ⟨hS0, hS1, hS2⟩ := hS; go_simp)⟩) hHeld ?_
      change wpAnyH _ _ _ _ _ _ _ { tmps := List.toArray (_ :: _ :: _ :: _ :: _ :: _ :: _ :: _ :: _ :: _ :: _ :: _ :: _ :: _ :: _ :: _ :: _ :: _ :: _ :: _ :: _ :: _ :: _ :: _ :: _ :: _ :: .slice ta m tc :: .slice (some ⟨lb, 0, none⟩) n lc :: .int .i64 (j : Int) :: .pointer (some ⟨lb, j * 3, none⟩) :: .agg #[.int .i64 d.q, .int .i64 d.k, .slice da dn dc] :: _ :: _ :: _ :: _ :: _ :: _ :: _ :: _ :: _ :: _ :: _ :: _ :: _ :: _ :: _ :: _ :: _ :: _ :: _ :: _ :: _ :: _ :: _ :: _ :: _ :: _ :: _ :: _ :: _ :: _ :: _ :: _ :: _ :: _ :: _ :: _ :: _ :: _ :: _ :: _ :: _ :: _ :: _ :: _ :: _ :: _ :: _ :: _ :: _ :: _ :: _ :: _ :: _ :: _ :: _ :: _ :: _ :: _ :: _ :: _ :: _ :: _ :: _ :: _ :: _ :: _ :: _ :: _ :: _ :: _ :: _ :: _ :: _ :: _ :: _ :: _ :: _ :: _ :: _ :: _ :: _ :: _ :: _ :: _ :: _ :: _ :: _ :: _ :: _ :: _ :: _ :: _ :: _ :: _ :: []), defers := [] } _
      refine wpAnyH_take (i := 5) (v := .slice (some ⟨lb, 0, none⟩) n lc) rfl (by kernel_rfl) (by kernel_rfl) (by kernel_rfl) (fun _ _ _ h => h) (Or.inl ⟨by kernel_rfl, fun w hS => by go_simp⟩) hHeld ?_
      change wpAnyH _ _ _ _ _ _ _ { tmps := List.toArray (_ :: _ :: _ :: _ :: _ :: _ :: _ :: _ :: _ :: _ :: _ :: _ :: _ :: _ :: _ :: _ :: _ :: _ :: _ :: _ :: _ :: _ :: _ :: _ :: _ :: _ :: .slice ta m tc :: .slice (some ⟨lb, 0, none⟩) n lc :: .int .i64 (j : Int) :: .pointer (some ⟨lb, j * 3, none⟩) :: .agg #[.int .i64 d.q, .int .i64 d.k, .slice da dn dc] :: .slice (some ⟨lb, 0, none⟩) n lc :: _ :: _ :: _ :: _ :: _ :: _ :: _ :: _ :: _ :: _ :: _ :: _ :: _ :: _ :: _ :: _ :: _ :: _ :: _ :: _ :: _ :: _ :: _ :: _ :: _ :: _ :: _ :: _ :: _ :: _ :: _ :: _ :: _ :: _ :: _ :: _ :: _ :: _ :: _ :: _ :: _ :: _ :: _ :: _ :: _ :: _ :: _ :: _ :: _ :: _ :: _ :: _ :: _ :: _ :: _ :: _ :: _ :: _ :: _ :: _ :: _ :: _ :: _ :: _ :: _ :: _ :: _ :: _ :: _ :: _ :: _ :: _ :: _ :: _ :: _ :: _ :: _ :: _ :: _ :: _ :: _ :: _ :: _ :: _ :: _ :: _ :: _ :: _ :: _ :: _ :: _ :: _ :: _ :: []), defers := [] } _
      refine wpAnyH_take (i := 6) (v := .int .i64 (j : Int)) rfl (by kernel_rfl) (by kernel_rfl) (by kernel_rfl) (fun _ _ _ h => h) (Or.inl ⟨by kernel_rfl, fun w hS => by go_simp⟩) hHeld ?_
      change wpAnyH _ _ _ _ _ _ _ { tmps := List.toArray (_ :: _ :: _ :: _ :: _ :: _ :: _ :: _ :: _ :: _ :: _ :: _ :: _ :: _ :: _ :: _ :: _ :: _ :: _ :: _ :: _ :: _ :: _ :: _ :: _ :: _ :: .slice ta m tc :: .slice (some ⟨lb, 0, none⟩) n lc :: .int .i64 (j : Int) :: .pointer (some ⟨lb, j * 3, none⟩) :: .agg #[.int .i64 d.q, .int .i64 d.k, .slice da dn dc] :: .slice (some ⟨lb, 0, none⟩) n lc :: .int .i64 (j : Int) :: _ :: _ :: _ :: _ :: _ :: _ :: _ :: _ :: _ :: _ :: _ :: _ :: _ :: _ :: _ :: _ :: _ :: _ :: _ :: _ :: _ :: _ :: _ :: _ :: _ :: _ :: _ :: _ :: _ :: _ :: _ :: _ :: _ :: _ :: _ :: _ :: _ :: _ :: _ :: _ :: _ :: _ :: _ :: _ :: _ :: _ :: _ :: _ :: _ :: _ :: _ :: _ :: _ :: _ :: _ :: _ :: _ :: _ :: _ :: _ :: _ :: _ :: _ :: _ :: _ :: _ :: _ :: _ :: _ :: _ :: _ :: _ :: _ :: _ :: _ :: _ :: _ :: _ :: _ :: _ :: _ :: _ :: _ :: _ :: _ :: _ :: _ :: _ :: _ :: _ :: _ :: _ :: []), defers := [] } _
      refine wpAnyH_take (i := 7) (v := .pointer (some ⟨lb, j * 3, none⟩)) rfl (by kernel_rfl) (by kernel_rfl) (by kernel_rfl) (fun _ _ _ h => h) (Or.inl ⟨by kernel_rfl, fun w hS => by go_simp⟩) hHeld ?_
      change wpAnyH _ _ _ _ _ _ _ { tmps := List.toArray (_ :: _ :: _ :: _ :: _ :: _ :: _ :: _ :: _ :: _ :: _ :: _ :: _ :: _ :: _ :: _ :: _ :: _ :: _ :: _ :: _ :: _ :: _ :: _ :: _ :: _ :: .slice ta m tc :: .slice (some ⟨lb, 0, none⟩) n lc :: .int .i64 (j : Int) :: .pointer (some ⟨lb, j * 3, none⟩) :: .agg #[.int .i64 d.q, .int .i64 d.k, .slice da dn dc] :: .slice (some ⟨lb, 0, none⟩) n lc :: .int .i64 (j : Int) :: .pointer (some ⟨lb, j * 3, none⟩) :: _ :: _ :: _ :: _ :: _ :: _ :: _ :: _ :: _ :: _ :: _ :: _ :: _ :: _ :: _ :: _ :: _ :: _ :: _ :: _ :: _ :: _ :: _ :: _ :: _ :: _ :: _ :: _ :: _ :: _ :: _ :: _ :: _ :: _ :: _ :: _ :: _ :: _ :: _ :: _ :: _ :: _ :: _ :: _ :: _ :: _ :: _ :: _ :: _ :: _ :: _ :: _ :: _ :: _ :: _ :: _ :: _ :: _ :: _ :: _ :: _ :: _ :: _ :: _ :: _ :: _ :: _ :: _ :: _ :: _ :: _ :: _ :: _ :: _ :: _ :: _ :: _ :: _ :: _ :: _ :: _ :: _ :: _ :: _ :: _ :: _ :: _ :: _ :: _ :: _ :: _ :: []), defers := [] } _
      refine wpAnyH_take (i := 8) (v := .agg #[.int .i64 d.q, .int .i64 d.k, .slice da dn dc]) rfl (by kernel_rfl) (by kernel_rfl) (by kernel_rfl) (fun _ _ _ h => h) (Or.inl ⟨by kernel_rfl, fun w hS => by (obtain ⟨hS0, hS1, hS2⟩ := hS; go_simp)⟩) hHeld ?_
      change wpAnyH _ _ _ _ _ _ _ { tmps := List.toArray (_ :: _ :: _ :: _ :: _ :: _ :: _ :: _ :: _ :: _ :: _ :: _ :: _ :: _ :: _ :: _ :: _ :: _ :: _ :: _ :: _ :: _ :: _ :: _ :: _ :: _ :: .slice ta m tc :: .slice (some ⟨lb, 0, none⟩) n lc :: .int .i64 (j : Int) :: .pointer (some ⟨lb, j * 3, none⟩) :: .agg #[.int .i64 d.q, .int .i64 d.k, .slice da dn dc] :: .slice (some ⟨lb, 0, none⟩) n lc :: .int .i64 (j : Int) :: .pointer (some ⟨lb, j * 3, none⟩) :: .agg #[.int .i64 d.q, .int .i64 d.k, .slice da dn dc] :: _ :: _ :: _ :: _ :: _ :: _ :: _ :: _ :: _ :: _ :: _ :: _ :: _ :: _ :: _ :: _ :: _ :: _ :: _ :: _ :: _ :: _ :: _ :: _ :: _ :: _ :: _ :: _ :: _ :: _ :: _ :: _ :: _ :: _ :: _ :: _ :: _ :: _ :: _ :: _ :: _ :: _ :: _ :: _ :: _ :: _ :: _ :: _ :: _ :: _ :: _ :: _ :: _ :: _ :: _ :: _ :: _ :: _ :: _ :: _ :: _ :: _ :: _ :: _ :: _ :: _ :: _ :: _ :: _ :: _ :: _ :: _ :: _ :: _ :: _ :: _ :: _ :: _ :: _ :: _ :: _ :: _ :: _ :: _ :: _ :: _ :: _ :: _ :: _ :: _ :: []), defers := [] } _
      refine wpAnyH_ready (rs := [9]) (by kernel_rfl) (by simp) ?_
      refine (AllReadyH.cons rfl (fun KK hK => ?_) AllReadyH.nil)
      go_simp
      clear hHeld
      refine hK.out _ _ (⟨ble (balloc wd (.cells #[.int .i64 d.q, .int .i64 d.k, .slice da dn dc, .int .i64 d.q, .int .i64 d.k, .slice da dn dc] 25)) d0, ble (balloc wd (.cells #[.int .i64 d.q, .int .i64 d.k, .slice da dn dc, .int .i64 d.q, .int .i64 d.k, .slice da dn dc] 25)) d1, ble (balloc wd (.cells #[.int .i64 d.q, .int .i64 d.k, .slice da dn dc, .int .i64 d.q, .int .i64 d.k, .slice da dn dc] 25)) d2⟩) (fun hHeld => ?_)
      clear hK KK
      change wpAnyH _ _ _ _ _ _ _ { tmps := List.toArray (_ :: _ :: _ :: _ :: _ :: _ :: _ :: _ :: _ :: _ :: _ :: _ :: _ :: _ :: _ :: _ :: _ :: _ :: _ :: _ :: _ :: _ :: _ :: _ :: _ :: _ :: .slice ta m tc :: .slice (some ⟨lb, 0, none⟩) n lc :: .int .i64 (j : Int) :: .pointer (some ⟨lb, j * 3, none⟩) :: .agg #[.int .i64 d.q, .int .i64 d.k, .slice da dn dc] :: .slice (some ⟨lb, 0, none⟩) n lc :: .int .i64 (j : Int) :: .pointer (some ⟨lb, j * 3, none⟩) :: .agg #[.int .i64 d.q, .int .i64 d.k, .slice da dn dc] :: .slice (some ⟨wd.heap.size, 0, none⟩) 2 2 :: _ :: _ :: _ :: _ :: _ :: _ :: _ :: _ :: _ :: _ :: _ :: _ :: _ :: _ :: _ :: _ :: _ :: _ :: _ :: _ :: _ :: _ :: _ :: _ :: _ :: _ :: _ :: _ :: _ :: _ :: _ :: _ :: _ :: _ :: _ :: _ :: _ :: _ :: _ :: _ :: _ :: _ :: _ :: _ :: _ :: _ :: _ :: _ :: _ :: _ :: _ :: _ :: _ :: _ :: _ :: _ :: _ :: _ :: _ :: _ :: _ :: _ :: _ :: _ :: _ :: _ :: _ :: _ :: _ :: _ :: _ :: _ :: _ :: _ :: _ :: _ :: _ :: _ :: _ :: _ :: _ :: _ :: _ :: _ :: _ :: _ :: _ :: _ :: _ :: []), defers := [] } _
      refine wpAnyH_ready (rs := [10]) (by kernel_rfl) (by simp) ?_
      refine (AllReadyH.cons rfl (fun KK hK => ?_) AllReadyH.nil)
      refine step_append_lies _ (by rfl) _ _ 33 (by rfl) wL.heap.size 25 i1 (.agg #[.int .i64 0, .int .i64 0, .slice none 0 0]) 3 40 Try.underlying33 hi1 hy0 hy1 hy2 rfl (by omega) (.slice ta m tc) m (flatC cs2) (by rfl) (own_keep hod (balloc wd (.cells #[.int .i64 d.q, .int .i64 d.k, .slice da dn dc, .int .i64 d.q, .int .i64 d.k, .slice da dn dc] 25))) ⟨wd.heap.size, 0, none⟩ 2 2 [.int .i64 d.q, .int .i64 d.k, .slice da dn dc, .int .i64 d.q, .int .i64 d.k, .slice da dn dc] (by rfl) rfl (World.news_of_block (heap_alloc_new wd _)) (fun u hu => by simp only [List.mem_cons, List.not_mem_nil, or_false] at hu; rcases hu with hu | hu | hu | hu | hu | hu <;> subst hu <;> rfl) (by omega) (by unfold maxLen; omega) (by omega) (by rw [sz1]; omega) (wd.heap.size + 1) (by rw [sz1]) ?_
      intro g gc w3 hown hgrow hwh hgl
      have B3 : Below wL.heap.size wL w3 := (Bd.trans ((balloc wd (.cells #[.int .i64 d.q, .int .i64 d.k, .slice da dn dc, .int .i64 d.q, .int .i64 d.k, .slice da dn dc] 25)).mono Bd.size)).grown hgrow (by have := Bd.size; rw [sz1]; omega) (fun x hx => own_from hod (Nat.le_refl _) x hx)
      have O3 : w3.ownsRow wL.heap.size 25 3 (.slice (some ⟨g, 0, none⟩) (m + 2) gc) (m + 2) (flatC (cs2 ++ [⟨d.q, d.k, .slice da dn dc⟩, ⟨d.q, d.k, .slice da dn dc⟩])) := by
        have e : flatC (cs2 ++ [⟨d.q, d.k, .slice da dn dc⟩, ⟨d.q, d.k, .slice da dn dc⟩]) = flatC cs2 ++ [.int .i64 d.q, .int .i64 d.k, .slice da dn dc, .int .i64 d.q, .int .i64 d.k, .slice da dn dc] := by simp [flatC, TC.vs]
        rw [e]; exact hown
      skip
      clear hHeld
      refine hK.out _ _ (⟨ble B3 e0, ble B3 e1, ble B3 e2⟩) (fun hHeld => ?_)
      clear hK KK
      change wpAnyH _ _ _ _ _ _ _ { tmps := List.toArray (_ :: _ :: _ :: _ :: _ :: _ :: _ :: _ :: _ :: _ :: _ :: _ :: _ :: _ :: _ :: _ :: _ :: _ :: _ :: _ :: _ :: _ :: _ :: _ :: _ :: _ :: .slice ta m tc :: .slice (some ⟨lb, 0, none⟩) n lc :: .int .i64 (j : Int) :: .pointer (some ⟨lb, j * 3, none⟩) :: .agg #[.int .i64 d.q, .int .i64 d.k, .slice da dn dc] :: .slice (some ⟨lb, 0, none⟩) n lc :: .int .i64 (j : Int) :: .pointer (some ⟨lb, j * 3, none⟩) :: .agg #[.int .i64 d.q, .int .i64 d.k, .slice da dn dc] :: .slice (some ⟨wd.heap.size, 0, none⟩) 2 2 :: .slice (some ⟨g, 0, none⟩) (m + 2) gc :: _ :: _ :: _ :: _ :: _ :: _ :: _ :: _ :: _ :: _ :: _ :: _ :: _ :: _ :: _ :: _ :: _ :: _ :: _ :: _ :: _ :: _ :: _ :: _ :: _ :: _ :: _ :: _ :: _ :: _ :: _ :: _ :: _ :: _ :: _ :: _ :: _ :: _ :: _ :: _ :: _ :: _ :: _ :: _ :: _ :: _ :: _ :: _ :: _ :: _ :: _ :: _ :: _ :: _ :: _ :: _ :: _ :: _ :: _ :: _ :: _ :: _ :: _ :: _ :: _ :: _ :: _ :: _ :: _ :: _ :: _ :: _ :: _ :: _ :: _ :: _ :: _ :: _ :: _ :: _ :: _ :: _ :: _ :: _ :: _ :: _ :: _ :: _ :: []), defers := [] } _
      refine wpAnyH_take (i := 11) (v := .slice (some ⟨g, 0, none⟩) (m + 2) gc) rfl (by kernel_rfl) (by kernel_rfl) (by kernel_rfl) (fun _ _ _ h => h) (Or.inl ⟨by kernel_rfl, fun w hS => by go_simp⟩) hHeld ?_
      change wpAnyH _ _ _ _ _ _ _ { tmps := List.toArray (_ :: _ :: _ :: _ :: .slice (some ⟨g, 0, none⟩) (m + 2) gc :: _ :: _ :: _ :: _ :: _ :: _ :: _ :: _ :: _ :: _ :: _ :: _ :: _ :: _ :: _ :: _ :: _ :: _ :: _ :: _ :: _ :: .slice ta m tc :: .slice (some ⟨lb, 0, none⟩) n lc :: .int .i64 (j : Int) :: .pointer (some ⟨lb, j * 3, none⟩) :: .agg #[.int .i64 d.q, .int .i64 d.k, .slice da dn dc] :: .slice (some ⟨lb, 0, none⟩) n lc :: .int .i64 (j : Int) :: .pointer (some ⟨lb, j * 3, none⟩) :: .agg #[.int .i64 d.q, .int .i64 d.k, .slice da dn dc] :: .slice (some ⟨wd.heap.size, 0, none⟩) 2 2 :: .slice (some ⟨g, 0, none⟩) (m + 2) gc :: _ :: _ :: _ :: _ :: _ :: _ :: _ :: _ :: _ :: _ :: _ :: _ :: _ :: _ :: _ :: _ :: _ :: _ :: _ :: _ :: _ :: _ :: _ :: _ :: _ :: _ :: _ :: _ :: _ :: _ :: _ :: _ :: _ :: _ :: _ :: _ :: _ :: _ :: _ :: _ :: _ :: _ :: _ :: _ :: _ :: _ :: _ :: _ :: _ :: _ :: _ :: _ :: _ :: _ :: _ :: _ :: _ :: _ :: _ :: _ :: _ :: _ :: _ :: _ :: _ :: _ :: _ :: _ :: _ :: _ :: _ :: _ :: _ :: _ :: _ :: _ :: _ :: _ :: _ :: _ :: _ :: _ :: _ :: _ :: _ :: _ :: _ :: _ :: []), defers := [] } _
      refine wpAnyH_done (by kernel_rfl) ?_ _
      clear hown hgrow hwh hgl hod Bd d0 d1 d2
      go_wp2
      go_roundw
      case rel => exact ⟨j + 1, m + 2, _, by omega, by go_num, hm2, O3, RA3.out, B3⟩
      case measure => simp [intOf]; omega
    · have hjn : j = n := by omega
      subst j
      rw [show ts.take n = ts by rw [← hn.out, List.take_length]] at hra
      have hAO : Hid (axA ts = ((axF ts).c, (axF ts).o)) := hide (axA_of hOk.out (by rw [hn.out]; omega))
      have hA2 : Hid (axA (twiceL ts) = ((axF ts).c, (axF ts).o + n)) := hide (by
        rw [axA_of (fun t ht => hOk.out t (twiceL_mem ht)) (by rw [twiceL_len, hn.out]; omega), (axF_two hD.out).1, (axF_two hD.out).2, hn.out])
      have hin := axF_in ts hY ts.length (Nat.le_refl _)
      rw [List.take_length, hn.out] at hin
      obtain ⟨c0, c1, o0, o1⟩ := hin
      have TL : Tels wr la ts := tels_of (v := .slice la n lc) (own_keep hLo hb) hn.out hRA.out hb
      have T2 : Tels wr ta (twiceL ts) := tels_of (v := .slice ta m tc) hown (by rw [twiceL_len, hn.out]; exact hm.out.symm) hra hb
      have C1 := cAxI la lc ts wr TL hSm.1 hY
      have S2 : Small (twiceL ts) := ⟨by rw [twiceL_len, hn.out]; omega, fun t ht => hSm.1.2 t (twiceL_mem ht)⟩
      have Y2 : ByT (twiceL ts) := fun t ht => hY t (twiceL_mem ht)
      have hl2 : (twiceL ts).length = m := by rw [twiceL_len, hn.out]; exact hm.out.symm
      have C2 : ∀ W, Below wr.heap.size wr W → Calls Try.prog 24 #[.slice ta m tc] W (AnsAx W (twiceL ts)) := fun W hW => by
        have := cAxI ta tc (twiceL ts) W (T2.below hW) S2 Y2
        rw [hl2] at this
        exact this
      rw [hn.out] at C1
      unfold AnsAx at C1 C2
      rw [hAO.out] at C1
      rw [hA2.out] at C2
      have hAO2 : Hid ((axF ts).c = (axF ts).c ∧ (axF ts).o = (axF ts).o) := hide ⟨rfl, rfl⟩
      clear hAO
      obtain ⟨A, hA⟩ : ∃ A, A = (axF ts).c := ⟨_, rfl⟩
      obtain ⟨O, hO⟩ : ∃ O, O = (axF ts).o := ⟨_, rfl⟩
      rw [← hA] at C1 C2 c0 c1
      rw [← hO] at C1 C2 o0 o1
      dsimp only at C1 C2
      have hAO : Hid ((axF ts).c = A ∧ (axF ts).o = O) := hide ⟨hA.symm, hO.symm⟩
      clear hA hO hAO2 hA2 TL T2 S2 Y2 hl2 hown hra
      go_wp2_with fail
      refine C1.mono ?_
      rintro e w2 ⟨rfl, hb2⟩
      have D2 := C2 w2 hb2
      clear C1 C2
      have HL := hb.trans (hb2.mono hb.size)
      clear hb hb2
      go_wp2_with fail
      refine D2.mono ?_
      rintro e w3 ⟨rfl, hb3⟩
      replace HL := HL.trans (hb3.mono HL.size)
      clear hb3 D2
      have q1 : IntKind.i64.wrap (2 * O) = 2 * O := wrap_in _ (by omega) (by omega)
      have q2 : IntKind.i64.wrap (2 * O + (n : Int)) = 2 * O + (n : Int) := wrap_in _ (by omega) (by omega)
      have q3 : IntKind.i64.wrap (2 * O + (n : Int) - O) = 2 * O + (n : Int) - O := wrap_in _ (by omega) (by omega)
      have q4 : ((O + (n : Int)) != (2 * O + (n : Int) - O)) = false := by simp [bne]; omega
      have q5 : ¬ (A < -1) := by omega
      have q6 : ¬ (O < 0) := by omega
      obtain ⟨sq, hsq⟩ : ∃ sq, sq = nextQ ts := ⟨_, rfl⟩
      obtain ⟨sq0, sq1⟩ := nextQ_in ts
      rw [← hsq] at sq0 sq1
      have acs : Hid (accV sq sq = 1) := hide (acc_self sq0 sq1)
      have hm3 := axF_more hD.out
      rw [← hsq] at hm3
      have axAP : Hid (axA (ts ++ [⟨sq, 1, []⟩]) = (A, O)) := hide (by rw [axA_of (ok_more hOk.out (by rw [hsq]; exact okT_next ts 1 (by omega) (by omega))) (by rw [List.length_append, hn.out]; show n + 1 ≤ 200; omega), hm3.1, hm3.2.1, hAO.out.1, hAO.out.2])
      have axAQ : Hid (∃ O2, axA (ts ++ [⟨sq, 3, []⟩]) = (0, O2)) := hide ⟨_, by rw [axA_of (ok_more hOk.out (by rw [hsq]; exact okT_next ts 3 (by omega) (by omega))) (by rw [List.length_append, hn.out]; show n + 1 ≤ 200; omega), hm3.2.2]⟩
      obtain ⟨O2, axAQ2⟩ := axAQ.out
      clear axAQ
      have axAQ : Hid (axA (ts ++ [⟨sq, 3, []⟩]) = (0, O2)) := hide axAQ2
      clear axAQ2 hm3
      by_cases hn0 : n = 0
      · have hsq0 : sq = 0 := by rw [hsq]; unfold nextQ; rw [if_pos (by rw [hn.out]; exact hn0)]
        have hng : ¬ ((0 : Int) < (n : Int)) := by omega
        subst hsq0
        replace hn0 := hide hn0
        clear hsq
        have AP := balloc w3 (.cells #[] 25)
        have EP : (w3.alloc (.cells #[] 25)).ownsRow wL.heap.size 25 3 (.slice (some ⟨w3.heap.size, 0, none⟩) 0 0) 0 (flatC []) := own_base (World.ownsRow_made w3 _ 0 (Nat.le_refl _) (by unfold maxLen; omega) (by simp)) HL.size
        have HAP := HL.trans (AP.mono HL.size)
        obtain ⟨vP, wP, hrunP, hrowP, hgP⟩ := app_tels EP (own_keep hLo (Below.up HAP)) hone (by omega) (by have := HAP.size; omega)
        have HBP : Below wL.heap.size wL wP := HAP.grown hgP HAP.size (fun x hx => own_from EP (Nat.le_refl _) x hx)
        rw [Nat.zero_add, List.nil_append] at hrowP
        obtain ⟨uP, zP, hrumP, hroxP, hhP⟩ := app_tel ⟨0, 1, .slice none 0 0⟩ rfl hrowP (by omega) HBP.size
        dsimp only at hrumP hroxP hhP
        have HCP : Below wL.heap.size wL zP := below_app HBP HBP.size hrowP hhP
        have TTP : Tels zP (sliceA uP) (ts ++ [⟨0, 1, []⟩]) := by
          have hfl : flatC cs ++ [.int .i64 0, .int .i64 1, .slice none 0 0] = flatC (cs ++ [⟨0, 1, .slice none 0 0⟩]) := by rw [flatC_snoc]
          rw [hfl] at hroxP
          exact tels_of hroxP (by rw [List.length_append, hn.out]; rfl) (hRA.out.app (RA.cons ⟨rfl, rfl, none, 0, rfl, Nat.le_refl _, .inl rfl⟩ RA.nil)) HCP
        have CXP := cAxI (sliceA uP) (sliceC uP) (ts ++ [⟨0, 1, []⟩]) zP TTP (small_more hSm) (byT_more hY)
        unfold AnsAx at CXP
        rw [axAP.out] at CXP
        dsimp only at CXP
        obtain ⟨uaP, ucP, rfl⟩ := own_form hroxP
        obtain ⟨vaP, vcP, rfl⟩ := own_form hrowP
        have hlnP : (ts ++ [(⟨0, 1, []⟩ : TelV)]).length = n + 1 := by rw [List.length_append, hn.out]; rfl
        rw [hlnP] at CXP
        simp only [sliceA, sliceC] at CXP
        replace hlnP := hide hlnP
        clear hrowP hgP hroxP hhP TTP HAP HBP AP EP
        go_wp2_with (first | (at_builtin; have h0 := hrunP; refine Go.Lib.wpList_append_run _ rfl _ _ _ _ rfl _ _ rfl rfl _ _ hrunP ?_; clear hrunP h0) | (at_builtin; refine Go.Lib.wpList_append_run _ rfl _ _ _ _ rfl _ _ rfl rfl _ _ hrumP ?_))
        refine CXP.mono ?_
        rintro e yP ⟨rfl, hbyP⟩
        clear HL hrumP CXP
        have HL : Below wL.heap.size wL yP := HCP.trans (hbyP.mono HCP.size)
        clear HCP hbyP
        have AQ := balloc yP (.cells #[] 25)
        have EQ : (yP.alloc (.cells #[] 25)).ownsRow wL.heap.size 25 3 (.slice (some ⟨yP.heap.size, 0, none⟩) 0 0) 0 (flatC []) := own_base (World.ownsRow_made yP _ 0 (Nat.le_refl _) (by unfold maxLen; omega) (by simp)) HL.size
        have HAQ := HL.trans (AQ.mono HL.size)
        obtain ⟨vQ, wQ, hrunQ, hrowQ, hgQ⟩ := app_tels EQ (own_keep hLo (Below.up HAQ)) hone (by omega) (by have := HAQ.size; omega)
        have HBQ : Below wL.heap.size wL wQ := HAQ.grown hgQ HAQ.size (fun x hx => own_from EQ (Nat.le_refl _) x hx)
        rw [Nat.zero_add, List.nil_append] at hrowQ
        obtain ⟨uQ, zQ, hrumQ, hroxQ, hhQ⟩ := app_tel ⟨0, 3, .slice none 0 0⟩ rfl hrowQ (by omega) HBQ.size
        dsimp only at hrumQ hroxQ hhQ
        have HCQ : Below wL.heap.size wL zQ := below_app HBQ HBQ.size hrowQ hhQ
        have TTQ : Tels zQ (sliceA uQ) (ts ++ [⟨0, 3, []⟩]) := by
          have hfl : flatC cs ++ [.int .i64 0, .int .i64 3, .slice none 0 0] = flatC (cs ++ [⟨0, 3, .slice none 0 0⟩]) := by rw [flatC_snoc]
          rw [hfl] at hroxQ
          exact tels_of hroxQ (by rw [List.length_append, hn.out]; rfl) (hRA.out.app (RA.cons ⟨rfl, rfl, none, 0, rfl, Nat.le_refl _, .inl rfl⟩ RA.nil)) HCQ
        have CXQ := cAxI (sliceA uQ) (sliceC uQ) (ts ++ [⟨0, 3, []⟩]) zQ TTQ (small_more hSm) (byT_more hY)
        unfold AnsAx at CXQ
        rw [axAQ.out] at CXQ
        dsimp only at CXQ
        obtain ⟨uaQ, ucQ, rfl⟩ := own_form hroxQ
        obtain ⟨vaQ, vcQ, rfl⟩ := own_form hrowQ
        have hlnQ : (ts ++ [(⟨0, 3, []⟩ : TelV)]).length = n + 1 := by rw [List.length_append, hn.out]; rfl
        rw [hlnQ] at CXQ
        simp only [sliceA, sliceC] at CXQ
        replace hlnQ := hide hlnQ
        clear hrowQ hgQ hroxQ hhQ TTQ HAQ HBQ AQ EQ
        go_wp2_with (first | (at_builtin; have h0 := hrunQ; refine Go.Lib.wpList_append_run _ rfl _ _ _ _ rfl _ _ rfl rfl _ _ hrunQ ?_; clear hrunQ h0) | (at_builtin; refine Go.Lib.wpList_append_run _ rfl _ _ _ _ rfl _ _ rfl rfl _ _ hrumQ ?_))
        refine CXQ.mono ?_
        rintro e yQ ⟨rfl, hbyQ⟩
        clear HL hrumQ CXQ
        have HL : Below wL.heap.size wL yQ := HCQ.trans (hbyQ.mono HCQ.size)
        clear HCQ hbyQ
        go_wp2_with fail
        refine (cAccI 255 0 _).mono ?_
        rintro e q1 ⟨rfl, hq1⟩
        subst q1
        have ac1 : accV 255 0 = 0 := by decide
        rw [ac1]
        go_wp2_with fail
        refine (cAccI 0 0 _).mono ?_
        rintro e q2 ⟨rfl, hq2⟩
        subst q2
        rw [acs.out]
        go_wp2
        go_ret
        exact ⟨rfl, HB0.trans (HL.mono HB0.size)⟩
      · have hng : (0 : Int) < (n : Int) := by omega
        obtain ⟨M, hM⟩ : ∃ M : Nat, (n : Int) - 1 = (M : Int) := ⟨n - 1, by omega⟩
        have hMn : M = n - 1 := by omega
        have hMc : M < cs.length := by omega
        obtain ⟨lb, rfl⟩ : ∃ lb, la = some ⟨lb, 0, none⟩ := by
          rcases hLo.2 with ⟨_, h0⟩ | ⟨g, cap', cur, he, _⟩
          · omega
          · simp only [Value.slice.injEq] at he
            exact ⟨g, he.1⟩
        obtain ⟨y0, -, -⟩ := flatC_get cs M hMc
        have hl3 := flatC_len cs
        have z0 := ble HL ((hLo.cellAt (M * 3) (by omega)).trans y0)
        have h1 := hRA.out.get M hMc
        obtain ⟨qd, hqd⟩ : ∃ qd, qd = cs[M].q := ⟨_, rfl⟩
        rw [← hqd] at z0
        have hqe : qd = (ts.getD (ts.length - 1) TelV.zero).q := by rw [hqd, h1.1, hn.out, hMn]
        have hqr : 0 ≤ qd ∧ qd ≤ 255 := by
          have hjt : n - 1 < ts.length := by rw [hn.out]; omega
          have h9 := hD.out _ (List.getElem_mem hjt)
          rw [hqe, hn.out]
          simp only [List.getD, List.getElem?_eq_getElem hjt, Option.getD_some]
          exact ⟨h9.q0, h9.q1⟩
        have hsq2 : (qd + 1).tmod 256 = sq := by rw [hsq]; unfold nextQ; rw [if_neg (by rw [hn.out]; exact hn0), ← hqe, Int.tmod_eq_emod_of_nonneg (by omega)]
        have hw1 : IntKind.i64.wrap (qd + 1) = qd + 1 := wrap_in _ (by omega) (by omega)
        have hw2 : IntKind.i64.wrap sq = sq := wrap_in _ (by omega) (by omega)
        have hM0 : (0 : Int) ≤ (M : Int) := by omega
        have hM1 : (M : Int) < (n : Int) := by omega
        have hM2 : ((M : Int)).toNat = M := by omega
        have hM3 : M < n := by omega
        replace hMn := hide hMn
        clear hsq hqd hqe hqr h1 y0 hl3
        have AP := balloc w3 (.cells #[] 25)
        have EP : (w3.alloc (.cells #[] 25)).ownsRow wL.heap.size 25 3 (.slice (some ⟨w3.heap.size, 0, none⟩) 0 0) 0 (flatC []) := own_base (World.ownsRow_made w3 _ 0 (Nat.le_refl _) (by unfold maxLen; omega) (by simp)) HL.size
        have HAP := HL.trans (AP.mono HL.size)
        obtain ⟨vP, wP, hrunP, hrowP, hgP⟩ := app_tels EP (own_keep hLo (Below.up HAP)) hone (by omega) (by have := HAP.size; omega)
        have HBP : Below wL.heap.size wL wP := HAP.grown hgP HAP.size (fun x hx => own_from EP (Nat.le_refl _) x hx)
        rw [Nat.zero_add, List.nil_append] at hrowP
        obtain ⟨uP, zP, hrumP, hroxP, hhP⟩ := app_tel ⟨sq, 1, .slice none 0 0⟩ rfl hrowP (by omega) HBP.size
        dsimp only at hrumP hroxP hhP
        have HCP : Below wL.heap.size wL zP := below_app HBP HBP.size hrowP hhP
        have TTP : Tels zP (sliceA uP) (ts ++ [⟨sq, 1, []⟩]) := by
          have hfl : flatC cs ++ [.int .i64 sq, .int .i64 1, .slice none 0 0] = flatC (cs ++ [⟨sq, 1, .slice none 0 0⟩]) := by rw [flatC_snoc]
          rw [hfl] at hroxP
          exact tels_of hroxP (by rw [List.length_append, hn.out]; rfl) (hRA.out.app (RA.cons ⟨rfl, rfl, none, 0, rfl, Nat.le_refl _, .inl rfl⟩ RA.nil)) HCP
        have CXP := cAxI (sliceA uP) (sliceC uP) (ts ++ [⟨sq, 1, []⟩]) zP TTP (small_more hSm) (byT_more hY)
        unfold AnsAx at CXP
        rw [axAP.out] at CXP
        dsimp only at CXP
        obtain ⟨uaP, ucP, rfl⟩ := own_form hroxP
        obtain ⟨vaP, vcP, rfl⟩ := own_form hrowP
        have hlnP : (ts ++ [(⟨sq, 1, []⟩ : TelV)]).length = n + 1 := by rw [List.length_append, hn.out]; rfl
        rw [hlnP] at CXP
        simp only [sliceA, sliceC] at CXP
        replace hlnP := hide hlnP
        clear hrowP hgP hroxP hhP TTP HAP HBP AP EP
        go_wp2_with (first | (at_builtin; have h0 := hrunP; refine Go.Lib.wpList_append_run _ rfl _ _ _ _ rfl _ _ rfl rfl _ _ hrunP ?_; clear hrunP h0) | (at_builtin; refine Go.Lib.wpList_append_run _ rfl _ _ _ _ rfl _ _ rfl rfl _ _ hrumP ?_))
        refine CXP.mono ?_
        rintro e yP ⟨rfl, hbyP⟩
        clear HL hrumP CXP
        have HL : Below wL.heap.size wL yP := HCP.trans (hbyP.mono HCP.size)
        clear HCP hbyP
        have AQ := balloc yP (.cells #[] 25)
        have EQ : (yP.alloc (.cells #[] 25)).ownsRow wL.heap.size 25 3 (.slice (some ⟨yP.heap.size, 0, none⟩) 0 0) 0 (flatC []) := own_base (World.ownsRow_made yP _ 0 (Nat.le_refl _) (by unfold maxLen; omega) (by simp)) HL.size
        have HAQ := HL.trans (AQ.mono HL.size)
        obtain ⟨vQ, wQ, hrunQ, hrowQ, hgQ⟩ := app_tels EQ (own_keep hLo (Below.up HAQ)) hone (by omega) (by have := HAQ.size; omega)
        have HBQ : Below wL.heap.size wL wQ := HAQ.grown hgQ HAQ.size (fun x hx => own_from EQ (Nat.le_refl _) x hx)
        rw [Nat.zero_add, List.nil_append] at hrowQ
        obtain ⟨uQ, zQ, hrumQ, hroxQ, hhQ⟩ := app_tel ⟨sq, 3, .slice none 0 0⟩ rfl hrowQ (by omega) HBQ.size
        dsimp only at hrumQ hroxQ hhQ
        have HCQ : Below wL.heap.size wL zQ := below_app HBQ HBQ.size hrowQ hhQ
        have TTQ : Tels zQ (sliceA uQ) (ts ++ [⟨sq, 3, []⟩]) := by
          have hfl : flatC cs ++ [.int .i64 sq, .int .i64 3, .slice none 0 0] = flatC (cs ++ [⟨sq, 3, .slice none 0 0⟩]) := by rw [flatC_snoc]
          rw [hfl] at hroxQ
          exact tels_of hroxQ (by rw [List.length_append, hn.out]; rfl) (hRA.out.app (RA.cons ⟨rfl, rfl, none, 0, rfl, Nat.le_refl _, .inl rfl⟩ RA.nil)) HCQ
        have CXQ := cAxI (sliceA uQ) (sliceC uQ) (ts ++ [⟨sq, 3, []⟩]) zQ TTQ (small_more hSm) (byT_more hY)
        unfold AnsAx at CXQ
        rw [axAQ.out] at CXQ
        dsimp only at CXQ
        obtain ⟨uaQ, ucQ, rfl⟩ := own_form hroxQ
        obtain ⟨vaQ, vcQ, rfl⟩ := own_form hrowQ
        have hlnQ : (ts ++ [(⟨sq, 3, []⟩ : TelV)]).length = n + 1 := by rw [List.length_append, hn.out]; rfl
        rw [hlnQ] at CXQ
        simp only [sliceA, sliceC] at CXQ
        replace hlnQ := hide hlnQ
        clear hrowQ hgQ hroxQ hhQ TTQ HAQ HBQ AQ EQ
        go_wp2_with (first | (at_builtin; have h0 := hrunQ; refine Go.Lib.wpList_append_run _ rfl _ _ _ _ rfl _ _ rfl rfl _ _ hrunQ ?_; clear hrunQ h0) | (at_builtin; refine Go.Lib.wpList_append_run _ rfl _ _ _ _ rfl _ _ rfl rfl _ _ hrumQ ?_))
        refine CXQ.mono ?_
        rintro e yQ ⟨rfl, hbyQ⟩
        clear HL hrumQ CXQ
        have HL : Below wL.heap.size wL yQ := HCQ.trans (hbyQ.mono HCQ.size)
        clear HCQ hbyQ
        go_wp2_with fail
        refine (cAccI 255 0 _).mono ?_
        rintro e q1 ⟨rfl, hq1⟩
        subst q1
        have ac1 : accV 255 0 = 0 := by decide
        rw [ac1]
        go_wp2_with fail
        refine (cAccI sq sq _).mono ?_
        rintro e q2 ⟨rfl, hq2⟩
        subst q2
        rw [acs.out]
        go_wp2
        go_ret
        exact ⟨rfl, HB0.trans (HL.mono HB0.size)⟩
end Go.Proofs.Ytgnohomplehacaa
