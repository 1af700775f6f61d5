/- The program's first clash. -/
import Derived.Test.YtbghfihlpbcomaaGreatKZ
import Derived.Test.YtbghfihlpbcomaaGreatFA
namespace Go.Proofs.YtbghfihlpbcomaaGreat
open Go.RowKit Go.Lib
def RowsAt (w : World) (base : Nat) (us : List RideV) (vs : Array Value) : Prop := ∀ e, e < 60 → ∃ v rs, vs[e]? = some v ∧ RowOf us us.length e rs ∧ rs.length ≤ us.length ∧ w.ownsRow base 131 6 v rs.length (flatPls rs)
theorem RowsAt.below {w w' : World} {base : Nat} {us : List RideV} {vs : Array Value} (h : RowsAt w base us vs) (hb : Below w.heap.size w w') : RowsAt w' base us vs := fun e he => by
  obtain ⟨v, rs, a1, a2, a3, a4⟩ := h e he
  exact ⟨v, rs, a1, a2, a3, own_keep a4 hb⟩
theorem RowsAt.far {w w' : World} {base r : Nat} {us : List RideV} {vs : Array Value} (h : RowsAt w base us vs) (hg : w.grownBy w' (some r)) (hr : r < base) : RowsAt w' base us vs := fun e he => by
  obtain ⟨v, rs, a1, a2, a3, a4⟩ := h e he
  exact ⟨v, rs, a1, a2, a3, own_far a4 hg (fun k hk e => by cases e; have := own_from a4 (Nat.le_refl _) _ hk; omega)⟩
theorem row_ok {us : List RideV} {n e : Nat} {rs : List PlV} (h : RowOf us n e rs) : ∀ p, p < rs.length → rideB (plA rs p).u = true := fun p hp => by
  have hm : plA rs p ∈ rs := by
    have : plA rs p = rs[p] := by simp [plA, List.getD, hp]
    rw [this]; exact List.getElem_mem hp
  obtain ⟨i, _, e1, e2, _⟩ := h.2.1 _ hm
  rw [e1]; exact e2

theorem run_index60 (vs : Array Value) (hsz : vs.size = 60) (k : Nat) (hk : k < 60) (v : Value) (hv : vs[k]? = some v) (w : World) : (Instr.index 104 (.agg vs) (.int .i64 (k : Int))).run Tryz.prog w = .ok (.agg #[v]) w := by
  have h1 : 0 ≤ (k : Int) ∧ (k : Int) < ((60 : Nat) : Int) := by omega
  have h2 : vs.extract k (k + 1) = #[v] := by
    apply Array.ext_getElem?
    intro i
    rw [Array.getElem?_extract]
    by_cases hi : i = 0
    · subst hi
      simp [hsz, hv]
      omega
    · have : ¬ i < min (k + 1) vs.size - k := by omega
      simp [this]
      omega
  simp only [Instr.index, asIntOf, Sem.run_bind, Sem.run_pure, Result.andThen_ok, run_underlying Tryz.underlying104]
  rw [if_pos h1]
  simp [part, go_sem, h2]

set_option maxRecDepth 20000 in
set_option maxHeartbeats 6400000 in
theorem cFirstI (a : Option Addr) (cap : Nat) (us : List RideV) (h : Int) (w : World) (hz : Rides w a us) (hl : us.length ≤ 1048576) :
    Calls Tryz.prog 37 #[.slice a us.length cap, .int .i64 h] w (AnsFirst w us h) := by
  by_cases h300 : 300 < us.length
  · have h300' : (300 : Int) < (us.length : Int) := by omega
    have hA : Hid (FirstAns us h (-1) (-1)) := hide (.inl ⟨.inl h300, rfl, rfl⟩)
    go_enter Tryz.func37, Tryz.ntmps37
    go_wp2_with (go_at_call 36; refine (cHeadOk _ _).mono ?_; rintro e w2 ⟨rfl, hw⟩; subst w2)
    go_ret2
    exact ⟨_, _, rfl, hA.out, Below.refl _ _⟩
  have h300' : ¬ (300 : Int) < (us.length : Int) := by omega
  cases hh : inB h 0 60
  · have hA : Hid (FirstAns us h (-1) (-1)) := hide (.inl ⟨.inr hh, rfl, rfl⟩)
    have CH := fun w => cHeadOk h w
    rw [hh] at CH
    go_enter Tryz.func37, Tryz.ntmps37
    go_wp2_with (go_at_call 36; refine (CH _).mono ?_; rintro e w2 ⟨rfl, hw⟩; subst w2)
    go_ret2
    exact ⟨_, _, rfl, hA.out, Below.refl _ _⟩
  have CH := fun w => cHeadOk h w
  rw [hh] at CH
  have hW := below2 w (.cells #[.int .i64 us.length, .int .i64 us.length] 100) (.cells #[.int .i64 us.length, .int .i64 us.length] 100)
  obtain ⟨B0, B1⟩ := blocks2 w (.cells #[.int .i64 us.length, .int .i64 us.length] 100) (.cells #[.int .i64 us.length, .int .i64 us.length] 100)
  have hs2 : ((w.alloc (.cells #[.int .i64 us.length, .int .i64 us.length] 100)).alloc (.cells #[.int .i64 us.length, .int .i64 us.length] 100)).heap.size = w.heap.size + 2 := by simp
  go_enter Tryz.func37, Tryz.ntmps37
  go_wp2_with (go_at_call 36; refine (CH _).mono ?_; rintro e w2 ⟨rfl, hw⟩; subst w2)
  refine (cByEdge a cap us _ (hz.below hW) (by omega)).mono ?_
  rintro e w1 ⟨vs, rfl, hb1, hsz, hrows⟩
  rw [hs2] at hrows
  have hRW : RowsAt w1 (w.heap.size + 2) us vs := hrows
  replace hW := btrans hW hb1
  replace B0 := blk_keep hb1 B0
  replace B1 := blk_keep hb1 B1
  clear hrows hb1 hs2 CH hz
  go_wp2_with fail
  go_loopw [26] (fun i wr => ∃ (k : Nat) (ri rj : Int), k ≤ 60 ∧ i = .int .i64 k ∧ Hid (BestTo us h k ri rj) ∧ RowsAt wr (w.heap.size + 2) us vs ∧ wr.heap[w.heap.size]? = some (.cells #[.int .i64 us.length, .int .i64 us.length] 100) ∧ wr.heap[w.heap.size + 1]? = some (.cells #[.int .i64 ri, .int .i64 rj] 100) ∧ Below w.heap.size w wr) (fun i _ => 60 - (intOf i).toNat)
  case atStart => exact ⟨0, us.length, us.length, by omega, rfl, hide (BestTo.start us h), hRW, B0, B1, hW⟩
  case round =>
    obtain ⟨k, ri, rj, hk, rfl, hQ, hR, hX, hY, hb⟩ := hrel
    clear B0 B1 hW hRW
    by_cases hlt : k < 60
    · have hlt' : (k : Int) < 60 := by omega
      have hwl : w.heap.size + 1 < wr.heap.size := lt_of_block hY
      obtain ⟨v, rs, hv, hRow, hrl, hown⟩ := hR k hlt
      obtain ⟨va, vc, rfl⟩ := own_form hown
      have hvk : vs[k]'(by omega) = .slice va rs.length vc := by
        have := Array.getElem?_eq_some_iff.1 hv
        exact this.2
      have hks : (k : Int) < (vs.size : Int) := by omega
      have hcap : rs.length ≤ vc := by
        rcases hown.2 with ⟨h1, h0⟩ | ⟨g, cap', cur, h1, hg, hh', hc, r⟩
        · omega
        · simp only [Value.slice.injEq] at h1; omega
      have hix := run_index60 vs hsz k hlt _ hv
      have hbK := balloc wr (.cells #[.slice va rs.length vc] 103)
      have hK := one_block wr (.cells #[.slice va rs.length vc] 103)
      replace hX := blk_keep hbK hX
      replace hY := blk_keep hbK hY
      replace hb := btrans hb hbK
      replace hR := hR.below hbK
      have hZ := (Pls.own hown).below hbK
      have hws : w.heap.size + 1 < wr.heap.size := by have := hY; exact hwl
      obtain ⟨⟨y0, y1⟩, fy0, fy1⟩ := blk2 hY
      have CF := fun W hz => cFirstAmong va vc rs h ri rj W hz (by omega) hcap hRow.1 (row_ok hRow) hh
      have hst := hide (fun r1 r2 (g : BestOf rs h ri rj r1 r2 (fun _ _ => True)) => hQ.out.step hRow g)
      clear hRow hown hrl hv hvk hQ
      go_wp2_with fail
      refine (CF _ hZ).mono ?_
      rintro e w2 ⟨r1, r2, rfl, hbest, hb2⟩
      have hQ2 := hide (hst.out r1 r2 hbest)
      replace hX := blk_keep hb2 hX
      replace hY := blk_keep hb2 hY
      replace hb := btrans hb hb2
      replace hR := hR.below hb2
      clear hst hbest CF hb2 hZ y0 y1 fy0 fy1
      obtain ⟨⟨y0, y1⟩, fy0, fy1⟩ := blk2 hY
      obtain ⟨s1, s2⟩ := set2 (.int .i64 r1) (.int .i64 r2) hY
      replace hX := far_blk' s2 hX (by omega)
      replace hb := grow_below' hb s2 (fun k e => by cases e; omega)
      replace hR := hR.far s2 (by omega)
      clear hY s2 hbK hK
      go_wp2
      go_roundw
      case rel => exact ⟨k + 1, r1, r2, by omega, by go_num, hQ2, hR, hX, s1, hb⟩
      case measure => simp [intOf]; omega
    · obtain rfl : k = 60 := by omega
      have hdone := hide hQ.out.done
      obtain ⟨⟨x0, x1⟩, fx0, fx1⟩ := blk2 hX
      obtain ⟨⟨y0, y1⟩, fy0, fy1⟩ := blk2 hY
      clear hQ hR hX hY
      rcases hdone.out with ⟨h1, h2, h3⟩ | ⟨h1, h3⟩
      · subst h1
        subst h2
        have hA : Hid (FirstAns us h (-1) (-1)) := hide (.inr ⟨by omega, hh, h3⟩)
        clear hdone h3
        go_wp2
        go_ret2
        exact ⟨_, _, rfl, hA.out, hb⟩
      · have hA : Hid (FirstAns us h ri rj) := hide (.inr ⟨by omega, hh, h3⟩)
        have hne : (ri == (us.length : Int)) = false := by simp; omega
        have hne2 : ¬ ri = (us.length : Int) := by omega
        clear hdone h3
        go_wp2
        go_quiet (fail)
        go_wp2
        go_ret2
        exact ⟨_, _, rfl, hA.out, bdraw hb _⟩
end Go.Proofs.YtbghfihlpbcomaaGreat
