/- How desks that come in are opened. -/
import Derived.Test.YtjbecnflpfjicaaGreatKS
import Derived.Test.YtjbecnflpfjicaaGreats14O
import Derived.Test.YtjbecnflpfjicaaGreats18O
namespace Go.Proofs.YtjbecnflpfjicaaGreat
open Go.ChangeShapes Go.WideShapes Go.ChangeAt Go.RowKit Go.Deep
section
variable {H : Type} {enc : TypeId × Value → H} {P : Program} {w : World} {base : Nat} {spare : Nat → Bool} {held : Bool}
theorem list8 {α : Type} {cs : List α} (h : cs.length = 8) : ∃ c0 c1 c2 c3 c4 c5 c6 c7, cs = [c0, c1, c2, c3, c4, c5, c6, c7] := by
  match cs, h with
  | [c0, c1, c2, c3, c4, c5, c6, c7], _ => exact ⟨c0, c1, c2, c3, c4, c5, c6, c7, rfl⟩
theorem array8 {α : Type} {cs : Array α} (h : cs.size = 8) : ∃ c0 c1 c2 c3 c4 c5 c6 c7, cs = #[c0, c1, c2, c3, c4, c5, c6, c7] := by
  obtain ⟨l⟩ := cs
  obtain ⟨c0, c1, c2, c3, c4, c5, c6, c7, rfl⟩ := list8 (by simpa using h)
  exact ⟨c0, c1, c2, c3, c4, c5, c6, c7, rfl⟩
theorem cellsDesk : Tryz.prog.cellsOf 34 = 8 := by kernel_rfl
theorem cellsTripS0 : Tryz.prog.cellsOf 25 = 1 := by kernel_rfl
theorem cellsTrain0 : Tryz.prog.cellsOf 28 = 3 := by kernel_rfl
theorem cellsSid0 : Tryz.prog.cellsOf 32 = 2 := by kernel_rfl
theorem cellsEdgeS0 : Tryz.prog.cellsOf 22 = 1 := by kernel_rfl
theorem cellsBkS0 : Tryz.prog.cellsOf 26 = 1 := by kernel_rfl
theorem cellsIntS0 : Tryz.prog.cellsOf 29 = 1 := by kernel_rfl
theorem cellsIntSS0 : Tryz.prog.cellsOf 30 = 1 := by kernel_rfl
set_option maxRecDepth 100000 in
theorem open_desk {r : Reach} {b0 : Nat} {v : Value} {d : DataW H} {p : List MemPlace} (hv : Value.okWide Tryz.prog w r b0 34 v) (h : DataW.Trod enc Tryz.prog w base spare held 34 v d p) :
    ∃ n ea ec es ta tc ts S P ha hc hs ra rc room wa wc vs rows, v = .agg #[.int .i64 n, .slice ea (List.length es) ec, .slice ta (List.length ts) tc, .int .i64 S, .int .i64 P, .slice ha (List.length hs) hc, .slice ra (List.length room) rc, .slice wa (List.length rows) wc] ∧ DeskR w ea es ta ts ha hs ra room wa vs rows ∧ DeskB es ts hs room rows := by
  obtain ⟨cs, rfl, hsz⟩ := okWide_struct Tryz.underlying34 hv
  obtain ⟨c0, c1, c2, c3, c4, c5, c6, c7, rfl⟩ := array8 (hsz.trans cellsDesk)
  obtain ⟨fuel, hf⟩ := h
  obtain ⟨xs, n, _, _, _, hlen, hfs⟩ := DataW.trod_struct Tryz.underlying34 hf
  simp only [List.size_toArray, List.length_cons, List.length_nil] at hlen
  have g0 : DataW.trod enc Tryz.prog w base spare held n 24 [c0, c1] = some xs[0] := by
    have := hfs 0 _ rfl; rw [List.getElem?_eq_getElem (by omega)] at this; simpa [Value.cells, cellsNet, cellsTrain0, cellsSid0, cellsTripS0, cellsInt] using this
  have g1 : DataW.trod enc Tryz.prog w base spare held n 25 [c2] = some xs[1] := by
    have := hfs 1 _ rfl; rw [List.getElem?_eq_getElem (by omega)] at this; simpa [Value.cells, cellsNet, cellsTrain0, cellsSid0, cellsTripS0, cellsInt] using this
  have g2 : DataW.trod enc Tryz.prog w base spare held n 28 [c3, c4, c5] = some xs[2] := by
    have := hfs 2 _ rfl; rw [List.getElem?_eq_getElem (by omega)] at this; simpa [Value.cells, cellsNet, cellsTrain0, cellsSid0, cellsTripS0, cellsInt] using this
  have g3 : DataW.trod enc Tryz.prog w base spare held n 32 [c6, c7] = some xs[3] := by
    have := hfs 3 _ rfl; rw [List.getElem?_eq_getElem (by omega)] at this; simpa [Value.cells, cellsNet, cellsTrain0, cellsSid0, cellsTripS0, cellsInt] using this
  obtain ⟨ys0, n0, _, _, _, hlen0, hfs0⟩ := DataW.trod_struct Tryz.underlying24 g0
  simp only [List.size_toArray, List.length_cons, List.length_nil] at hlen0
  have k0 : DataW.trod enc Tryz.prog w base spare held n0 3 [c0] = some ys0[0] := by
    have := hfs0 0 _ rfl; rw [List.getElem?_eq_getElem (by omega)] at this; simpa [Value.cells, cellsInt, cellsEdgeS0, cellsBkS0, cellsIntS0, cellsIntSS0] using this
  have k1 : DataW.trod enc Tryz.prog w base spare held n0 22 [c1] = some ys0[1] := by
    have := hfs0 1 _ rfl; rw [List.getElem?_eq_getElem (by omega)] at this; simpa [Value.cells, cellsInt, cellsEdgeS0, cellsBkS0, cellsIntS0, cellsIntSS0] using this
  obtain ⟨ys2, n2, _, _, _, hlen2, hfs2⟩ := DataW.trod_struct Tryz.underlying28 g2
  simp only [List.size_toArray, List.length_cons, List.length_nil] at hlen2
  have k3 : DataW.trod enc Tryz.prog w base spare held n2 3 [c3] = some ys2[0] := by
    have := hfs2 0 _ rfl; rw [List.getElem?_eq_getElem (by omega)] at this; simpa [Value.cells, cellsInt, cellsEdgeS0, cellsBkS0, cellsIntS0, cellsIntSS0] using this
  have k4 : DataW.trod enc Tryz.prog w base spare held n2 3 [c4] = some ys2[1] := by
    have := hfs2 1 _ rfl; rw [List.getElem?_eq_getElem (by omega)] at this; simpa [Value.cells, cellsInt, cellsEdgeS0, cellsBkS0, cellsIntS0, cellsIntSS0] using this
  have k5 : DataW.trod enc Tryz.prog w base spare held n2 26 [c5] = some ys2[2] := by
    have := hfs2 2 _ rfl; rw [List.getElem?_eq_getElem (by omega)] at this; simpa [Value.cells, cellsInt, cellsEdgeS0, cellsBkS0, cellsIntS0, cellsIntSS0] using this
  obtain ⟨ys3, n3, _, _, _, hlen3, hfs3⟩ := DataW.trod_struct Tryz.underlying32 g3
  simp only [List.size_toArray, List.length_cons, List.length_nil] at hlen3
  have k6 : DataW.trod enc Tryz.prog w base spare held n3 29 [c6] = some ys3[0] := by
    have := hfs3 0 _ rfl; rw [List.getElem?_eq_getElem (by omega)] at this; simpa [Value.cells, cellsInt, cellsEdgeS0, cellsBkS0, cellsIntS0, cellsIntSS0] using this
  have k7 : DataW.trod enc Tryz.prog w base spare held n3 30 [c7] = some ys3[1] := by
    have := hfs3 1 _ rfl; rw [List.getElem?_eq_getElem (by omega)] at this; simpa [Value.cells, cellsInt, cellsEdgeS0, cellsBkS0, cellsIntS0, cellsIntSS0] using this
  obtain ⟨x0, e0, _, _⟩ := DataW.trod_int Tryz.underlying3 k0
  obtain ⟨x3, e3, _, _⟩ := DataW.trod_int Tryz.underlying3 k3
  obtain ⟨x4, e4, _, _⟩ := DataW.trod_int Tryz.underlying3 k4
  obtain ⟨ea, es, ec, rfl, i1, l1⟩ := edges_of_trod k1
  obtain ⟨ta, ts, tc, rfl, i2, l2⟩ := trips_of_trod g1
  obtain ⟨ha, hs, hc, rfl, i3, l3⟩ := s14.books_of_trod k5
  obtain ⟨ra, room, rc, rfl, i4, l4, _⟩ := s18.ints_of_trod k6
  obtain ⟨wa, vs, rows, wc, rfl, i5, l5, l6⟩ := s18.rows_of_trod k7
  simp only [List.cons.injEq, and_true] at e0 e3 e4
  subst e0 e3 e4
  exact ⟨x0, ea, ec, es, ta, tc, ts, x3, x4, ha, hc, hs, ra, rc, room, wa, wc, vs, rows, rfl, ⟨i1, i2, i3, i4, i5⟩, ⟨l1, l2, l3, l4, l5, l6⟩⟩
end
end Go.Proofs.YtjbecnflpfjicaaGreat
