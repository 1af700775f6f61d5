/- The program: Book and Unbook. -/
import Derived.Test.YtgnlcehpajbnoaaCJ
import Derived.Deep.RegionHeld3
namespace Go.Proofs.Ytgnlcehpajbnoaa
open Go.RowKit Go.Lib
/-- A train told, with something beside it; its bookings are a row of the call's own. -/
def AnsT (w : World) (S P : Int) (hs : List BkV) (r : Value) (e : Ending) (w' : World) : Prop :=
  ∃ g ch, e = .returned (.tuple #[.agg #[.int .i64 S, .int .i64 P, .slice (some ⟨g, 0, none⟩) hs.length ch], r]) ∧ w'.ownsRow w.heap.size 78 4 (.slice (some ⟨g, 0, none⟩) hs.length ch) hs.length (flatBks hs) ∧ Below w.heap.size w w'
def bookA (S P : Int) (hs : List BkV) (id on off : Int) : List BkV × Int := if trainB S P hs then bookV S P hs id on off else (hs, -1)
def unbA (S P : Int) (hs : List BkV) (id : Int) : List BkV × Bool := if trainB S P hs then (unbV hs id, hasI hs id) else (hs, false)
/-- The cells of the train that is told, written. -/
theorem tr_set {w w2 : World} {B q b : Nat} {S P : Int} {gh ch : Nat} {hs : List BkV} (hT : TrAt w2 B b S P gh ch hs) (hB : Below w.heap.size w w2) (hq : w.heap.size ≤ q) (hqB : q < B) (hwB : w.heap.size ≤ B) :
    (((w2.setCell ⟨q, 0, none⟩ (.int .i64 S)).setCell ⟨q, 1, none⟩ (.int .i64 P)).setCell ⟨q, 2, none⟩ (.slice (some ⟨gh, 0, none⟩) hs.length ch)).ownsRow w.heap.size 78 4 (.slice (some ⟨gh, 0, none⟩) hs.length ch) hs.length (flatBks hs) ∧
    Below w.heap.size w (((w2.setCell ⟨q, 0, none⟩ (.int .i64 S)).setCell ⟨q, 1, none⟩ (.int .i64 P)).setCell ⟨q, 2, none⟩ (.slice (some ⟨gh, 0, none⟩) hs.length ch)) := by
  have hne : gh ≠ q := by
    have := own_from hT.2 (Nat.le_refl _) gh rfl
    omega
  exact ⟨own_setg hne (own_setg hne (own_setg hne (Go.Joins.ownsRow_le hT.2 hwB))), below_set hq (below_set hq (below_set hq hB))⟩
theorem TrAt.cells {w : World} {B b : Nat} {S P : Int} {gh ch : Nat} {hs : List BkV} (h : TrAt w B b S P gh ch hs) : w.cell? ⟨b, 0, none⟩ = some (.int .i64 S) ∧ w.cell? ⟨b, 1, none⟩ = some (.int .i64 P) ∧ w.cell? ⟨b, 2, none⟩ = some (.slice (some ⟨gh, 0, none⟩) hs.length ch) := by
  obtain ⟨⟨v, hv⟩, _⟩ := h
  exact ⟨Go.Joins.cell_of_block hv 0, Go.Joins.cell_of_block hv 1, Go.Joins.cell_of_block hv 2⟩
theorem blk3 {w : World} {g : Nat} {c0 c1 c2 : Value} {t : TypeId} (h : w.heap[g]? = some (.cells #[c0, c1, c2] t (0, 0))) :
    (w.cell? ⟨g, 0, none⟩ = some c0 ∧ w.cell? ⟨g, 1, none⟩ = some c1 ∧ w.cell? ⟨g, 2, none⟩ = some c2) ∧ (w.frozen? ⟨g, 0, none⟩ = false ∧ w.frozen? ⟨g, 1, none⟩ = false ∧ w.frozen? ⟨g, 2, none⟩ = false) :=
  ⟨⟨Go.Joins.cell_of_block h 0, Go.Joins.cell_of_block h 1, Go.Joins.cell_of_block h 2⟩, ⟨Go.Joins.unfrozen_of_block h 0, Go.Joins.unfrozen_of_block h 1, Go.Joins.unfrozen_of_block h 2⟩⟩

set_option maxRecDepth 20000 in
set_option maxHeartbeats 1600000 in
theorem cBookI (S P : Int) (a : Option Addr) (c : Nat) (hs : List BkV) (id on off : Int) (w : World) (hz : Bks w a hs) (hl : hs.length ≤ 1048576) :
    Calls Try.prog 17 #[.agg #[.int .i64 S, .int .i64 P, .slice a hs.length c], .int .i64 id, .int .i64 on, .int .i64 off] w (AnsT w S P (bookA S P hs id on off).1 (.int .i64 (bookA S P hs id on off).2)) := by
  have hW := btrans (balloc w (.cells #[.int .i64 S, .int .i64 P, .slice a hs.length c] 26)) (balloc _ (.cells #[.int .i64 0, .int .i64 0, .slice none 0 0] 26))
  have kk := (blocks2 w (.cells #[.int .i64 S, .int .i64 P, .slice a hs.length c] 26) (.cells #[.int .i64 0, .int .i64 0, .slice none 0 0] 26)).2
  have hs2 : ((w.alloc (.cells #[.int .i64 S, .int .i64 P, .slice a hs.length c] 26)).alloc (.cells #[.int .i64 0, .int .i64 0, .slice none 0 0] 26)).heap.size = w.heap.size + 1 + 1 := by simp
  have C := cBookOf S P a c hs _ (hz.below hW) hl
  have E : Hid (bookA S P hs id on off = if trainB S P hs then bookV S P hs id on off else (hs, -1)) := hide rfl
  generalize bookA S P hs id on off = R at *
  go_enter Try.func17, Try.ntmps17
  go_wp2_with fail
  refine C.mono ?_
  rintro e w1 ⟨b, gh, rfl, hTr, hb, hbk⟩
  have kq := blk_keep hb kk
  have hbw := btrans hW hb
  rw [hs2] at hTr hbk
  have hb1 : b < w1.heap.size := by obtain ⟨⟨v, hv⟩, _⟩ := hTr; exact lt_of_block hv
  clear C kk hb hW hs2
  cases ht : trainB S P hs
  · rw [ht] at E
    have hR : R = (hs, -1) := E.out
    subst hR
    obtain ⟨⟨q0, q1, q2⟩, g0, g1, g2⟩ := blk3 kq
    obtain ⟨u1, u2⟩ := tr_set (q := w.heap.size + 1) hTr hbw (by omega) (by omega) (by omega)
    obtain ⟨t0, t1, t2⟩ := hTr.cells
    clear hbk hTr kq hz
    go_wp2
    refine bodyPost_ret (v := .tuple #[.agg #[.int .i64 S, .int .i64 P, .slice (some ⟨gh, 0, none⟩) hs.length hs.length], .int .i64 (-1)]) (by simp [results, Try.results17, go_sem, q0, q1, q2]) rfl ⟨gh, hs.length, rfl, u1, u2⟩
  · rw [ht] at E
    obtain ⟨gs, HB⟩ := hbk ht
    obtain ⟨eN, hT⟩ := trainB_N ht
    have hR : Hid (R = bookV S P hs id on off) := hide E.out
    have C2 := cSell _ b S.toNat P gh hs.length hs gs id on off w1 HB hT
    rw [eN, ← hR.out] at C2
    clear hbk hTr
    go_wp2_with fail
    refine C2.mono ?_
    rintro e w2 ⟨gh', ch', rfl, H2, _, hb2⟩
    have kq2 := (hb2.block (w.heap.size + 1) (by omega)).trans kq
    have hbw2 : Below w.heap.size w w2 := hbw.trans (hb2.mono (by omega))
    have hTr2 := H2.tr
    rw [eN] at hTr2
    obtain ⟨⟨q0, q1, q2⟩, g0, g1, g2⟩ := blk3 kq2
    obtain ⟨u1, u2⟩ := tr_set (q := w.heap.size + 1) hTr2 hbw2 (by omega) (by omega) (by omega)
    obtain ⟨t0, t1, t2⟩ := hTr2.cells
    clear hTr2 kq kq2 hz H2 HB C2 hb2
    go_wp2
    refine bodyPost_ret (v := .tuple #[.agg #[.int .i64 S, .int .i64 P, .slice (some ⟨gh', 0, none⟩) R.1.length ch'], .int .i64 R.2]) (by simp [results, Try.results17, go_sem, q0, q1, q2]) rfl ⟨gh', ch', rfl, u1, u2⟩

set_option maxRecDepth 20000 in
set_option maxHeartbeats 1600000 in
theorem cUnbookI (S P : Int) (a : Option Addr) (c : Nat) (hs : List BkV) (id : Int) (w : World) (hz : Bks w a hs) (hl : hs.length ≤ 1048576) :
    Calls Try.prog 18 #[.agg #[.int .i64 S, .int .i64 P, .slice a hs.length c], .int .i64 id] w (AnsT w S P (unbA S P hs id).1 (.bool (unbA S P hs id).2)) := by
  have hW := btrans (balloc w (.cells #[.int .i64 S, .int .i64 P, .slice a hs.length c] 26)) (balloc _ (.cells #[.int .i64 0, .int .i64 0, .slice none 0 0] 26))
  have kk := (blocks2 w (.cells #[.int .i64 S, .int .i64 P, .slice a hs.length c] 26) (.cells #[.int .i64 0, .int .i64 0, .slice none 0 0] 26)).2
  have hs2 : ((w.alloc (.cells #[.int .i64 S, .int .i64 P, .slice a hs.length c] 26)).alloc (.cells #[.int .i64 0, .int .i64 0, .slice none 0 0] 26)).heap.size = w.heap.size + 1 + 1 := by simp
  have C := cBookOf S P a c hs _ (hz.below hW) hl
  have E : Hid (unbA S P hs id = if trainB S P hs then (unbV hs id, hasI hs id) else (hs, false)) := hide rfl
  generalize unbA S P hs id = R at *
  go_enter Try.func18, Try.ntmps18
  go_wp2_with fail
  refine C.mono ?_
  rintro e w1 ⟨b, gh, rfl, hTr, hb, hbk⟩
  have kq := blk_keep hb kk
  have hbw := btrans hW hb
  rw [hs2] at hTr hbk
  have hb1 : b < w1.heap.size := by obtain ⟨⟨v, hv⟩, _⟩ := hTr; exact lt_of_block hv
  clear C kk hb hW hs2
  cases ht : trainB S P hs
  · rw [ht] at E
    have hR : R = (hs, false) := E.out
    subst hR
    obtain ⟨⟨q0, q1, q2⟩, g0, g1, g2⟩ := blk3 kq
    obtain ⟨u1, u2⟩ := tr_set (q := w.heap.size + 1) hTr hbw (by omega) (by omega) (by omega)
    obtain ⟨t0, t1, t2⟩ := hTr.cells
    clear hbk hTr kq hz
    go_wp2
    refine bodyPost_ret (v := .tuple #[.agg #[.int .i64 S, .int .i64 P, .slice (some ⟨gh, 0, none⟩) hs.length hs.length], .bool false]) (by simp [results, Try.results18, go_sem, q0, q1, q2]) rfl ⟨gh, hs.length, rfl, u1, u2⟩
  · rw [ht] at E
    obtain ⟨gs, HB⟩ := hbk ht
    obtain ⟨eN, hT⟩ := trainB_N ht
    have hR : Hid (R = (unbV hs id, hasI hs id)) := hide E.out
    have C2 : Calls Try.prog 52 #[.pointer (some ⟨b, 0, none⟩), .int .i64 id] w1 (SellP w1 (w.heap.size + 1 + 1) b S.toNat P gs R.1 (.bool R.2)) := by
      rw [hR.out]; exact cBack _ b S.toNat P gh hs.length hs gs id w1 HB hT
    clear hbk hTr
    go_wp2_with fail
    refine C2.mono ?_
    rintro e w2 ⟨gh', ch', rfl, H2, _, hb2⟩
    have kq2 := (hb2.block (w.heap.size + 1) (by omega)).trans kq
    have hbw2 : Below w.heap.size w w2 := hbw.trans (hb2.mono (by omega))
    have hTr2 := H2.tr
    rw [eN] at hTr2
    obtain ⟨⟨q0, q1, q2⟩, g0, g1, g2⟩ := blk3 kq2
    obtain ⟨u1, u2⟩ := tr_set (q := w.heap.size + 1) hTr2 hbw2 (by omega) (by omega) (by omega)
    obtain ⟨t0, t1, t2⟩ := hTr2.cells
    clear hTr2 kq kq2 hz H2 HB C2 hb2
    go_wp2
    refine bodyPost_ret (v := .tuple #[.agg #[.int .i64 S, .int .i64 P, .slice (some ⟨gh', 0, none⟩) R.1.length ch'], .bool R.2]) (by simp [results, Try.results18, go_sem, q0, q1, q2]) rfl ⟨gh', ch', rfl, u1, u2⟩
end Go.Proofs.Ytgnlcehpajbnoaa
