/- What the walk of FnShunt holds. -/
import Derived.Test.YtipechbhhpagiaaDE
import Derived.Test.YtipechbhhpagiaaXY
import Derived.Test.YtipechbhhpagiaaMX
import Derived.Test.YtipechbhhpagiaaCP
import Derived.Test.YtipechbhhpagiaaWQ
import Derived.Test.YtipechbhhpagiaaWU
namespace Go.Proofs.Ytipechbhhpagiaa
open Go.RowKit
/-- The drawn sidings (box A), those left at the end (box L), the codes, the shunts. -/
structure HdS (w : World) (A L : Nat) (rv v : Value) (vs : List Value) (rl vl : Value) (vsl : List Value) (rm : List Int) (rws rwl : List (List Int)) (cv : Value) (cs : List Int) (lv : Value) (l : List ShV) (wr : World) : Prop where
  sid : SidO w.heap.size wr rv v vs rm rws
  last : SidO w.heap.size wr rl vl vsl rm rwl
  kA : wr.heap[A]? = some (.cells #[rv, v] 27 (0, 0))
  kL : wr.heap[L]? = some (.cells #[rl, vl] 27 (0, 0))
  codes : wr.ownsRow w.heap.size 3 1 cv cs.length (enc cs)
  list : wr.ownsRow w.heap.size 37 3 lv l.length (flatShs l)
  bel : Below w.heap.size w wr
theorem HdS.below {w : World} {A L : Nat} {rv v : Value} {vs : List Value} {rl vl : Value} {vsl : List Value} {rm : List Int} {rws rwl : List (List Int)} {cv : Value} {cs : List Int} {lv : Value} {l : List ShV} {wr w2 : World} (h : HdS w A L rv v vs rl vl vsl rm rws rwl cv cs lv l wr) (hb : Below wr.heap.size wr w2) : HdS w A L rv v vs rl vl vsl rm rws rwl cv cs lv l w2 :=
  ⟨h.sid.below hb, h.last.below hb, blk_keep hb h.kA, blk_keep hb h.kL, own_keep h.codes hb, own_keep h.list hb, btrans h.bel hb⟩
/-- Another box is given other sidings. -/
theorem HdS.box {w : World} {A L N : Nat} {rv v : Value} {vs : List Value} {rl vl : Value} {vsl : List Value} {rm : List Int} {rws rwl : List (List Int)} {cv : Value} {cs : List Int} {lv : Value} {l : List ShV} {wr : World} {x y p q : Value} (h : HdS w A L rv v vs rl vl vsl rm rws rwl cv cs lv l wr) (hN : wr.heap[N]? = some (.cells #[x, y] 27 (0, 0))) (hA : A ≠ N) (hL : L ≠ N) (hw : w.heap.size ≤ N) :
    HdS w A L rv v vs rl vl vsl rm rws rwl cv cs lv l ((wr.setCell ⟨N, 0, none⟩ p).setCell ⟨N, 1, none⟩ q) :=
  ⟨h.sid.box hN, h.last.box hN, (heap_setCell hA).trans ((heap_setCell hA).trans h.kA), (heap_setCell hL).trans ((heap_setCell hL).trans h.kL), own_set (own_set h.codes (own_blk_neS h.codes hN (by decide))) (own_blk_neS h.codes hN (by decide)), own_set (own_set h.list (own_blk_neS h.list hN (by decide))) (own_blk_neS h.list hN (by decide)), below_set hw (below_set hw h.bel)⟩
/-- What the first loop holds besides: the sidings now (box N) are those behind the first k shunts. -/
structure NowS (w : World) (N : Nat) (rn vn : Value) (vsn : List Value) (rm : List Int) (rows : List (List Int)) (wr : World) : Prop where
  sid : SidO w.heap.size wr rn vn vsn rm rows
  kN : wr.heap[N]? = some (.cells #[rn, vn] 27 (0, 0))
theorem NowS.below {w : World} {N : Nat} {rn vn : Value} {vsn : List Value} {rm : List Int} {rows : List (List Int)} {wr w2 : World} (h : NowS w N rn vn vsn rm rows wr) (hb : Below wr.heap.size wr w2) : NowS w N rn vn vsn rm rows w2 := ⟨h.sid.below hb, blk_keep hb h.kN⟩
theorem NowS.next {w : World} {N : Nat} {rn vn : Value} {vsn : List Value} {rm : List Int} {rows : List (List Int)} {wr : World} {x y : Value} (h : SidO w.heap.size wr rn vn vsn rm rows) (hN : wr.heap[N]? = some (.cells #[x, y] 27 (0, 0))) : NowS w N rn vn vsn rm rows ((wr.setCell ⟨N, 0, none⟩ rn).setCell ⟨N, 1, none⟩ vn) := ⟨h.box hN, box_set hN⟩
/-- Two yards held in memory of their own, compared. -/
theorem cYardO (B1 B2 : Nat) (rv1 v1 rv2 v2 : Value) (us vs : List Value) (rm : List Int) (X Y : List (List Int)) (w : World) (h1 : SidO B1 w rv1 v1 us rm X) (h2 : SidO B2 w rv2 v2 vs rm Y) (hP : SidP rm X) (hQ : SidP rm Y) (hd : ∀ i, rwA X i = rwA Y i ∨ (rwA X i).length ≠ (rwA Y i).length) :
    Calls Try.prog 18 #[.agg #[rv1, v1], .agg #[rv2, v2]] w fun e w' => e = .returned (.bool (decide (X = Y))) ∧ Below w.heap.size w w' := by
  obtain ⟨ra1, rc1, a1, c1, rfl, rfl, I1, R1, -⟩ := h1.arg
  obtain ⟨ra2, rc2, a2, c2, rfl, rfl, I2, R2, -⟩ := h2.arg
  have e : Y.length = X.length := by rw [← hP.len, hQ.len]
  have n6 := hP.n6
  have nl := hP.len
  exact cYard ra1 ra2 rc1 rc2 rm a1 a2 c1 c2 us vs X Y w I1 I2 R1 R2 e (by omega) (by omega) (fun i hi => ⟨by have := hP.len40 hi; omega, by have := hQ.len40 (show i < Y.length by omega); omega⟩) (fun i _ => hd i)
/-- ShuntOne and SidingsOk of right sidings held in memory of their own. -/
theorem cOneO (B : Nat) (rv v : Value) (vs : List Value) (rm : List Int) (X : List (List Int)) (x : ShV) (w : World) (h : SidO B w rv v vs rm X) (hP : SidP rm X) :
    Calls Try.prog 16 #[.agg #[rv, v], x.val] w (AnsSid w rm (leftS rm X x) (.int .i64 (codeS rm X x))) := by
  obtain ⟨ra1, rc1, a1, c1, rfl, rfl, I1, R1, -⟩ := h.arg
  have n6 := hP.n6
  have nl := hP.len
  have := cOneI ra1 rc1 rm a1 c1 vs X x w I1 R1 (by omega) (by omega) (fun i hi => by have := hP.len40 hi; omega)
  rw [(one_yes hP x).1, (one_yes hP x).2] at this
  exact this
theorem cSidO (B : Nat) (rv v : Value) (vs : List Value) (rm : List Int) (X : List (List Int)) (w : World) (h : SidO B w rv v vs rm X) (hP : SidP rm X) :
    Calls Try.prog 15 #[.agg #[rv, v]] w fun e w' => e = .returned (.bool true) ∧ Below w.heap.size w w' := by
  obtain ⟨ra1, rc1, a1, c1, rfl, rfl, I1, R1, -⟩ := h.arg
  have := cSidI ra1 rc1 rm a1 c1 vs X w I1 R1 (fun i hi => by have := hP.len40 hi; omega)
  rw [sidB_iff.2 hP] at this
  exact this
/-- PlayShunts of both, of right sidings and few shunts held in memory of their own. -/
theorem cPlayO (B B2 : Nat) (rv v lv : Value) (vs : List Value) (rm : List Int) (X : List (List Int)) (l : List ShV) (w : World) (h : SidO B w rv v vs rm X) (hL : w.ownsRow B2 37 3 lv l.length (flatShs l)) (hP : SidP rm X) (hl : l.length ≤ 17) :
    Calls Try.prog 14 #[.agg #[rv, v], lv] w (AnsPl w rm (playR rm X l) (playC rm X l)) ∧ Calls Try.prog 20 #[.agg #[rv, v], lv] w (AnsPl w rm (playR rm X l) (playC rm X l)) := by
  obtain ⟨ra1, rc1, a1, c1, rfl, rfl, I1, R1, -⟩ := h.arg
  obtain ⟨la, lc, rfl⟩ := own_form hL
  have n6 := hP.n6
  have nl := hP.len
  have h1 := cPlayI ra1 rc1 rm a1 c1 vs X la lc l w I1 R1 (Shs.own hL) (by omega) (by omega) (fun i hi => by have := hP.len40 hi; omega) (by omega)
  have h2 := cPlayS ra1 rc1 rm a1 c1 vs X la lc l w I1 R1 (Shs.own hL) (by omega) (by omega) (fun i hi => by have := hP.len40 hi; omega) (by omega)
  obtain ⟨e1, e2⟩ := pl_yes (room := rm) (rows := X) (l := l) ⟨hP, by omega⟩
  rw [e1, e2] at h1 h2
  exact ⟨h1, h2⟩
end Go.Proofs.Ytipechbhhpagiaa
