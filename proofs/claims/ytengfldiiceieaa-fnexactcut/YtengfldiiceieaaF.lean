/- A net copied; slices of whole numbers; the walk of the law on NetOk. -/
import Derived.Test.YtengfldiiceieaaE
namespace Go.Proofs.Ytengfldiiceieaa
open Go.RowKit

theorem owns_lt {w : World} {base e sz g n cap : Nat} {xs : List Value} (h : w.ownsRow base e sz (.slice (some ⟨g, 0, none⟩) n cap) n xs) : g < w.heap.size := by
  rcases h.2 with ⟨h', _⟩ | ⟨g', cap', cur, h', _, hg, _⟩
  · simp at h'
  · simp only [Value.slice.injEq, Option.some.injEq, Addr.mk.injEq, and_true, true_and] at h'
    obtain ⟨rfl, rfl⟩ := h'
    exact lt_of_block hg
theorem own_set {w : World} {base e sz g n cap b i : Nat} {xs : List Value} {u : Value} (hne : g ≠ b) (h : w.ownsRow base e sz (.slice (some ⟨g, 0, none⟩) n cap) n xs) : (w.setCell ⟨b, i, none⟩ u).ownsRow base e sz (.slice (some ⟨g, 0, none⟩) n cap) n xs :=
  ownsRow_setCell_other h (by intro e; simp only [Value.ownBlock, Option.some.injEq] at e; exact hne e) u

theorem three_blocks (w : World) (o1 o2 o3 : Obj) : (((w.alloc o1).alloc o2).alloc o3).heap[w.heap.size]? = some o1 ∧ (((w.alloc o1).alloc o2).alloc o3).heap[w.heap.size + 1]? = some o2 ∧ (((w.alloc o1).alloc o2).alloc o3).heap[w.heap.size + 1 + 1]? = some o3 := by
  refine ⟨?_, ?_, ?_⟩
  · show (((w.heap.push o1).push o2).push o3)[w.heap.size]? = _
    simp [Array.getElem?_push]; omega
  · show (((w.heap.push o1).push o2).push o3)[w.heap.size + 1]? = _
    rw [Array.getElem?_push, if_neg (by simp), Array.getElem?_push, if_pos (by simp)]
  · show (((w.heap.push o1).push o2).push o3)[w.heap.size + 1 + 1]? = _
    rw [Array.getElem?_push, if_pos (by simp)]
theorem size3 (w : World) (o1 o2 o3 : Obj) : (((w.alloc o1).alloc o2).alloc o3).heap.size = w.heap.size + 1 + 1 + 1 := by simp
theorem blk2 {w : World} {g : Nat} {c0 c1 : Value} {t : TypeId} (h : w.heap[g]? = some (.cells #[c0, c1] t (0, 0))) :
    (w.cell? ⟨g, 0, none⟩ = some c0 ∧ w.cell? ⟨g, 1, none⟩ = some c1) ∧ (w.frozen? ⟨g, 0, none⟩ = false ∧ w.frozen? ⟨g, 1, none⟩ = false) :=
  ⟨⟨Go.Joins.cell_of_block h 0, Go.Joins.cell_of_block h 1⟩, ⟨Go.Joins.unfrozen_of_block h 0, Go.Joins.unfrozen_of_block h 1⟩⟩

/-- A net that the call itself made: its list of edges is a row of its own. -/
def OwnNet (B : Nat) (w : World) (g : Nat) (es : List EdgeV) : Prop := w.ownsRow B 41 4 (.slice (some ⟨g, 0, none⟩) es.length es.length) es.length (flat es)

set_option maxHeartbeats 1600000 in
theorem c30 (a : Option Addr) (p : Nat) (n : Int) (es : List EdgeV) (w : World) (he : Edges w a es) (hl : es.length ≤ 1048576) :
    Calls Try.prog 30 #[.agg #[.int .i64 n, .slice a es.length p]] w fun e w' =>
      ∃ g, e = .returned (.agg #[.int .i64 n, .slice (some ⟨g, 0, none⟩) es.length es.length]) ∧ OwnNet w.heap.size w' g es ∧ Below w.heap.size w w' := by
  go_enter Try.func30, Try.ntmps30
  go_wp2_with fail
  refine (c58 a p es _ (((he.below (balloc _ _)).below (balloc _ _)).below (balloc _ _)) hl).mono ?_
  rintro e w1 ⟨g, rfl, hown, hg, hb⟩
  obtain ⟨k1, k2, k3⟩ := three_blocks w (Obj.cells #[.int .i64 n, .slice a es.length p] 44) (Obj.cells #[.int .i64 0, .slice none 0 0] 26) (Obj.cells #[.int .i64 n, .slice none 0 0] 26)
  rw [size3] at hb hg hown
  have hbw : Below w.heap.size w w1 := (((balloc _ _).trans ((balloc _ _).mono (by simp))).trans ((balloc _ _).mono (by simp; omega))).trans (hb.mono (by omega))
  rw [← hb.block _ (by omega)] at k1 k2 k3
  have hs1 := hb.size
  rw [size3] at hs1
  clear hb
  subst hg
  have hs1' := owns_lt hown
  have hown' := Go.Joins.ownsRow_le hown (base' := w.heap.size) (by omega)
  obtain ⟨⟨b0, b1⟩, f0, f1⟩ := blk2 k2
  obtain ⟨⟨d0, d1⟩, e0, e1⟩ := blk2 k3
  clear k1 k2 k3 hown
  go_wp2_with fail
  refine bodyPost_ret (v := .agg #[.int .i64 n, .slice (some ⟨w.heap.size + 1 + 1 + 1, 0, none⟩) es.length es.length]) (by simp [results, Try.results30, go_sem, b0, b1]) rfl ⟨_, rfl, ?_, ?_⟩
  · exact own_set (by omega) (own_set (by omega) (own_set (by omega) hown'))
  · exact below_set (by omega) (below_set (by omega) (below_set (by omega) hbw))

/-- The cells behind a slice's address hold the numbers zs. -/
def Ints (w : World) (a : Option Addr) (zs : List Int) : Prop :=
  zs = [] ∨ ∃ b off, a = some ⟨b, off, none⟩ ∧ ∀ i, i < zs.length → w.cell? ⟨b, off + i, none⟩ = some (.int .i64 (zs.getD i 0))

theorem Ints.below {w w' : World} {a : Option Addr} {zs : List Int} (h : Ints w a zs) (hb : Below w.heap.size w w') : Ints w' a zs := by
  rcases h with h | ⟨b, off, ha, hc⟩
  · exact .inl h
  · exact .inr ⟨b, off, ha, fun i hi => (hb.cell (cell_lt (hc i hi))).trans (hc i hi)⟩

theorem Ints.of_owns {w : World} {base g n cap : Nat} {zs : List Int} (h : w.ownsRow base 3 1 (.slice (some ⟨g, 0, none⟩) n cap) n (zs.map (Value.int .i64))) : Ints w (some ⟨g, 0, none⟩) zs := by
  refine .inr ⟨g, 0, rfl, fun i hi => ?_⟩
  have hl := h.1
  simp at hl
  rw [Nat.zero_add, h.cellAt i (by omega)]
  simp [hi]

theorem info3 : (Try.prog.info? 3).map (fun i => (i.zero, i.size, i.bytes)) = some (some (.int .i64 0), 1, 8) := by kernel_rfl

theorem take_set_step (zs : List Int) (k : Nat) (hk : k < zs.length) :
    (((zs.take k).map (Value.int .i64)) ++ List.replicate (zs.length - k) (Value.int .i64 0)).set k (.int .i64 (zs.getD k 0)) =
      ((zs.take (k + 1)).map (Value.int .i64)) ++ List.replicate (zs.length - (k + 1)) (Value.int .i64 0) := by
  have e1 : zs.length - k = (zs.length - (k + 1)) + 1 := by omega
  rw [List.set_append_right _ _ (by simp; omega), e1, List.replicate_succ]
  have e2 : k - ((zs.take k).map (Value.int .i64)).length = 0 := by simp; omega
  rw [e2, List.set_cons_zero, List.take_succ_eq_append_getElem hk, List.map_append]
  simp [List.getD, hk]

set_option maxHeartbeats 800000 in
theorem c34 (a : Option Addr) (cap : Nat) (zs : List Int) (w : World) (hz : Ints w a zs) (hl : zs.length ≤ 1048576) :
    Calls Try.prog 34 #[.slice a zs.length cap] w fun e w' => ∃ g, e = .returned (.slice (some ⟨g, 0, none⟩) zs.length zs.length) ∧
      w'.ownsRow w.heap.size 3 1 (.slice (some ⟨g, 0, none⟩) zs.length zs.length) zs.length (zs.map (Value.int .i64)) ∧ g = w.heap.size ∧ Below w.heap.size w w' := by
  obtain ⟨i0, hi, hz0, hz1, hz2⟩ := info_parts info3
  go_enter Try.func34, Try.ntmps34
  go_wp2_with (at_make; refine wpList_make_full _ rfl _ _ 29 rfl w.heap.size 3 i0 (.int .i64 0) 1 Try.underlying29 hi hz0 hz1 _ _ _ _ zs.length rfl rfl rfl rfl (by rw [hz2]; omega) (by unfold maxLen; omega) (Nat.le_refl _) ?_; intro w1 hown hgrow)
  have hown' : w1.ownsRow w.heap.size 3 1 (.slice (some ⟨w.heap.size, 0, none⟩) zs.length zs.length) zs.length (((zs.take 0).map (Value.int .i64)) ++ List.replicate (zs.length - 0) (Value.int .i64 0)) := by
    simpa [toList_madeCells_one, Value.cells] using hown
  have hbel : Below w.heap.size w w1 := (Below.refl _ _).grown hgrow (Nat.le_refl _) (fun k hk => by cases hk)
  clear hown hgrow
  go_loopw [4] (fun i wr => ∃ k : Nat, k ≤ zs.length ∧ i = .int .i64 k ∧ wr.ownsRow w.heap.size 3 1 (.slice (some ⟨w.heap.size, 0, none⟩) zs.length zs.length) zs.length (((zs.take k).map (Value.int .i64)) ++ List.replicate (zs.length - k) (Value.int .i64 0)) ∧ Below w.heap.size w wr) (fun i _ => zs.length - (intOf i).toNat)
  case atStart => exact ⟨0, Nat.zero_le _, rfl, hown', hbel⟩
  case round =>
    obtain ⟨k, hk, rfl, hown, hb⟩ := hrel
    by_cases hlt : k < zs.length
    · have hfr := hown.frozenAt k
      have hcw : wr.cell? ⟨w.heap.size, k, none⟩ = some (.int .i64 0) := by
        rw [hown.cellAt k (by omega), List.getElem?_append_right (by simp; omega)]
        simp [List.getElem?_replicate]
        omega
      obtain ⟨hown2, _⟩ := hown.stored k (.int .i64 zs[k])
      have e0 : zs.getD k 0 = zs[k] := by simp [List.getD, hlt]
      rw [← e0, take_set_step zs k hlt, e0] at hown2
      have hb2 : Below w.heap.size w (wr.setCell ⟨w.heap.size, k, none⟩ (.int .i64 zs[k])) := hb.setCell (Nat.le_refl _) _
      rcases hz with hz | ⟨b, off, rfl, hc⟩
      · simp [hz] at hlt
      · have hck : wr.cell? ⟨b, off + k, none⟩ = some (.int .i64 zs[k]) := ((hb.cell (cell_lt (hc k hlt))).trans (hc k hlt)).trans (by rw [e0])
        clear hown hown' hbel e0 hc
        go_wp2
        go_roundw
        case rel => exact ⟨k + 1, by omega, by go_num, hown2, hb2⟩
        case measure => simp [intOf]; omega
    · have hkk : k = zs.length := by omega
      subst hkk
      have hown2 : wr.ownsRow w.heap.size 3 1 (.slice (some ⟨w.heap.size, 0, none⟩) zs.length zs.length) zs.length (zs.map (Value.int .i64)) := by simpa using hown
      clear hown hown' hbel hz
      go_wp2
      go_ret
      exact ⟨_, rfl, hown2, rfl, hb⟩

set_option maxHeartbeats 800000 in
theorem c35 (a1 a2 : Option Addr) (c1 c2 : Nat) (xs ys : List Int) (w : World) (h1 : Ints w a1 xs) (h2 : Ints w a2 ys) (hl1 : xs.length ≤ maxLen) (hl2 : ys.length ≤ maxLen) (hxy : xs = ys) :
    Calls Try.prog 35 #[.slice a1 xs.length c1, .slice a2 ys.length c2] w fun e w' => e = .returned (.bool true) ∧ ∃ q, w' = w.drewN q := by
  subst hxy
  unfold maxLen at hl1
  clear hl2
  go_enter Try.func35, Try.ntmps35
  go_wp2
  go_loopw [5] (fun i wr => ∃ k q : Nat, k ≤ xs.length ∧ i = .int .i64 k ∧ wr = w.drewN q) (fun i _ => xs.length - (intOf i).toNat)
  case atStart => exact ⟨0, 0, Nat.zero_le _, rfl, rfl⟩
  case round =>
    obtain ⟨k, q, hk, rfl, rfl⟩ := hrel
    by_cases hlt : k < xs.length
    · rcases h1 with h1 | ⟨b1, o1, rfl, hc1⟩
      · simp [h1] at hlt
      rcases h2 with h2 | ⟨b2, o2, rfl, hc2⟩
      · simp [h2] at hlt
      have hk1 := hc1 k hlt
      have hk2 := hc2 k hlt
      clear hc1 hc2
      go_wp2
      go_quiet (fail)
      go_wp2
      go_roundw
      case rel => exact ⟨k + 1, _, by omega, by go_num, rfl⟩
      case measure => simp [intOf]; omega
    · go_wp2
      go_ret
      exact ⟨rfl, _, rfl⟩

theorem OwnNet.below {B g : Nat} {w w' : World} {es : List EdgeV} (h : OwnNet B w g es) (hb : Below w.heap.size w w') : OwnNet B w' g es := owns_below h hb
theorem OwnNet.edges {B g : Nat} {w : World} {es : List EdgeV} (h : OwnNet B w g es) : Edges w (some ⟨g, 0, none⟩) es := Edges.of_owns h
theorem Bx2.mk {w w1 : World} {c0 c1 : Value} {t : TypeId} (h : Below (w.alloc (.cells #[c0, c1] t)).heap.size (w.alloc (.cells #[c0, c1] t)) w1) : Bx2 w1 w.heap.size c0 c1 := (Bx2.new w c0 c1 t).below h

set_option maxHeartbeats 1600000 in
theorem walk6 (a : Option Addr) (p : Nat) (n : Int) (es : List EdgeV) (w : World) (he : Edges w a es) (hn : es.length ≤ maxLen) :
    Calls Try.prog 6 #[.agg #[.int .i64 n, .slice a es.length p]] w fun e w' => e = .returned (.bool true) ∧ Below w.heap.size w w' := by
  go_enter Try.func6, Try.ntmps6
  go_wp2_with fail
  refine (c28 a es.length p _ 1048576 _ (by omega) (by omega) hn).mono ?_
  rintro e w1 ⟨r, rfl, hr, hb⟩
  have HB := btrans (balloc _ _) hb
  have X1 := Bx2.mk hb
  clear hb
  rcases hr with rfl | ⟨hr, hr0⟩
  · go_wp2
    go_ret
    exact ⟨rfl, HB⟩
  · have hl : es.length ≤ 1048576 := by omega
    clear hr
    obtain ⟨b0, b1⟩ := id X1
    go_wp2_with fail
    clear b0 b1
    refine (c30 a p n es _ (he.below HB) hl).mono ?_
    rintro e w2 ⟨g1, rfl, hop, hb2⟩
    have HB2 := btrans HB hb2
    have X2 := X1.below hb2
    clear hb2 HB X1
    go_wp2_with fail
    refine (c29 _ _ n es _ hop.edges hl).mono ?_
    rintro e w3 ⟨rfl, hb3⟩
    have HB3 := btrans HB2 hb3
    have X3 := X2.below hb3
    clear hb3 HB2 hop X2
    obtain ⟨b0, b1⟩ := id X3
    go_wp2_with fail
    clear b0 b1
    refine (c30 a p n es _ (he.below HB3) hl).mono ?_
    rintro e w4 ⟨g2, rfl, hop, hb4⟩
    have HB4 := btrans HB3 hb4
    have X4 := X3.below hb4
    clear hb4 HB3 X3
    go_wp2_with fail
    refine (c31 _ _ n es _ (hop.edges.below (balloc _ _)) hl).mono ?_
    rintro e w5 ⟨rfl, hb5⟩
    have Y5 := Bx2.mk hb5
    have hop5 := (hop.below (balloc _ _)).below hb5
    have X5 := (X4.below (balloc _ _)).below hb5
    have HB5 := btrans (btrans HB4 (balloc _ _)) hb5
    clear hb5 HB4 X4 hop
    obtain ⟨b0, b1⟩ := id X5
    obtain ⟨d0, d1⟩ := id Y5
    go_wp2_with fail
    go_region_with (first
      | (go_at_call 30; refine (c30 a p n es _ (he.below HB5.drew) hl).mono ?_; rintro e w6 ⟨g5, rfl, hop6, hb6⟩; have HB6 := btrans HB5 (undrew hb6); have hop5' := hop5.below (undrew hb6); obtain ⟨y0, y1⟩ := Y5.below (undrew hb6))
      | (go_at_call 32; refine (c32 _ _ _ _ n es _ hop5'.edges hop6.edges hl).mono ?_; rintro e w7 ⟨rfl, hb7⟩))
    all_goals go_wp2
    all_goals go_ret
    all_goals exact ⟨rfl, btrans HB6 hb7⟩
end Go.Proofs.Ytengfldiiceieaa
