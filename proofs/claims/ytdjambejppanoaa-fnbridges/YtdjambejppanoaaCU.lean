/- Cut: the net without one edge, of both. -/
import Derived.Test.YtdjambejppanoaaNM2
import Derived.Test.YtdjambejppanoaaGE
import Derived.Deep.RegionLaw
import Derived.Deep.AppendLies
import Derived.Lib.AppendZeros
import Derived.Deep.RegionHeld3
namespace Go.Proofs.Ytdjambejppanoaa
open Go.RowKit
theorem net_n {n : Int} {es : List EdgeV} (h : netB n es = true) : 1 ≤ n ∧ n ≤ 30 ∧ es.length ≤ 60 := by
  obtain ⟨-, h1, h2⟩ := net_rg h
  exact ⟨h1.1, h1.2, h2⟩


def placeB (len : Nat) (x : Int) : Bool := inB x 0 ((len : Int) - 1)

set_option maxHeartbeats 400000 in
theorem cHasEdge (n : Value) (a : Option Addr) (len cap : Nat) (x : Int) (w : World) : Calls Try.prog 47 #[.agg #[n, .slice a len cap], .int .i64 x] w fun e w' => e = .returned (.bool (placeB len x)) ∧ Below w.heap.size w w' := by
  have E : Hid (placeB len x = decide (0 ≤ x ∧ x ≤ (len : Int) - 1)) := rfl
  have hW := balloc w
  by_cases h1 : 0 ≤ x
  · by_cases h2 : x < len
    · go_enter Try.func47, Try.ntmps47
      go_wp2
      go_ret
      exact ⟨ret_bool (by rw [E.out]; symm; simp; omega), hW _⟩
    · go_enter Try.func47, Try.ntmps47
      go_wp2
      go_ret
      exact ⟨ret_bool (by rw [E.out]; symm; simp; omega), hW _⟩
  · go_enter Try.func47, Try.ntmps47
    go_wp2
    go_ret
    exact ⟨ret_bool (by rw [E.out]; symm; simp; omega), hW _⟩

theorem blk_below {w w1 : World} {g : Nat} {o : Obj} (h : w.heap[g]? = some o) (hb : Below w.heap.size w w1) : w1.heap[g]? = some o := (hb.block g (lt_of_block h)).trans h
theorem blk_new (w : World) (o : Obj) : (w.alloc o).heap[w.heap.size]? = some o := by show (w.heap.push _)[w.heap.size]? = _; rw [Array.getElem?_push, if_pos rfl]
theorem blk_new1 (w : World) (o o' : Obj) : ((w.alloc o).alloc o').heap[w.heap.size + 1]? = some o' := by
  have h := blk_new (w.alloc o) o'
  rwa [sz1] at h



/-- A net that is put together in a block of its own behind the world W0; all older memory is as it was. -/
structure OutN (W0 wr : World) (n : Int) (ao : Option Addr) (cp : Nat) (xs : List EdgeV) : Prop where
  bel : Below W0.heap.size W0 wr
  out : wr.heap[W0.heap.size]? = some (.cells #[.int .i64 n, .slice ao xs.length cp] 26 (0, 0))
  own : wr.ownsRow (W0.heap.size + 1) 41 4 (.slice ao xs.length cp) xs.length (flatEdges xs)

theorem OutN.new (W0 : World) (n : Int) : OutN W0 (W0.alloc (.cells #[.int .i64 n, .slice none 0 0] 26)) n none 0 [] :=
  ⟨balloc _ _, blk_new _ _, World.ownsRow_nil _ _ _ _⟩
theorem OutN.lt {W0 wr : World} {n : Int} {ao : Option Addr} {cp : Nat} {xs : List EdgeV} (h : OutN W0 wr n ao cp xs) : W0.heap.size < wr.heap.size := lt_of_block h.out
theorem own_ge {w : World} {base e sz n : Nat} {v : Value} {xs : List Value} (h : w.ownsRow base e sz v n xs) : ∀ k, v.ownBlock = some k → base ≤ k := fun k hk => (h.lt k hk).1
theorem ne_own {v : Value} {B b : Nat} (h : ∀ k, v.ownBlock = some k → B ≤ k) (hb : b < B) : some b ≠ v.ownBlock := fun e => by have := h b e.symm; omega

theorem OutN.push {W0 wr : World} {n : Int} {ao : Option Addr} {cp : Nat} {xs : List EdgeV} (h : OutN W0 wr n ao cp xs) {o : Obj} {g cap : Nat} {w2 : World} {x : EdgeV}
    (hown : w2.ownsRow (W0.heap.size + 1) 41 4 (.slice (some ⟨g, 0, none⟩) (xs.length + 1) cap) (xs.length + 1) (flatEdges xs ++ x.vs)) (hgrow : (wr.drew.alloc o).grownBy w2 (Value.slice ao xs.length cp).ownBlock) :
    OutN W0 (w2.setCell ⟨W0.heap.size, 1, none⟩ (.slice (some ⟨g, 0, none⟩) (xs.length + 1) cap)) n (some ⟨g, 0, none⟩) cap (xs ++ [x]) := by
  have hU := h.lt
  have hge := own_ge h.own
  have hD : wr.drew.heap.size = wr.heap.size := rfl
  have hblk : ∀ k, k ≤ W0.heap.size → w2.heap[k]? = wr.heap[k]? := fun k hk =>
    (hgrow.block k (by simp; omega) (fun e => by have := hge k e.symm; omega)).trans (Below.heap_alloc wr.drew o k (by omega))
  have hbel : Below W0.heap.size W0 w2 := (h.bel.drew.alloc (by rw [hD]; exact h.bel.size) o).grown hgrow (by have := h.bel.size; simp; omega) (fun k e => by have := hge k e; omega)
  have hlen : (xs ++ [x]).length = xs.length + 1 := by simp
  refine ⟨hbel.setCell (by simp) _, ?_, ?_⟩
  · have := Go.Joins.block_setCell (i := 1) ((hblk _ (Nat.le_refl _)).trans h.out) (.slice (some ⟨g, 0, none⟩) (xs.length + 1) cap)
    rw [hlen]; simpa using this
  · rw [hlen, flatEdges_app]
    have e : flatEdges [x] = x.vs := by simp [flatEdges]
    rw [e]; exact ownsRow_setCell_below hown (by simp) _

theorem OutN.after {W0 wr : World} {n : Int} {ao : Option Addr} {cp : Nat} {xs : List EdgeV} (h : OutN W0 wr n ao cp xs) {o : Obj} {w2 : World} (hgrow : (wr.drew.alloc o).grownBy w2 (Value.slice ao xs.length cp).ownBlock) :
    w2.cell? ⟨W0.heap.size, 1, none⟩ = some (.slice ao xs.length cp) ∧ w2.frozen? ⟨W0.heap.size, 1, none⟩ = false := by
  have hU := h.lt
  have hge := own_ge h.own
  have hD : wr.drew.heap.size = wr.heap.size := rfl
  have hb : w2.heap[W0.heap.size]? = wr.heap[W0.heap.size]? := (hgrow.block _ (by simp; omega) (fun e => by have := hge _ e.symm; omega)).trans (Below.heap_alloc wr.drew o _ (by omega))
  obtain ⟨⟨_, b⟩, _, d⟩ := blk2 (hb.trans h.out)
  exact ⟨b, d⟩

theorem OutN.far {W0 wr : World} {n : Int} {ao : Option Addr} {cp : Nat} {xs : List EdgeV} (h : OutN W0 wr n ao cp xs) {o : Obj} {w2 : World} (hgrow : (wr.drew.alloc o).grownBy w2 (Value.slice ao xs.length cp).ownBlock) {b i : Nat} {v : Value} (hb : b ≤ W0.heap.size) (hc : wr.cell? ⟨b, i, none⟩ = some v) :
    w2.cell? ⟨b, i, none⟩ = some v := by
  have hU := h.lt
  have hge := own_ge h.own
  have hD : wr.drew.heap.size = wr.heap.size := rfl
  have hb : w2.heap[b]? = wr.heap[b]? := (hgrow.block _ (by simp; omega) (fun e => by have := hge _ e.symm; omega)).trans (Below.heap_alloc wr.drew o _ (by omega))
  exact (World.cell?_of_block hb).trans hc

/-- The edges without the one at place q, of the first k. -/
def cutTo (es : List EdgeV) (q k : Nat) : List EdgeV := (es.take k).eraseIdx q
theorem cutTo_step {es : List EdgeV} {q k : Nat} (hk : k < es.length) (h : k ≠ q) : cutTo es q (k + 1) = cutTo es q k ++ [es[k]] := by
  unfold cutTo
  rw [List.take_succ_eq_append_getElem hk]
  by_cases hlt : q < k
  · rw [List.eraseIdx_append_of_lt_length (by simp; omega)]
  · rw [List.eraseIdx_of_length_le (by simp; omega), List.eraseIdx_of_length_le (by simp; omega)]
theorem cutTo_at {es : List EdgeV} {q : Nat} (hq : q < es.length) : cutTo es q (q + 1) = cutTo es q q := by
  unfold cutTo
  rw [List.take_succ_eq_append_getElem hq, List.eraseIdx_append_of_length_le (by simp; omega), List.eraseIdx_of_length_le (l := es.take q) (by simp; omega)]
  have : q - (es.take q).length = 0 := by simp; omega
  rw [this]; simp
theorem cutTo_all (es : List EdgeV) (q : Nat) : cutTo es q es.length = es.eraseIdx q := by simp [cutTo]
theorem cutTo_len (es : List EdgeV) (q k : Nat) : (cutTo es q k).length ≤ k := by
  have := List.length_eraseIdx_le (es.take k) q
  simp at this
  unfold cutTo; omega

/-- The net without the edge at place p: its nodes and edges; the zero value where there is no such. -/
def cutN (n : Int) (es : List EdgeV) (p : Int) : Int := if netB n es = true ∧ placeB es.length p = true then n else 0
def cutE (n : Int) (es : List EdgeV) (p : Int) : List EdgeV := if netB n es = true ∧ placeB es.length p = true then es.eraseIdx p.toNat else []

/-- A net as an answer: its edges are a row of its own. -/
def AnsNet (w : World) (n : Int) (es : List EdgeV) (e : Ending) (w' : World) : Prop :=
  ∃ ao cp, e = .returned (.agg #[.int .i64 n, .slice ao es.length cp]) ∧ w'.ownsRow w.heap.size 41 4 (.slice ao es.length cp) es.length (flatEdges es) ∧ Below w.heap.size w w'

set_option maxRecDepth 100000 in
set_option maxHeartbeats 3200000 in
theorem cCutS (a : Option Addr) (p : Nat) (n x : Int) (es : List EdgeV) (w : World) (he : Edges w a es) (hl : es.length ≤ 1048576) :
    Calls Try.prog 46 #[.agg #[.int .i64 n, .slice a es.length p], .int .i64 x] w (AnsNet w (cutN n es x) (cutE n es x)) := by
  have hW := btrans (balloc w (.cells #[.int .i64 n, .slice a es.length p] 26)) (balloc _ (.cells #[.int .i64 0, .slice none 0 0] 26))
  have X0 := (Bx2.new w (.int .i64 n) (.slice a es.length p) 26).below (balloc _ (.cells #[.int .i64 0, .slice none 0 0] 26))
  have K0 := blk_new1 w (.cells #[.int .i64 n, .slice a es.length p] 26) (.cells #[.int .i64 0, .slice none 0 0] 26)
  have E0 := he.below hW
  by_cases hgate : netB n es = true ∧ placeB es.length x = true
  · rw [show cutN n es x = n from if_pos hgate, show cutE n es x = es.eraseIdx x.toNat from if_pos hgate]
    obtain ⟨hn, hx⟩ := hgate
    have hx' : inB x 0 ((es.length : Int) - 1) = true := hx
    obtain ⟨q, hq⟩ : ∃ q : Nat, x = q := ⟨x.toNat, by have := (inB_true hx').1; omega⟩
    subst hq
    have hql : q < es.length := by have := (inB_true hx').2; omega
    obtain ⟨hn1, hn2, hn3⟩ := net_n hn
    rw [Int.toNat_natCast]
    obtain ⟨i0, hi, hz0, hz1, hz2⟩ := info_parts infoEdges
    go_enter Try.func46, Try.ntmps46
    go_wp2_with fail
    refine (cNetS a p n es _ E0 hl).mono ?_
    rintro e W0 ⟨rfl, hb1⟩
    have HB := btrans hW hb1
    have X1 := X0.below hb1
    have K1 := blk_below K0 hb1
    obtain ⟨x0, x1⟩ := id X1
    rw [hn]
    clear hb1 X0 K0 hW E0
    go_wp2_with (go_at_call 41; refine (cIn _ _ _ _).mono ?_; rintro e W0 ⟨rfl, rfl⟩)
    clear x0 x1
    go_loopw [6] (fun i wr => ∃ (k : Nat) (ao : Option Addr) (cp : Nat), k ≤ es.length ∧ i = .int .i64 k ∧ OutN W0 wr n ao cp (cutTo es q k)) (fun i _ => es.length - (intOf i).toNat)
    case atStart => exact ⟨0, none, 0, Nat.zero_le _, rfl, by simpa [cutTo] using OutN.new W0 n⟩
    case round =>
      obtain ⟨k, ao, cp, hk, rfl, L⟩ := hrel
      have X := X1.below L.bel
      obtain ⟨x0, x1⟩ := id X
      have hT := L.lt
      have hKl := lt_of_block K1
      have hcl := cutTo_len es q k
      obtain ⟨⟨t0, t1⟩, g0, g1⟩ := blk2 L.out
      by_cases hlt : k < es.length
      · by_cases hkq : k = q
        · subst hkq
          have S := cutTo_at hql
          go_wp2
          go_roundw
          case rel => exact ⟨k + 1, ao, cp, by omega, by go_num, by rw [S]; exact L⟩
          case measure => simp [intOf]; omega
        · have S := hide (cutTo_step hlt hkq)
          rcases he with he | ⟨b, off, rfl, hc⟩
          · simp [he] at hlt
          obtain ⟨q0, q1, q2, q3⟩ := hc k hlt
          have fin := btrans HB L.bel
          have p0 := ble fin q0
          have p1 := ble fin q1
          have p2 := ble fin q2
          have p3 := ble fin q3
          have hbl : b < W0.heap.size := cell_lt (ble HB q0)
          have e0 : es.getD k EdgeV.zero = es[k] := by simp [List.getD, hlt]
          rw [e0] at p0 p1 p2 p3
          clear hc q0 q1 q2 q3 e0
          have hge := own_ge L.own
          have hkq' : ¬ ((k : Int) = (q : Int)) := by omega
          have hk0 : (0 : Int) ≤ (k : Int) := Int.natCast_nonneg _
          have hk1 : (k : Int) < (es.length : Int) := by omega
          have hne1 : w.heap.size ≠ W0.heap.size := by omega
          have hne2 : b ≠ W0.heap.size := by omega
          generalize hcs : cutTo es q k = cs at *
          go_wp2_with fail
          go_region_law
            ((refine step_append_lies _ (by rfl) _ _ _ (by rfl) (W0.heap.size + 1) 41 i0 _ 4 32 Try.underlying24 hi hz0 hz1 hz2 rfl (by omega) (.slice ao cs.length cp) cs.length (flatEdges cs) (by rfl) ((L.own.drew).alloc _)
                ⟨wr.heap.size, 0, none⟩ 1 1 es[k].vs (by rfl) (by rfl) (World.news_of_block (cs := #[.int .i64 es[k].a, .int .i64 es[k].b, .int .i64 es[k].l, .int .i64 es[k].m]) (t := 41) (fr := (0, 0)) (heap_alloc_new wr.drew _)) (by simp [EdgeV.vs, Value.oneCell'])
                (by omega) (by unfold maxLen; omega) (by omega) (by simp; omega) (wr.heap.size + 1) (by simp) ?_; intro g cap w2 hown hgrow hat hlt2; obtain ⟨y1, z1⟩ := L.after hgrow; have s0 := L.far hgrow (by omega) x1; have s1 := L.far hgrow (by omega) p0; have s2 := L.far hgrow (by omega) p1; have s3 := L.far hgrow (by omega) p2; have s4 := L.far hgrow (by omega) p3))
          all_goals have L2 := L.push hown hgrow
          all_goals rw [← S.out] at L2
          all_goals clear hown hgrow hat y1 z1 s0 s1 s2 s3 s4
          all_goals go_wp2
          all_goals go_roundw
          all_goals first | exact ⟨k + 1, some ⟨g, 0, none⟩, cap, by omega, by go_num, by simpa using L2⟩ | (simp [intOf]; omega)
      · have hkk : k = es.length := by omega
        subst hkk
        rw [cutTo_all] at L t1
        have K := blk_below K1 L.bel
        obtain ⟨⟨b0, b1⟩, f0, f1⟩ := blk2 K
        have fin := btrans HB L.bel
        have hW0 := HB.size
        clear he
        go_wp2
        refine bodyPost_ret (v := .agg #[.int .i64 n, .slice ao (es.eraseIdx q).length cp]) (by simp [results, Try.results46, go_sem, b0, b1]) rfl ⟨ao, cp, rfl, ?_, ?_⟩
        · exact Go.Joins.ownsRow_le (ownsRow_setCell_below (ownsRow_setCell_below L.own (by simp; omega) _) (by simp; omega) _) (by omega)
        · exact below_set (by omega) (below_set (by omega) fin)
  · rw [show cutN n es x = 0 from if_neg hgate, show cutE n es x = [] from if_neg hgate]
    cases hn : netB n es
    · go_enter Try.func46, Try.ntmps46
      go_wp2_with fail
      refine (cNetS a p n es _ E0 hl).mono ?_
      rintro e w1 ⟨rfl, hb1⟩
      have HB1 := btrans hW hb1
      obtain ⟨⟨b0, b1⟩, f0, f1⟩ := blk2 (blk_below K0 hb1)
      rw [hn]
      clear hb1
      go_wp2
      refine bodyPost_ret (v := .agg #[.int .i64 0, .slice none 0 0]) (by simp [results, Try.results46, go_sem, b0, b1]) rfl ⟨none, 0, rfl, World.ownsRow_nil _ _ _ _, ?_⟩
      exact below_set (by omega) (below_set (by omega) HB1)
    · have hx : inB x 0 ((es.length : Int) - 1) = false := by
        cases h : inB x 0 ((es.length : Int) - 1)
        · rfl
        · exact absurd ⟨hn, h⟩ hgate
      obtain ⟨hn1, hn2, hn3⟩ := net_n hn
      go_enter Try.func46, Try.ntmps46
      go_wp2_with fail
      refine (cNetS a p n es _ E0 hl).mono ?_
      rintro e w1 ⟨rfl, hb1⟩
      have HB1 := btrans hW hb1
      obtain ⟨x0, x1⟩ := X0.below hb1
      obtain ⟨⟨b0, b1⟩, f0, f1⟩ := blk2 (blk_below K0 hb1)
      rw [hn]
      clear hb1 hgate
      go_wp2_with (go_at_call 41; refine (cIn _ _ _ _).mono ?_; rintro e w1 ⟨rfl, rfl⟩)
      refine bodyPost_ret (v := .agg #[.int .i64 0, .slice none 0 0]) (by simp [results, Try.results46, go_sem, b0, b1]) rfl ⟨none, 0, rfl, World.ownsRow_nil _ _ _ _, ?_⟩
      exact below_set (by omega) (below_set (by omega) HB1)


set_option maxRecDepth 100000 in
set_option maxHeartbeats 1600000 in
theorem cGrowE (n : Nat) (w : World) (hn : n ≤ 1048576) :
    Calls Try.prog 62 #[.slice none 0 0, .int .i64 n] w fun e w' => ∃ v, e = .returned v ∧ w'.ownsRow w.heap.size 41 4 v 0 [] ∧ Below w.heap.size w w' := by
  obtain ⟨i0, hi, hz0, hz1, hz2⟩ := info_parts infoEdges
  by_cases h0 : n = 0
  · subst h0
    go_enter Try.func62, Try.ntmps62
    go_wp2
    go_ret
    exact ⟨_, rfl, World.ownsRow_nil _ _ _ _, Below.refl _ _⟩
  · have h0' : (0 : Int) < (n : Int) := by omega
    have hr : ∀ ty, Hid _ := fun ty => hide (Go.Lib.run_append_nil_zeros (P := Try.prog) w 24 3 ty 41 i0 (.agg #[.int .i64 0, .int .i64 0, .int .i64 0, .int .i64 0]) .i64 .i64 Try.underlying24 Try.underlying3 hi hz0 n (by omega) (by omega) (by omega) (by rw [hz2]; omega))
    go_enter Try.func62, Try.ntmps62
    go_wp2_with (at_builtin; refine Go.Lib.wpList_append_run _ rfl _ _ _ _ rfl _ _ rfl rfl _ _ (hr _).out ?_)
    go_ret
    have hcap : n ≤ grownCap w n 0 41 := grownCap_ge w n 0 41
    refine ⟨_, rfl, World.ownsRow_made w.drew _ (grownCap w n 0 41) (Nat.le_refl _) (grownCap_le_maxLen w n 0 41 (by unfold maxLen; omega)) ?_, btrans (Below.refl _ w).drew (balloc w.drew _)⟩
    rw [Array.size_append, size_zeroCells, size_zeroCells]
    simp
    omega

/-- Two slices of edges handed over as a row of slices. -/
theorem flatE_take (es : List EdgeV) : ∀ q, flatEdges (es.take q) = (flatEdges es).take (q * 4) := by
  induction es with
  | nil => intro q; simp [flatEdges]
  | cons e es ih =>
    intro q
    cases q with
    | zero => simp [flatEdges]
    | succ q =>
      have e1 : (q + 1) * 4 = q * 4 + 1 + 1 + 1 + 1 := by omega
      rw [List.take_succ_cons, flatEdges_cons, flatEdges_cons, ih, e1]
      simp
theorem flatE_drop (es : List EdgeV) : ∀ q, flatEdges (es.drop q) = (flatEdges es).drop (q * 4) := by
  induction es with
  | nil => intro q; simp [flatEdges]
  | cons e es ih =>
    intro q
    cases q with
    | zero => simp
    | succ q =>
      have e1 : (q + 1) * 4 = q * 4 + 1 + 1 + 1 + 1 := by omega
      rw [List.drop_succ_cons, flatEdges_cons, ih, e1]
      simp

/-- The cells of a slice of edges, one by one. -/
def FlatAt (w : World) (b off : Nat) (es : List EdgeV) : Prop := ∀ j u, (flatEdges es)[j]? = some u → w.cell? ⟨b, off + j, none⟩ = some u
theorem flatE_mem {es : List EdgeV} {u : Value} (h : u ∈ flatEdges es) : ∃ x, u = .int .i64 x := by
  simp only [flatEdges, List.mem_flatMap, EdgeV.vs, List.mem_cons, List.not_mem_nil, or_false] at h
  obtain ⟨e, _, h | h | h | h⟩ := h <;> exact ⟨_, h⟩
theorem FlatAt.of_edges {w : World} {b off : Nat} {es : List EdgeV} (h : ∀ i, i < es.length → w.cell? ⟨b, off + i * 4, none⟩ = some (.int .i64 (es.getD i EdgeV.zero).a) ∧
    w.cell? ⟨b, off + i * 4 + 1, none⟩ = some (.int .i64 (es.getD i EdgeV.zero).b) ∧ w.cell? ⟨b, off + i * 4 + 2, none⟩ = some (.int .i64 (es.getD i EdgeV.zero).l) ∧ w.cell? ⟨b, off + i * 4 + 3, none⟩ = some (.int .i64 (es.getD i EdgeV.zero).m)) : FlatAt w b off es := by
  intro j u hu
  have hj : j < (flatEdges es).length := (List.getElem?_eq_some_iff.1 hu).1
  rw [flatEdges_len] at hj
  have hi : j / 4 < es.length := by omega
  have f := flatEdges_get es (j / 4) hi
  have g := h (j / 4) hi
  have h4 : j % 4 < 4 := Nat.mod_lt _ (by omega)
  have e : j = j / 4 * 4 + j % 4 := by omega
  generalize j % 4 = r at *
  generalize j / 4 = i at *
  subst e
  match r, h4 with
  | 0, _ => rw [Nat.add_zero] at hu ⊢; rw [f.1] at hu; rw [← hu]; exact g.1
  | 1, _ => rw [f.2.1] at hu; rw [← hu, ← Nat.add_assoc]; exact g.2.1
  | 2, _ => rw [f.2.2.1] at hu; rw [← hu, ← Nat.add_assoc]; exact g.2.2.1
  | 3, _ => rw [f.2.2.2] at hu; rw [← hu, ← Nat.add_assoc]; exact g.2.2.2
theorem FlatAt.below {w w1 : World} {b off : Nat} {es : List EdgeV} (h : FlatAt w b off es) (hb : Below w.heap.size w w1) : FlatAt w1 b off es := fun j u hu => ble hb (h j u hu)
theorem FlatAt.take {w : World} {b off : Nat} {es : List EdgeV} (h : FlatAt w b off es) (q : Nat) : FlatAt w b off (es.take q) := by
  intro j u hu
  rw [flatE_take, List.getElem?_take] at hu
  split at hu
  · exact h j u hu
  · cases hu
theorem FlatAt.drop {w : World} {b off : Nat} {es : List EdgeV} (h : FlatAt w b off es) (q : Nat) : FlatAt w b (off + q * 4) (es.drop q) := by
  intro j u hu
  rw [flatE_drop, List.getElem?_drop] at hu
  rw [Nat.add_assoc]
  exact h _ u hu
theorem add_off (b off j : Nat) : (⟨b, off, none⟩ : Addr).add j = ⟨b, off + j, none⟩ := by
  by_cases h : j = 0
  · subst h; simp [Addr.add]
  · simp [Addr.add, h]

/-- What Concat has put together behind k of two slices. -/
def preE (xs ys : List EdgeV) : Nat → List EdgeV
  | 0 => []
  | 1 => xs
  | _ => xs ++ ys

set_option maxRecDepth 100000 in
set_option maxHeartbeats 3200000 in
theorem cConcatE (g b1 o1 p1 b2 o2 p2 : Nat) (xs ys : List EdgeV) (w : World) (h1 : FlatAt w b1 o1 xs) (h2 : FlatAt w b2 o2 ys) (hl1 : xs.length ≤ 60) (hl2 : ys.length ≤ 60)
    (hg0 : w.cell? ⟨g, 0, none⟩ = some (.slice (some ⟨b1, o1, none⟩) xs.length p1)) (hg1 : w.cell? ⟨g, 1, none⟩ = some (.slice (some ⟨b2, o2, none⟩) ys.length p2)) :
    Calls Try.prog 48 #[.slice (some ⟨g, 0, none⟩) 2 2] w fun e w' => ∃ ao cp, e = .returned (.slice ao (xs ++ ys).length cp) ∧ w'.ownsRow w.heap.size 41 4 (.slice ao (xs ++ ys).length cp) (xs ++ ys).length (flatEdges (xs ++ ys)) ∧ Below w.heap.size w w' := by
  obtain ⟨i0, hi, hz0, hz1, hz2⟩ := info_parts infoEdges
  go_enter Try.func48, Try.ntmps48
  go_wp2
  go_loop [3, 5, 11] (fun s _ i => ∃ k : Nat, k ≤ 2 ∧ i = .int .i64 k ∧ s = .int .i64 (preE xs ys k).length) (fun _ _ i => 2 - (intOf i).toNat)
  case atStart => exact ⟨0, by omega, rfl, rfl⟩
  case round =>
    obtain ⟨k, hk, rfl, rfl⟩ := hrel
    have hk' : k = 0 ∨ k = 1 ∨ k = 2 := by omega
    rcases hk' with rfl | rfl | rfl
    · have e0 : (preE xs ys 0).length = 0 := rfl
      rw [e0]
      go_wp2
      go_round
      case rel => exact ⟨1, by omega, rfl, by simp [preE]⟩
      case measure => simp [intOf]
    · have e1 : (preE xs ys 1).length = xs.length := rfl
      rw [e1]
      go_wp2
      go_round
      case rel => exact ⟨2, by omega, rfl, by simp [preE]⟩
      case measure => simp [intOf]
    · have e1 : (preE xs ys 2).length = xs.length + ys.length := by simp [preE]
      rw [e1]
      go_wp2_with fail
      rw [← Int.natCast_add]
      refine (cGrowE (xs.length + ys.length) w (by omega)).mono ?_
      rintro e w1 ⟨v, rfl, hown0, hb0⟩
      clear e1
      go_wp2
      go_loopw [6, 8, 27] (fun v _ i wr => ∃ k : Nat, k ≤ 2 ∧ i = .int .i64 k ∧ wr.ownsRow w.heap.size 41 4 v (preE xs ys k).length (flatEdges (preE xs ys k)) ∧ Below w.heap.size w wr) (fun _ _ i _ => 2 - (intOf i).toNat)
      case atStart => exact ⟨0, by omega, rfl, hown0, hb0⟩
      case round =>
        obtain ⟨k, hk, rfl, hown, hb⟩ := hrel
        have G1 := h1.below hb
        have G2 := h2.below hb
        have g0 := ble hb hg0
        have g1 := ble hb hg1
        have hk' : k = 0 ∨ k = 1 ∨ k = 2 := by omega
        rcases hk' with rfl | rfl | rfl
        · have e1 : (preE xs ys 0).length = 0 := rfl
          go_wp2_with (at_builtin; refine wpList_append_own _ rfl _ _ _ rfl w.heap.size 41 i0 (.agg #[.int .i64 0, .int .i64 0, .int .i64 0, .int .i64 0]) 4 32 Try.underlying24 hi hz0 hz1 hz2 rfl (by decide) u6 (preE xs ys 0).length (flatEdges (preE xs ys 0)) rfl hown ⟨b1, o1, none⟩ xs.length p1 (flatEdges xs) rfl (flatEdges_len _) (by intro j u hj; rw [add_off]; exact G1 j u hj) (by intro u hu; obtain ⟨x, rfl⟩ := flatE_mem hu; rfl) (by rw [e1]; unfold maxLen; omega) (by rw [e1]; omega) hb.size ?_; intro v' w' hown' hgrow hiff)
          have hb' : Below w.heap.size w w' := hb.grown hgrow hb.size (own_ge hown)
          clear hgrow hiff hown
          go_roundw
          case rel => exact ⟨1, by omega, rfl, by simpa [preE, flatEdges] using hown', hb'⟩
          case measure => simp [intOf]
        · have e1 : (preE xs ys 1).length = xs.length := rfl
          go_wp2_with (at_builtin; refine wpList_append_own _ rfl _ _ _ rfl w.heap.size 41 i0 (.agg #[.int .i64 0, .int .i64 0, .int .i64 0, .int .i64 0]) 4 32 Try.underlying24 hi hz0 hz1 hz2 rfl (by decide) u6 (preE xs ys 1).length (flatEdges (preE xs ys 1)) rfl hown ⟨b2, o2, none⟩ ys.length p2 (flatEdges ys) rfl (flatEdges_len _) (by intro j u hj; rw [add_off]; exact G2 j u hj) (by intro u hu; obtain ⟨x, rfl⟩ := flatE_mem hu; rfl) (by rw [e1]; unfold maxLen; omega) (by rw [e1]; omega) hb.size ?_; intro v' w' hown' hgrow hiff)
          have hb' : Below w.heap.size w w' := hb.grown hgrow hb.size (own_ge hown)
          clear hgrow hiff hown
          go_roundw
          case rel => exact ⟨2, by omega, rfl, by simpa [preE, flatEdges_app] using hown', hb'⟩
          case measure => simp [intOf]
        · have hv : ∃ ao cp, u6 = .slice ao (xs ++ ys).length cp := by
            rcases hown.2 with ⟨h, h0⟩ | ⟨g', cap, cur, h, _⟩
            · have h0' : (xs ++ ys).length = 0 := h0
              exact ⟨none, 0, by rw [h0']; exact h⟩
            · exact ⟨_, cap, h⟩
          obtain ⟨ao, cp, rfl⟩ := hv
          go_wp2
          go_ret
          exact ⟨ao, cp, rfl, hown, hb⟩


theorem erase_parts (es : List EdgeV) (q : Nat) : es.take q ++ es.drop (q + 1) = es.eraseIdx q := (List.eraseIdx_eq_take_drop_succ es q).symm

set_option maxRecDepth 100000 in
set_option maxHeartbeats 3200000 in
theorem cCutI (a : Option Addr) (p : Nat) (n x : Int) (es : List EdgeV) (w : World) (he : Edges w a es) (hl : es.length ≤ 1048576) (hp : es.length ≤ p) (hp2 : p ≤ maxLen) :
    Calls Try.prog 22 #[.agg #[.int .i64 n, .slice a es.length p], .int .i64 x] w (AnsNet w (cutN n es x) (cutE n es x)) := by
  have hW := btrans (balloc w (.cells #[.int .i64 n, .slice a es.length p] 26)) (balloc _ (.cells #[.int .i64 0, .slice none 0 0] 26))
  have X0 := (Bx2.new w (.int .i64 n) (.slice a es.length p) 26).below (balloc _ (.cells #[.int .i64 0, .slice none 0 0] 26))
  have K0 := blk_new1 w (.cells #[.int .i64 n, .slice a es.length p] 26) (.cells #[.int .i64 0, .slice none 0 0] 26)
  have E0 := he.below hW
  unfold maxLen at hp2
  by_cases hgate : netB n es = true ∧ placeB es.length x = true
  · rw [show cutN n es x = n from if_pos hgate, show cutE n es x = es.eraseIdx x.toNat from if_pos hgate]
    obtain ⟨hn, hx⟩ := hgate
    have hx' : inB x 0 ((es.length : Int) - 1) = true := hx
    obtain ⟨q, hq⟩ : ∃ q : Nat, x = q := ⟨x.toNat, by have := (inB_true hx').1; omega⟩
    subst hq
    have hql : q < es.length := by have := (inB_true hx').2; omega
    clear hx'
    obtain ⟨hn1, hn2, hn3⟩ := net_n hn
    rw [Int.toNat_natCast]
    go_enter Try.func22, Try.ntmps22
    go_wp2_with fail
    refine (cNetI a p n es _ E0 hl).mono ?_
    rintro e w1 ⟨rfl, hb1⟩
    have HB1 := btrans hW hb1
    have X1 := X0.below hb1
    have K1 := blk_below K0 hb1
    obtain ⟨x0, x1⟩ := id X1
    rw [hn]
    clear hb1 X0 K0 hW E0
    go_wp2_with fail
    clear x0 x1
    refine (cHasEdge _ _ _ _ _ _).mono ?_
    rintro e w2 ⟨rfl, hb2⟩
    have HB2 := btrans HB1 hb2
    have X2 := X1.below hb2
    have K2 := blk_below K1 hb2
    rw [hx]
    clear hb2 X1 K1 HB1
    rcases he with he | ⟨b, off, rfl, hc⟩
    · simp [he] at hql
    have FA := (FlatAt.of_edges hc).below HB2
    clear hc
    obtain ⟨x0, x1⟩ := id X2
    obtain ⟨⟨b0, b1⟩, f0, f1⟩ := blk2 K2
    have hq0 : (0 : Int) ≤ (q : Int) := Int.natCast_nonneg _
    have hq1 : (q : Int) + 1 ≤ (es.length : Int) := by omega
    have hq2 : (q : Int) ≤ (p : Int) := by omega
    have hq3 : (es.length : Int) ≤ (p : Int) := by omega
    have hwq : IntKind.i64.wrap ((q : Int) + 1) = (q : Int) + 1 := wrap_in _ (by omega) (by omega)
    have hp0 : ¬ p = 0 := by omega
    have hq4 : (0 : Int) ≤ (q : Int) + 1 := by omega
    have le : (es.eraseIdx q).length = q + (es.length - (q + 1)) := by rw [← erase_parts, List.length_append, List.length_take, List.length_drop, Nat.min_eq_left (by omega)]
    have LE := hide le
    clear le
    have lt : (es.take q).length = q := by simp; omega
    have ld : (es.drop (q + 1)).length = es.length - (q + 1) := by simp
    have hs2 : w.heap.size + 1 < w2.heap.size := lt_of_block K2
    have hs1 : w.heap.size < w2.heap.size := by omega
    by_cases hpq : p = q + 1
    · have hlq : es.length = q + 1 := by omega
      have hq6 : (q : Int) ≤ (q : Int) + 1 := by omega
      have hq7 : ¬ q + 1 = 0 := by omega
      subst hpq
      have hde : es.drop (q + 1) = [] := by rw [← hlq]; simp
      go_wp2_with fail
      go_region_held3 (fun w' => w'.cell? ⟨w.heap.size, 0, none⟩ = some (.int .i64 n) ∧ w'.cell? ⟨w.heap.size, 1, none⟩ = some (.slice (some ⟨b, off, none⟩) es.length (q + 1))) (go_keep) (first | (go_at_call 48; refine (cConcatE w2.heap.size b off (q + 1) b off 0 (es.take q) (es.drop (q + 1)) _ ((FA.below (balloc _ _).drew).take q) (by rw [hde]; intro j u hu; simp [flatEdges] at hu) (by rw [lt]; omega) (by rw [hde]; simp) (by rw [lt]; simp) (by rw [hde]; simp)).mono ?_; rintro e w3 ⟨ao, cp, rfl, hown, hb3⟩; have B3 := btrans (balloc _ _).drew hb3; have B4 := btrans HB2 B3; obtain ⟨x0', x1'⟩ := X2.below B3; obtain ⟨⟨b0', b1'⟩, f0', f1'⟩ := blk2 (blk_below K2 B3)))
      rw [erase_parts] at hown
      clear x0 x1 b0 b1 f0 f1
      go_wp2
      refine bodyPost_ret (v := .agg #[.int .i64 n, .slice ao (q) cp]) (by simp [results, Try.results22, go_sem, b0', b1']) rfl ⟨ao, cp, by rw [LE.out]; rw [hlq]; simp, ?_, ?_⟩
      · exact Go.Joins.ownsRow_le (ownsRow_setCell_below (ownsRow_setCell_below hown (by simp; omega) _) (by simp; omega) _) (by simp; omega)
      · exact below_set (by omega) (below_set (by omega) B4)
    · go_wp2_with fail
      go_region_held3 (fun w' => w'.cell? ⟨w.heap.size, 0, none⟩ = some (.int .i64 n) ∧ w'.cell? ⟨w.heap.size, 1, none⟩ = some (.slice (some ⟨b, off, none⟩) es.length p)) (go_keep) (first | (go_at_call 48; refine (cConcatE w2.heap.size b off p b (off + (q + 1) * 4) (p - (q + 1)) (es.take q) (es.drop (q + 1)) _ ((FA.below (balloc _ _).drew).take q) ((FA.below (balloc _ _).drew).drop (q + 1)) (by rw [lt]; omega) (by rw [ld]; omega) (by rw [lt]; simp) (by rw [ld]; simp)).mono ?_; rintro e w3 ⟨ao, cp, rfl, hown, hb3⟩; have B3 := btrans (balloc _ _).drew hb3; have B4 := btrans HB2 B3; obtain ⟨x0', x1'⟩ := X2.below B3; obtain ⟨⟨b0', b1'⟩, f0', f1'⟩ := blk2 (blk_below K2 B3)))
      rw [erase_parts] at hown
      clear x0 x1 b0 b1 f0 f1
      go_wp2
      refine bodyPost_ret (v := .agg #[.int .i64 n, .slice ao (q + (es.length - (q + 1))) cp]) (by simp [results, Try.results22, go_sem, b0', b1']) rfl ⟨ao, cp, by rw [LE.out], ?_, ?_⟩
      · exact Go.Joins.ownsRow_le (ownsRow_setCell_below (ownsRow_setCell_below hown (by simp; omega) _) (by simp; omega) _) (by simp; omega)
      · exact below_set (by omega) (below_set (by omega) B4)
  · rw [show cutN n es x = 0 from if_neg hgate, show cutE n es x = [] from if_neg hgate]
    cases hn : netB n es
    · go_enter Try.func22, Try.ntmps22
      go_wp2_with fail
      refine (cNetI a p n es _ E0 hl).mono ?_
      rintro e w1 ⟨rfl, hb1⟩
      have HB1 := btrans hW hb1
      obtain ⟨⟨b0, b1⟩, f0, f1⟩ := blk2 (blk_below K0 hb1)
      rw [hn]
      clear hb1
      go_wp2
      refine bodyPost_ret (v := .agg #[.int .i64 0, .slice none 0 0]) (by simp [results, Try.results22, go_sem, b0, b1]) rfl ⟨none, 0, rfl, World.ownsRow_nil _ _ _ _, ?_⟩
      exact below_set (by omega) (below_set (by omega) HB1)
    · have hx : placeB es.length x = false := by
        cases h : placeB es.length x
        · rfl
        · exact absurd ⟨hn, h⟩ hgate
      go_enter Try.func22, Try.ntmps22
      go_wp2_with fail
      refine (cNetI a p n es _ E0 hl).mono ?_
      rintro e w1 ⟨rfl, hb1⟩
      have HB1 := btrans hW hb1
      have X1 := X0.below hb1
      have K1 := blk_below K0 hb1
      obtain ⟨x0, x1⟩ := id X1
      rw [hn]
      clear hb1 hgate
      go_wp2_with fail
      clear x0 x1
      refine (cHasEdge _ _ _ _ _ _).mono ?_
      rintro e w2 ⟨rfl, hb2⟩
      have HB2 := btrans HB1 hb2
      obtain ⟨⟨b0, b1⟩, f0, f1⟩ := blk2 (blk_below K1 hb2)
      rw [hx]
      clear hb2
      go_wp2
      refine bodyPost_ret (v := .agg #[.int .i64 0, .slice none 0 0]) (by simp [results, Try.results22, go_sem, b0, b1]) rfl ⟨none, 0, rfl, World.ownsRow_nil _ _ _ _, ?_⟩
      exact below_set (by omega) (below_set (by omega) HB2)
end Go.Proofs.Ytdjambejppanoaa
