/- Cut: the net without one edge; the model's text. -/
import Derived.Test.YtengfldiiceieaaI
import Derived.Deep.RegionLaw
import Derived.Deep.AppendLies
namespace Go.Proofs.Ytengfldiiceieaa
open Go.RowKit

/-- A net that is put together in a block of its own behind the world W0; all older memory is as it was. -/
structure OutN (W0 wr : World) (n : Int) (ao : Option Addr) (cp : Nat) (xs : List EdgeV) : Prop where
  bel : Below W0.heap.size W0 wr
  out : wr.heap[W0.heap.size]? = some (.cells #[.int .i64 n, .slice ao xs.length cp] 26 (0, 0))
  own : wr.ownsRow (W0.heap.size + 1) 41 4 (.slice ao xs.length cp) xs.length (flat xs)

theorem OutN.new (W0 : World) (n : Int) : OutN W0 (W0.alloc (.cells #[.int .i64 n, .slice none 0 0] 26)) n none 0 [] :=
  ⟨balloc _ _, blk_new _ _, World.ownsRow_nil _ _ _ _⟩
theorem OutN.lt {W0 wr : World} {n : Int} {ao : Option Addr} {cp : Nat} {xs : List EdgeV} (h : OutN W0 wr n ao cp xs) : W0.heap.size < wr.heap.size := lt_of_block h.out
theorem own_ge {w : World} {base e sz n : Nat} {v : Value} {xs : List Value} (h : w.ownsRow base e sz v n xs) : ∀ k, v.ownBlock = some k → base ≤ k := fun k hk => (h.lt k hk).1
theorem ne_own {v : Value} {B b : Nat} (h : ∀ k, v.ownBlock = some k → B ≤ k) (hb : b < B) : some b ≠ v.ownBlock := fun e => by have := h b e.symm; omega

theorem OutN.push {W0 wr : World} {n : Int} {ao : Option Addr} {cp : Nat} {xs : List EdgeV} (h : OutN W0 wr n ao cp xs) {o : Obj} {g cap : Nat} {w2 : World} {x : EdgeV}
    (hown : w2.ownsRow (W0.heap.size + 1) 41 4 (.slice (some ⟨g, 0, none⟩) (xs.length + 1) cap) (xs.length + 1) (flat xs ++ x.vs)) (hgrow : (wr.drew.alloc o).grownBy w2 (Value.slice ao xs.length cp).ownBlock) :
    OutN W0 (w2.setCell ⟨W0.heap.size, 1, none⟩ (.slice (some ⟨g, 0, none⟩) (xs.length + 1) cap)) n (some ⟨g, 0, none⟩) cap (xs ++ [x]) := by
  have hU := h.lt
  have hge := own_ge h.own
  have hD : wr.drew.heap.size = wr.heap.size := rfl
  have hblk : ∀ k, k ≤ W0.heap.size → w2.heap[k]? = wr.heap[k]? := fun k hk =>
    (hgrow.block k (by simp; omega) (fun e => by have := hge k e.symm; omega)).trans (Below.heap_alloc wr.drew o k (by omega))
  have hbel : Below W0.heap.size W0 w2 := (h.bel.drew.alloc (by rw [hD]; exact h.bel.size) o).grown hgrow (by have := h.bel.size; simp; omega) (fun k e => by have := hge k e; omega)
  have hlen : (xs ++ [x]).length = xs.length + 1 := by simp
  refine ⟨hbel.setCell (by simp) _, ?_, ?_⟩
  · have := Go.Joins.block_setCell (i := 1) ((hblk _ (Nat.le_refl _)).trans h.out) (.slice (some ⟨g, 0, none⟩) (xs.length + 1) cap)
    rw [hlen]; simpa using this
  · rw [hlen, flat_app]
    have e : flat [x] = x.vs := by simp [flat]
    rw [e]; exact ownsRow_setCell_below hown (by simp) _

theorem OutN.after {W0 wr : World} {n : Int} {ao : Option Addr} {cp : Nat} {xs : List EdgeV} (h : OutN W0 wr n ao cp xs) {o : Obj} {w2 : World} (hgrow : (wr.drew.alloc o).grownBy w2 (Value.slice ao xs.length cp).ownBlock) :
    w2.cell? ⟨W0.heap.size, 1, none⟩ = some (.slice ao xs.length cp) ∧ w2.frozen? ⟨W0.heap.size, 1, none⟩ = false := by
  have hU := h.lt
  have hge := own_ge h.own
  have hD : wr.drew.heap.size = wr.heap.size := rfl
  have hb : w2.heap[W0.heap.size]? = wr.heap[W0.heap.size]? := (hgrow.block _ (by simp; omega) (fun e => by have := hge _ e.symm; omega)).trans (Below.heap_alloc wr.drew o _ (by omega))
  obtain ⟨⟨_, b⟩, _, d⟩ := blk2 (hb.trans h.out)
  exact ⟨b, d⟩

theorem OutN.far {W0 wr : World} {n : Int} {ao : Option Addr} {cp : Nat} {xs : List EdgeV} (h : OutN W0 wr n ao cp xs) {o : Obj} {w2 : World} (hgrow : (wr.drew.alloc o).grownBy w2 (Value.slice ao xs.length cp).ownBlock) {b i : Nat} {v : Value} (hb : b ≤ W0.heap.size) (hc : wr.cell? ⟨b, i, none⟩ = some v) :
    w2.cell? ⟨b, i, none⟩ = some v := by
  have hU := h.lt
  have hge := own_ge h.own
  have hD : wr.drew.heap.size = wr.heap.size := rfl
  have hb : w2.heap[b]? = wr.heap[b]? := (hgrow.block _ (by simp; omega) (fun e => by have := hge _ e.symm; omega)).trans (Below.heap_alloc wr.drew o _ (by omega))
  exact (World.cell?_of_block hb).trans hc

/-- The edges without the one at place q, of the first k. -/
def cutTo (es : List EdgeV) (q k : Nat) : List EdgeV := (es.take k).eraseIdx q
theorem cutTo_step {es : List EdgeV} {q k : Nat} (hk : k < es.length) (h : k ≠ q) : cutTo es q (k + 1) = cutTo es q k ++ [es[k]] := by
  unfold cutTo
  rw [List.take_succ_eq_append_getElem hk]
  by_cases hlt : q < k
  · rw [List.eraseIdx_append_of_lt_length (by simp; omega)]
  · rw [List.eraseIdx_of_length_le (by simp; omega), List.eraseIdx_of_length_le (by simp; omega)]
theorem cutTo_at {es : List EdgeV} {q : Nat} (hq : q < es.length) : cutTo es q (q + 1) = cutTo es q q := by
  unfold cutTo
  rw [List.take_succ_eq_append_getElem hq, List.eraseIdx_append_of_length_le (by simp; omega), List.eraseIdx_of_length_le (l := es.take q) (by simp; omega)]
  have : q - (es.take q).length = 0 := by simp; omega
  rw [this]; simp
theorem cutTo_all (es : List EdgeV) (q : Nat) : cutTo es q es.length = es.eraseIdx q := by simp [cutTo]
theorem cutTo_len (es : List EdgeV) (q k : Nat) : (cutTo es q k).length ≤ k := by
  have := List.length_eraseIdx_le (es.take k) q
  simp at this
  unfold cutTo; omega

/-- The net without the edge at place p: its nodes and edges; the zero value where there is no such. -/
def cutN (n : Int) (es : List EdgeV) (p : Int) : Int := if netB n es = true ∧ placeB es.length p = true then n else 0
def cutE (n : Int) (es : List EdgeV) (p : Int) : List EdgeV := if netB n es = true ∧ placeB es.length p = true then es.eraseIdx p.toNat else []

/-- A net as an answer: its edges are a row of its own. -/
def AnsNet (w : World) (n : Int) (es : List EdgeV) (e : Ending) (w' : World) : Prop :=
  ∃ ao cp, e = .returned (.agg #[.int .i64 n, .slice ao es.length cp]) ∧ w'.ownsRow w.heap.size 41 4 (.slice ao es.length cp) es.length (flat es) ∧ Below w.heap.size w w'

set_option maxRecDepth 100000 in
set_option maxHeartbeats 3200000 in
theorem c42 (a : Option Addr) (p : Nat) (n x : Int) (es : List EdgeV) (w : World) (he : Edges w a es) (hl : es.length ≤ 1048576) :
    Calls Try.prog 42 #[.agg #[.int .i64 n, .slice a es.length p], .int .i64 x] w (AnsNet w (cutN n es x) (cutE n es x)) := by
  have hW := btrans (balloc w (.cells #[.int .i64 n, .slice a es.length p] 26)) (balloc _ (.cells #[.int .i64 0, .slice none 0 0] 26))
  have X0 := (Bx2.new w (.int .i64 n) (.slice a es.length p) 26).below (balloc _ (.cells #[.int .i64 0, .slice none 0 0] 26))
  have K0 := blk_new1 w (.cells #[.int .i64 n, .slice a es.length p] 26) (.cells #[.int .i64 0, .slice none 0 0] 26)
  have E0 := he.below hW
  by_cases hgate : netB n es = true ∧ placeB es.length x = true
  · rw [show cutN n es x = n from if_pos hgate, show cutE n es x = es.eraseIdx x.toNat from if_pos hgate]
    obtain ⟨hn, hx⟩ := hgate
    have hx' : inB x 0 ((es.length : Int) - 1) = true := hx
    obtain ⟨q, hq⟩ : ∃ q : Nat, x = q := ⟨x.toNat, by have := (inB_true hx').1; omega⟩
    subst hq
    have hql : q < es.length := by have := (inB_true hx').2; omega
    obtain ⟨hn1, hn2, hn3⟩ := net_n hn
    rw [Int.toNat_natCast]
    obtain ⟨i0, hi, hz0, hz1, hz2⟩ := info_parts info41
    go_enter Try.func42, Try.ntmps42
    go_wp2_with fail
    refine (c29 a p n es _ E0 hl).mono ?_
    rintro e W0 ⟨rfl, hb1⟩
    have HB := btrans hW hb1
    have X1 := X0.below hb1
    have K1 := blk_below K0 hb1
    obtain ⟨x0, x1⟩ := id X1
    rw [hn]
    clear hb1 X0 K0 hW E0
    go_wp2_with (go_at_call 50; refine (c50 _ _ _ _).mono ?_; rintro e W0 ⟨rfl, rfl⟩)
    clear x0 x1
    go_loopw [6] (fun i wr => ∃ (k : Nat) (ao : Option Addr) (cp : Nat), k ≤ es.length ∧ i = .int .i64 k ∧ OutN W0 wr n ao cp (cutTo es q k)) (fun i _ => es.length - (intOf i).toNat)
    case atStart => exact ⟨0, none, 0, Nat.zero_le _, rfl, by simpa [cutTo] using OutN.new W0 n⟩
    case round =>
      obtain ⟨k, ao, cp, hk, rfl, L⟩ := hrel
      have X := X1.below L.bel
      obtain ⟨x0, x1⟩ := id X
      have hT := L.lt
      have hKl := lt_of_block K1
      have hcl := cutTo_len es q k
      obtain ⟨⟨t0, t1⟩, g0, g1⟩ := blk2 L.out
      by_cases hlt : k < es.length
      · by_cases hkq : k = q
        · subst hkq
          have S := cutTo_at hql
          go_wp2
          go_roundw
          case rel => exact ⟨k + 1, ao, cp, by omega, by go_num, by rw [S]; exact L⟩
          case measure => simp [intOf]; omega
        · have S := hide (cutTo_step hlt hkq)
          rcases he with he | ⟨b, off, rfl, hc⟩
          · simp [he] at hlt
          obtain ⟨q0, q1, q2, q3⟩ := hc k hlt
          have fin := btrans HB L.bel
          have p0 := ble fin q0
          have p1 := ble fin q1
          have p2 := ble fin q2
          have p3 := ble fin q3
          have hbl : b < W0.heap.size := cell_lt (ble HB q0)
          have e0 : es.getD k EdgeV.zero = es[k] := by simp [List.getD, hlt]
          rw [e0] at p0 p1 p2 p3
          clear hc q0 q1 q2 q3 e0
          have hge := own_ge L.own
          have hkq' : ¬ ((k : Int) = (q : Int)) := by omega
          have hk0 : (0 : Int) ≤ (k : Int) := Int.natCast_nonneg _
          have hk1 : (k : Int) < (es.length : Int) := by omega
          have hne1 : w.heap.size ≠ W0.heap.size := by omega
          have hne2 : b ≠ W0.heap.size := by omega
          generalize hcs : cutTo es q k = cs at *
          go_wp2_with fail
          go_region_law
            ((refine step_append_lies _ (by rfl) _ _ _ (by rfl) (W0.heap.size + 1) 41 i0 _ 4 32 Try.underlying24 hi hz0 hz1 hz2 rfl (by omega) (.slice ao cs.length cp) cs.length (flat cs) (by rfl) ((L.own.drew).alloc _)
                ⟨wr.heap.size, 0, none⟩ 1 1 es[k].vs (by rfl) (by rfl) (World.news_of_block (cs := #[.int .i64 es[k].a, .int .i64 es[k].b, .int .i64 es[k].l, .int .i64 es[k].m]) (t := 41) (fr := (0, 0)) (heap_alloc_new wr.drew _)) (by simp [EdgeV.vs, Value.oneCell'])
                (by omega) (by unfold maxLen; omega) (by omega) (by simp; omega) (wr.heap.size + 1) (by simp) ?_; intro g cap w2 hown hgrow hat hlt2; obtain ⟨y1, z1⟩ := L.after hgrow; have s0 := L.far hgrow (by omega) x1; have s1 := L.far hgrow (by omega) p0; have s2 := L.far hgrow (by omega) p1; have s3 := L.far hgrow (by omega) p2; have s4 := L.far hgrow (by omega) p3))
          all_goals have L2 := L.push hown hgrow
          all_goals rw [← S.out] at L2
          all_goals clear hown hgrow hat y1 z1 s0 s1 s2 s3 s4
          all_goals go_wp2
          all_goals go_roundw
          all_goals first | exact ⟨k + 1, some ⟨g, 0, none⟩, cap, by omega, by go_num, by simpa using L2⟩ | (simp [intOf]; omega)
      · have hkk : k = es.length := by omega
        subst hkk
        rw [cutTo_all] at L t1
        have K := blk_below K1 L.bel
        obtain ⟨⟨b0, b1⟩, f0, f1⟩ := blk2 K
        have fin := btrans HB L.bel
        have hW0 := HB.size
        clear he
        go_wp2
        refine bodyPost_ret (v := .agg #[.int .i64 n, .slice ao (es.eraseIdx q).length cp]) (by simp [results, Try.results42, go_sem, b0, b1]) rfl ⟨ao, cp, rfl, ?_, ?_⟩
        · exact Go.Joins.ownsRow_le (ownsRow_setCell_below (ownsRow_setCell_below L.own (by simp; omega) _) (by simp; omega) _) (by omega)
        · exact below_set (by omega) (below_set (by omega) fin)
  · rw [show cutN n es x = 0 from if_neg hgate, show cutE n es x = [] from if_neg hgate]
    cases hn : netB n es
    · go_enter Try.func42, Try.ntmps42
      go_wp2_with fail
      refine (c29 a p n es _ E0 hl).mono ?_
      rintro e w1 ⟨rfl, hb1⟩
      have HB1 := btrans hW hb1
      obtain ⟨⟨b0, b1⟩, f0, f1⟩ := blk2 (blk_below K0 hb1)
      rw [hn]
      clear hb1
      go_wp2
      refine bodyPost_ret (v := .agg #[.int .i64 0, .slice none 0 0]) (by simp [results, Try.results42, go_sem, b0, b1]) rfl ⟨none, 0, rfl, World.ownsRow_nil _ _ _ _, ?_⟩
      exact below_set (by omega) (below_set (by omega) HB1)
    · have hx : inB x 0 ((es.length : Int) - 1) = false := by
        cases h : inB x 0 ((es.length : Int) - 1)
        · rfl
        · exact absurd ⟨hn, h⟩ hgate
      obtain ⟨hn1, hn2, hn3⟩ := net_n hn
      go_enter Try.func42, Try.ntmps42
      go_wp2_with fail
      refine (c29 a p n es _ E0 hl).mono ?_
      rintro e w1 ⟨rfl, hb1⟩
      have HB1 := btrans hW hb1
      obtain ⟨x0, x1⟩ := X0.below hb1
      obtain ⟨⟨b0, b1⟩, f0, f1⟩ := blk2 (blk_below K0 hb1)
      rw [hn]
      clear hb1 hgate
      go_wp2_with (go_at_call 50; refine (c50 _ _ _ _).mono ?_; rintro e w1 ⟨rfl, rfl⟩)
      refine bodyPost_ret (v := .agg #[.int .i64 0, .slice none 0 0]) (by simp [results, Try.results42, go_sem, b0, b1]) rfl ⟨none, 0, rfl, World.ownsRow_nil _ _ _ _, ?_⟩
      exact below_set (by omega) (below_set (by omega) HB1)
end Go.Proofs.Ytengfldiiceieaa
