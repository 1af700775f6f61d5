/- Drawn ways along one edge. -/
import Derived.Test.YtbghfihlpbcomaaGreatDT
import Derived.Test.YtbghfihlpbcomaaGreatNC
import Derived.Deep.RegionHeld3
import Derived.Test.YtbghfihlpbcomaaGreatDR
import Derived.Test.YtbghfihlpbcomaaGreatMC
import Derived.Test.YtbghfihlpbcomaaGreatK
import Derived.Deep.RegionWith
import Derived.Test.YtbghfihlpbcomaaGreatPQ
import Derived.Maps.AppendAt
import Derived.Test.YtbghfihlpbcomaaGreatND
import Derived.Deep.AppendLies
import Derived.Deep.RegionLaw
import Derived.Test.YtbghfihlpbcomaaGreatWG
namespace Go.Proofs.YtbghfihlpbcomaaGreat
open Go.RowKit
/-- The other end of an edge; -1 where the node is none of its ends. -/
def otherE (e : EdgeV) (x : Int) : Int := if e.a = x then e.b else if e.b = x then e.a else -1
theorem Edges.gr {w w' : World} {cb : Nat} {ea : Option Addr} {es : List EdgeV} (h : Edges w ea es) (hg : w.grownBy w' (some cb)) (hne : ∀ b off, ea = some ⟨b, off, none⟩ → b ≠ cb) : Edges w' ea es := by
  rcases h with h | ⟨b, off, rfl, hc⟩
  · exact .inl h
  · have key : ∀ o v, w.cell? ⟨b, o, none⟩ = some v → w'.cell? ⟨b, o, none⟩ = some v := fun o v hv =>
      (World.cell?_of_block (a := ⟨b, o, none⟩) (hg.block b (cell_lt hv) (fun e => hne b off rfl (by simpa using e)))).trans hv
    exact .inr ⟨b, off, rfl, fun i hi => ⟨key _ _ (hc i hi).1, key _ _ (hc i hi).2.1, key _ _ (hc i hi).2.2.1, key _ _ (hc i hi).2.2.2⟩⟩

set_option maxHeartbeats 800000 in
theorem cOtherW (e : EdgeV) (x : Int) (w : World) : Calls Tryz.prog 79 #[e.val, .int .i64 x] w fun r w' => r = .returned (.int .i64 (otherE e x)) ∧ Below w.heap.size w w' := by
  obtain ⟨a, b, l, m⟩ := e
  unfold EdgeV.val
  have hW := balloc w (.cells #[.int .i64 a, .int .i64 b, .int .i64 l, .int .i64 m] 89)
  have Y := Bx4.new w (.int .i64 a) (.int .i64 b) (.int .i64 l) (.int .i64 m) 89
  obtain ⟨y0, y1, y2, y3⟩ := id Y
  by_cases h1 : a = x
  · have R := hide (show otherE ⟨a, b, l, m⟩ x = b by simp [otherE, h1])
    subst h1
    go_enter Tryz.func79, Tryz.ntmps79
    go_wp2
    go_ret
    exact ⟨ret_int R.out.symm, hW⟩
  by_cases h2 : b = x
  · have R := hide (show otherE ⟨a, b, l, m⟩ x = a by simp [otherE, h1, h2])
    subst h2
    go_enter Tryz.func79, Tryz.ntmps79
    go_wp2
    go_ret
    exact ⟨ret_int R.out.symm, hW⟩
  have R := hide (show otherE ⟨a, b, l, m⟩ x = -1 by simp [otherE, h1, h2])
  go_enter Tryz.func79, Tryz.ntmps79
  go_wp2
  go_ret
  exact ⟨ret_int R.out.symm, hW⟩

theorem rot_hits {L s q : Nat} (hs : s < L) (hq : q < L) : ∃ i, i < L ∧ (s + i) % L = q := by
  by_cases h : s ≤ q
  · exact ⟨q - s, by omega, by rw [show s + (q - s) = q by omega]; exact Nat.mod_eq_of_lt hq⟩
  · refine ⟨L - s + q, by omega, ?_⟩
    rw [show s + (L - s + q) = L + q by omega, Nat.add_mod_left]; exact Nat.mod_eq_of_lt hq

theorem infoIntD : (Tryz.prog.info? 3).map (fun i => (i.zero, i.size, i.bytes)) = some (some (Value.int .i64 0), 1, 8) := by kernel_rfl
/-- What l02DrawWay has found: nothing yet, or one edge at x. -/
def WayHit (es : List EdgeV) (x : Int) (q : Nat) : Prop := q < es.length ∧ 0 ≤ otherE (es.getD q EdgeV.zero) x
set_option maxRecDepth 100000 in
set_option maxHeartbeats 3200000 in
theorem cDrawWayE (cb cap : Nat) (a : Option Addr) (zs : List Int) (n : Int) (ea : Option Addr) (ec : Nat) (es : List EdgeV) (x : Int) (w : World) (hc : Cur w cb a cap zs) (hl : zs.length ≤ 1048576) (hcb : cb < w.heap.size) (he : Edges w ea es) (hne : ∀ b off, ea = some ⟨b, off, none⟩ → b ≠ cb) (h1 : 1 ≤ es.length) (h60 : es.length ≤ 60) (hx : ∃ q, WayHit es x q) :
    Calls Tryz.prog 96 #[.pointer (some ⟨cb, 0, none⟩), .agg #[.int .i64 n, .slice ea es.length ec], .int .i64 x, .int .i64 1] w fun e w' =>
      ∃ g c q, e = .returned (.slice (some ⟨g, 0, none⟩) 1 c) ∧ w'.cell? ⟨g, 0, none⟩ = some (.int .i64 (q : Nat)) ∧ WayHit es x q ∧ w.heap.size ≤ g ∧ Cur w' cb a cap zs ∧ w.grownBy w' (some cb) := by
  have hOn : ∀ k, OnCur cb a zs k → k < w.heap.size := fun k hk => hc.lt hk
  obtain ⟨i0, hi, hz0, hz1, hz2⟩ := info_parts infoIntD
  have hb0 := btrans (balloc w (.cells #[.int .i64 n, .slice ea es.length ec] 26)) (balloc _ (.cells #[] 3))
  have A0 := blk_keep (balloc _ (.cells #[] 3)) (one_block w (.cells #[.int .i64 n, .slice ea es.length ec] 26))
  have hO := World.ownsRow_made (base := w.heap.size + 1) (e := 3) (size := 1) (w.alloc (.cells #[.int .i64 n, .slice ea es.length ec] 26)) #[] 0 (by simp) (by unfold maxLen; omega) rfl
  rw [sz1] at hO
  go_enter Tryz.func96, Tryz.ntmps96
  go_wp2
  generalize (w.alloc (.cells #[.int .i64 n, .slice ea es.length ec] 26)).alloc (.cells #[] 3) = V at *
  have hc0 := hc.below hb0
  have G0 := gofr (some cb) hb0
  clear hc hb0
  go_loopw [9, 10, 11] (fun vo va vk wr => wr.heap[w.heap.size]? = some (.cells #[.int .i64 n, .slice ea es.length ec] 26) ∧ Cur wr cb a cap zs ∧ w.grownBy wr (some cb) ∧ ((vk = .int .i64 0 ∧ va = .int .i64 x ∧ wr.ownsRow (w.heap.size + 1) 3 1 vo 0 []) ∨ (vk = .int .i64 1 ∧ ∃ q : Nat, WayHit es x q ∧ wr.ownsRow (w.heap.size + 1) 3 1 vo 1 [.int .i64 q]))) (fun _ _ vk _ => 1 - (intOf vk).toNat)
  case atStart => exact ⟨A0, hc0, G0, .inl ⟨rfl, rfl, hO⟩⟩
  case round =>
    obtain ⟨A, hC, G, hcase⟩ := hrel
    clear A0 hc0 G0 hO
    rcases hcase with ⟨rfl, rfl, ho⟩ | ⟨rfl, q, hq, ho⟩
    · obtain ⟨⟨x0, x1⟩, -⟩ := blk2 A
      go_wp2_with fail
      refine (cbelow cb cap a zs es.length _ hC hl (by omega) (by omega)).mono ?_
      rintro e w1 ⟨s, rfl, s0, s1, hc1, hg1⟩
      obtain ⟨s, rfl⟩ := Int.eq_ofNat_of_zero_le s0
      have hs : s < es.length := by omega
      have G1 := gtrans G hg1
      have A1 := far_blk hg1 A (fun j hj => by simp at hj; omega)
      have o1 := own_far ho hg1 (fun k hk e => by have := own_from ho (Nat.le_refl _) k hk; simp at e; omega)
      clear hg1 G A ho hC x0 x1 s0 s1
      go_wp2
      go_loopw [9, 10, 13] (fun vo va vi wr => ∃ i : Nat, i ≤ es.length ∧ vi = .int .i64 i ∧ va = .int .i64 x ∧ (∀ i', i' < i → ¬ WayHit es x ((s + i') % es.length)) ∧ wr.heap[w.heap.size]? = some (.cells #[.int .i64 n, .slice ea es.length ec] 26) ∧ Cur wr cb a cap zs ∧ w.grownBy wr (some cb) ∧ wr.ownsRow (w.heap.size + 1) 3 1 vo 0 []) (fun _ _ vi _ => es.length - (intOf vi).toNat)
      case atStart => exact ⟨0, Nat.zero_le _, rfl, rfl, fun i' h => by omega, A1, hc1, G1, o1⟩
      case round =>
        clear A1 hc1 G1 o1
        obtain ⟨i, hil, rfl, rfl, hno, A, hC, G, ho⟩ := hrel
        replace hno := hide hno
        obtain ⟨⟨x0, x1⟩, -⟩ := blk2 A
        by_cases hlt : i < es.length
        · have hm : (s + i) % es.length < es.length := Nat.mod_lt _ (by omega)
          have hw1 : IntKind.i64.wrap ((s : Int) + i) = (s : Int) + i := wrap_in _ (by omega) (by omega)
          have hw2 : ((s : Int) + i).tmod (es.length : Int) = (((s + i) % es.length : Nat) : Int) := by
            rw [Int.tmod_eq_emod_of_nonneg (by omega)]; norm_cast
          have hw3 : (es.length : Int) ≠ 0 := by omega
          have hE := he.gr G hne
          have EI : Hid (∀ i' < i, ¬ WayHit es x ((s + i') % es.length)) := hno
          have EQ : Hid ((s + i) % es.length = (s + i) % es.length) := rfl
          generalize hq : (s + i) % es.length = q at *
          replace hq := hide hq
          rcases hE with h | ⟨b, off, rfl, hcE⟩
          · simp [h] at hlt
          obtain ⟨p0, p1, p2, p3⟩ := hcE q hm
          clear hcE EQ
          have e0 : es.getD q EdgeV.zero = es[q] := by simp [List.getD, hm]
          have HW : Hid (WayHit es x q ↔ 0 ≤ otherE es[q] x) := hide ⟨fun h => by have := h.2; rwa [e0] at this, fun h => ⟨hm, by rw [e0]; exact h⟩⟩
          rw [e0] at p0 p1 p2 p3
          clear e0
          generalize es[q] = y at *
          have CO := fun w' => cOtherW y x w'
          obtain ⟨ya, yb, yl, ym⟩ := y
          unfold EdgeV.val at CO
          dsimp only at p0 p1 p2 p3
          go_wp2_with fail
          refine (CO _).mono ?_
          rintro e w2 ⟨rfl, hb2⟩
          have A2 := blk_keep hb2 A
          have C2 := hC.below hb2
          have G2 := gtrans G (gofr (some cb) hb2)
          have o2 := own_keep ho hb2
          have hs2 := hb2.size
          clear hb2 A hC G ho x0 x1 p0 p1 p2 p3 CO hw1 hw2
          by_cases hhit : 0 ≤ otherE ⟨ya, yb, yl, ym⟩ x
          · have hQ := HW.out.2 hhit
            clear HW
            generalize otherE ⟨ya, yb, yl, ym⟩ x = oth at *
            replace hQ := hide hQ
            have hx2 := balloc w2 (.cells #[.int .i64 (q : Nat)] 3)
            have hB := one_block w2 (.cells #[.int .i64 (q : Nat)] 3)
            have o3 := own_keep o2 hx2
            have hG2s := G2.size
            have hAl := lt_of_block A2
            go_wp2_with (at_builtin; refine wpList_append_own _ rfl _ _ 31 rfl (w.heap.size + 1) 3 i0 _ 1 8 Tryz.underlying31 hi hz0 hz1 hz2 rfl (by decide) _ _ _ rfl o3 ⟨w2.heap.size, 0, none⟩ 1 1 [.int .i64 (q : Nat)] rfl rfl ?c1 ?c2 ?c3 ?c4 ?c5 ?_)
            case c1 => exact World.news_of_block hB
            case c2 => simp [Value.oneCell']
            case c3 => unfold maxLen; omega
            case c4 => omega
            case c5 => simp; omega
            intro v2 w3 hown hgrow _
            have hge := own_from o2 (Nat.le_refl _)
            have A3 : w3.heap[w.heap.size]? = _ := far_blk hgrow (blk_keep hx2 A2) (fun j hj => by have := hge j hj; omega)
            have C3 : Cur w3 cb a cap zs := (C2.below hx2).grow hOn hgrow (fun k hk => by have := hge k hk; omega)
            have G3 : w.grownBy w3 (some cb) := grown_far (gtrans G2 (gofr _ hx2)) hgrow (fun k hk => by have := hge k hk; omega)
            clear hgrow hx2 hB o3 o2 A2 C2 G2 hge
            go_wp2
            go_roundw
            case rel => exact ⟨A3, C3, G3, .inr ⟨by first | rfl | (congr 1), q, hQ.out, hown⟩⟩
            case measure => simp [intOf]
          · have hno2 : Hid (∀ i', i' < i + 1 → ¬ WayHit es x ((s + i') % es.length)) := by
              refine hide (fun i' hi' h => ?_)
              by_cases hii : i' = i
              · subst hii
                rw [hq.out] at h
                exact hhit (HW.out.1 h)
              · exact hno.out i' (by omega) h
            clear HW
            generalize otherE ⟨ya, yb, yl, ym⟩ x = oth at *
            go_wp2
            go_roundw
            case rel => exact ⟨i + 1, by omega, by go_num, rfl, hno2.out, A2, C2, G2, o2⟩
            case measure => simp [intOf]; omega
        · exfalso
          obtain ⟨q, hq⟩ := hx
          obtain ⟨i', h1', h2'⟩ := rot_hits hs hq.1
          exact hno.out i' (by omega) (by rw [h2']; exact hq)
    · obtain ⟨ao, c, rfl⟩ := own_form ho
      rcases ho.2 with ⟨_, h0⟩ | ⟨g, cap', cur, hv, hg, _⟩
      · omega
      simp only [Value.slice.injEq] at hv
      obtain ⟨rfl, _, rfl⟩ := hv
      have hcell := ho.cellAt 0 (by omega)
      replace hcell : wr.cell? ⟨g, 0, none⟩ = some (.int .i64 q) := by simpa using hcell
      clear ho
      go_wp2
      go_ret
      exact ⟨g, c, q, rfl, hcell, hq, by omega, hC, G⟩
end Go.Proofs.YtbghfihlpbcomaaGreat

/- The draw of a right trip along a net. -/
namespace Go.Proofs.YtbghfihlpbcomaaGreat
open Go.RowKit
/-- A net as it is drawn: two to five nodes, right, and an edge at every node. -/
structure NetD (n : Nat) (es : List EdgeV) : Prop where
  n2 : 2 ≤ n
  n5 : n ≤ 5
  ok : netB n es = true
  one : 1 ≤ es.length
  few : es.length ≤ 60
  deg : ∀ x : Int, 0 ≤ x → x < n → ∃ q, WayHit es x q
theorem placeE_of {es : List EdgeV} {x : Int} {q : Nat} (hq : q < es.length) (h : 0 ≤ otherE (es.getD q EdgeV.zero) x) : placeE es x (otherE (es.getD q EdgeV.zero) x) < es.length := by
  have e0 : es.getD q EdgeV.zero = es[q] := by simp [List.getD, hq]
  rw [e0] at h ⊢
  unfold placeE
  rw [List.findIdx_lt_length]
  refine ⟨es[q], List.getElem_mem hq, ?_⟩
  unfold otherE at h ⊢
  unfold hitB
  by_cases h1 : es[q].a = x
  · simp [h1]
  · by_cases h2 : es[q].b = x
    · simp [h1, h2]
    · simp [h1, h2] at h
theorem NetD.hit {n : Nat} {es : List EdgeV} (hD : NetD n es) {x : Int} {q : Nat} (h0 : 0 ≤ x) (h : WayHit es x q) :
    0 ≤ otherE (es.getD q EdgeV.zero) x ∧ otherE (es.getD q EdgeV.zero) x < n ∧ otherE (es.getD q EdgeV.zero) x ≠ x ∧ placeE es x (otherE (es.getD q EdgeV.zero) x) < es.length := by
  have hok := hD.ok
  simp only [netB, Bool.and_eq_true] at hok
  have hg := goodTo_at hok.2.2 h.1
  simp only [edgeB, Bool.and_eq_true, nodeB] at hg
  obtain ⟨ga, gb, gn, -, -⟩ := hg
  have ga' := inB_true ga
  have gb' := inB_true gb
  have gn' : ¬ (es.getD q EdgeV.zero).a = (es.getD q EdgeV.zero).b := by simpa using gn
  have hp := placeE_of h.1 h.2
  refine ⟨h.2, ?_, ?_, hp⟩
  · unfold otherE
    split
    · omega
    · split <;> omega
  · unfold otherE
    split
    · omega
    · split <;> omega
/-- What stands of the calls drawn so far: they go along edges, and the next node is joined to the last. -/
structure GoodE (es : List EdgeV) (n : Nat) (xs : List HaltV) (nd : Int) : Prop where
  rode : Rode es xs (xs.length - 1)
  last : ∀ p, xs.getLast? = some p → placeE es p.n nd < es.length
  lt : nd < n
theorem getD_last {xs : List HaltV} (h : xs ≠ []) : xs.getLast? = some (xs.getD (xs.length - 1) HaltV.zero) := by
  have : 0 < xs.length := List.length_pos_iff.2 h
  rw [List.getLast?_eq_getElem?, List.getD, List.getElem?_eq_getElem (by omega)]; rfl
theorem GoodE.next {es : List EdgeV} {n : Nat} {xs : List HaltV} {nd nx : Int} (h : GoodE es n xs nd) {c : HaltV} (hc : c.n = nd) (hp : placeE es nd nx < es.length) (hl : nx < n) : GoodE es n (xs ++ [c]) nx := by
  refine ⟨?_, fun p hp' => ?_, hl⟩
  · have e : (xs ++ [c]).length - 1 = xs.length := by simp
    rw [e]
    intro j hj
    have g1 : (xs ++ [c]).getD j HaltV.zero = xs.getD j HaltV.zero := by simp [List.getD, List.getElem?_append_left hj]
    rw [g1]
    by_cases hj2 : j + 1 < xs.length
    · have g2 : (xs ++ [c]).getD (j + 1) HaltV.zero = xs.getD (j + 1) HaltV.zero := by simp [List.getD, List.getElem?_append_left hj2]
      rw [g2]
      exact h.rode j (by omega)
    · have e2 : j + 1 = xs.length := by omega
      have g2 : (xs ++ [c]).getD (j + 1) HaltV.zero = c := by rw [e2]; simp [List.getD]
      rw [g2, hc]
      have hne : xs ≠ [] := by intro h0; subst h0; simp at hj
      have := h.last _ (getD_last hne)
      rw [show xs.length - 1 = j by omega] at this
      exact this
  · simp at hp'
    subst hp'
    rw [hc]; exact hp
theorem tmod_in {x : Int} {n : Nat} (h0 : 0 ≤ x) (h2 : 2 ≤ n) (h5 : n ≤ 5) : ∃ nx : Int, x.tmod (n : Int) = nx ∧ 0 ≤ nx ∧ nx ≤ 5 := by
  refine ⟨_, rfl, ?_, ?_⟩
  · rw [Int.tmod_eq_emod_of_nonneg h0]; exact Int.emod_nonneg _ (by omega)
  · rw [Int.tmod_eq_emod_of_nonneg h0]
    have := Int.emod_lt_of_pos x (show (0 : Int) < n by omega)
    omega
/-- A drawn trip: right, along the edges, its calls a row of its own. -/
def DrawnTripE (w : World) (cb cap : Nat) (a : Option Addr) (zs : List Int) (es : List EdgeV) (e : Ending) (w' : World) : Prop :=
  ∃ s cs ao cp, e = .returned (.agg #[.string s, .slice ao (List.length cs) cp]) ∧ tripB ⟨s, cs⟩ = true ∧ Rode es cs (cs.length - 1) ∧ w'.ownsRow w.heap.size 69 3 (.slice ao cs.length cp) cs.length (flatHalts cs) ∧ Cur w' cb a cap zs ∧ w.grownBy w' (some cb)

set_option maxRecDepth 100000 in
set_option maxHeartbeats 3200000 in
theorem cDrawTripE (cb cap : Nat) (a : Option Addr) (zs : List Int) (n : Nat) (ea : Option Addr) (ec : Nat) (es : List EdgeV) (hD : NetD n es) (w : World) (hc : Cur w cb a cap zs) (hl : zs.length ≤ 1048576) (hcb : cb < w.heap.size) (he : Edges w ea es) (hne : ∀ b off, ea = some ⟨b, off, none⟩ → b ≠ cb) :
    Calls Tryz.prog 76 #[.pointer (some ⟨cb, 0, none⟩), .agg #[.int .i64 (n : Nat), .slice ea es.length ec], .int .i64 4] w (DrawnTripE w cb cap a zs es) := by
  have hn2 := hD.n2
  have hn5 := hD.n5
  have hes1 := hD.one
  have hes60 := hD.few
  have hOn : ∀ k, OnCur cb a zs k → k < w.heap.size := fun k hk => hc.lt hk
  have hb0 := btrans (balloc w (.cells #[.int .i64 (n : Nat), .slice ea es.length ec] 26)) (balloc _ (.cells #[.string ⟨#[]⟩, .slice none 0 0] 39))
  have A0 := blk_keep (balloc _ (.cells #[.string ⟨#[]⟩, .slice none 0 0] 39)) (one_block w (.cells #[.int .i64 (n : Nat), .slice ea es.length ec] 26))
  have K0 := one_block (w.alloc (.cells #[.int .i64 (n : Nat), .slice ea es.length ec] 26)) (.cells #[.string ⟨#[]⟩, .slice none 0 0] 39)
  simp only [sz1] at K0
  go_enter Tryz.func76, Tryz.ntmps76
  go_wp2_with fail
  generalize ((w.alloc (.cells #[.int .i64 (n : Nat), .slice ea es.length ec] 26)).alloc (.cells #[.string ⟨#[]⟩, .slice none 0 0] 39)) = V at *
  have hV := hb0.size
  have hV2 := lt_of_block K0
  refine (cDrawName cb cap a zs V (hc.below hb0) hl (by omega)).mono ?_
  rintro e w1 ⟨s, rfl, hnm, hc1, hg1⟩
  have G1 := gtrans (gofr (some cb) hb0) hg1
  replace A0 := far_blk hg1 A0 (fun j hj => by simp at hj; omega)
  replace K0 := far_blk hg1 K0 (fun j hj => by simp at hj; omega)
  have hW1 := hg1.size
  clear hb0 hg1 hc
  -- the struct's block
  have L0 : OutC w1 (w1.alloc (.cells #[.string s, .slice none 0 0] 39)) cb s none 0 [] := ⟨grown_alloc _ _ _, one_block _ _, World.ownsRow_nil _ _ _ _⟩
  have hcbw : cb < w1.heap.size := by omega
  have hb1 := balloc w1 (.cells #[.string s, .slice none 0 0] 39)
  have A1 := blk_keep hb1 A0
  have hc2 := hc1.below hb1
  obtain ⟨⟨x0, x1⟩, -⟩ := blk2 A1
  go_wp2_with fail
  clear x0 x1
  generalize w1.alloc (.cells #[.string s, .slice none 0 0] 39) = w2 at *
  refine (cbelow cb cap a zs n _ hc2 hl (by omega) (by omega)).mono ?_
  rintro e w3 ⟨nd, rfl, n0, n1, hc3, hg3⟩
  replace L0 := L0.cur hcbw hg3
  clear hg3 hc2 hb1 A1
  go_wp2_with fail
  refine (cbelow cb cap a zs 120 _ hc3 hl (by omega) (by omega)).mono ?_
  rintro e w4 ⟨m, rfl, m0, m1, hc4, hg4⟩
  replace L0 := L0.cur hcbw hg4
  clear hg4 hc3
  go_wp2_with fail
  refine (cbelow cb cap a zs 3 _ hc4 hl (by omega) (by omega)).mono ?_
  rintro e w5 ⟨q, rfl, q0, q1, hc5, hg5⟩
  replace L0 := L0.cur hcbw hg5
  clear hg5 hc4
  have hwq : IntKind.i64.wrap (2 + q) = 2 + q := wrap_in _ (by omega) (by omega)
  obtain ⟨N, hN⟩ : ∃ N : Nat, 2 + q = (N : Int) := ⟨(2 + q).toNat, by omega⟩
  have hN1 : 2 ≤ N := by omega
  have hN2 : N ≤ 4 := by omega
  rw [hN] at hwq
  have hnd5 : nd ≤ 5 := by omega
  have hG0 : Good [] nd m := ⟨rfl, rfl, fun p hp => by simp at hp, n0, hnd5, m0, by simp; omega⟩
  have hR0 : GoodE es n [] nd := ⟨fun j hj => by simp at hj, fun p hp => by simp at hp, by omega⟩
  obtain ⟨i0, hi, hz0, hz1, hz2⟩ := info_parts infoHalts
  replace hN := hide hN
  go_wp2
  go_loopw [8, 9, 10] (fun vn vm vi wr => ∃ (j : Nat) (xs : List HaltV) (nd m : Int) (ao : Option Addr) (cp : Nat), j + xs.length = N ∧ vn = .int .i64 nd ∧ vm = .int .i64 m ∧ vi = .int .i64 j ∧ Good xs nd m ∧ GoodE es n xs nd ∧ OutC w1 wr cb s ao cp xs ∧ Cur wr cb a cap zs) (fun _ _ i _ => (intOf i).toNat)
  case atStart => exact ⟨N, [], nd, m, none, 0, by simp, rfl, rfl, by rw [hN.out], hG0, hR0, L0, hc5⟩
  case round =>
    clear hG0 hR0 L0 hc5 n0 n1 m0 m1 q0 q1 hnd5 hwq hN
    obtain ⟨j, xs, nd, m, ao, cp, hj, rfl, rfl, rfl, hG, hR, L, hC⟩ := hrel
    have A1 := far_blk L.gr A0 (fun j hj => by simp at hj; omega)
    have hJ := hide hj
    have hxl : xs.length ≤ 5 := by omega
    have hjl : j ≤ 5 := by omega
    clear hj
    by_cases hj0 : 0 < j
    · have hj0' : (0 : Int) < (j : Int) := by omega
      have hm0 := hG.m0
      have hm1 := hG.m1
      have hn0 := hG.n0
      have hn1 := hR.lt
      have hm2 : m ≤ 300 := by omega
      clear hm1
      go_wp2_with fail
      refine (cbelow cb cap a zs 4 _ hC hl (by omega) (by omega)).mono ?_
      rintro e w6 ⟨q, rfl, q0, q1, hc6, hg6⟩
      replace L := L.cur hcbw hg6
      replace A1 := far_blk hg6 A1 (fun j hj => by simp at hj; omega)
      have hw1 : IntKind.i64.wrap (m + q) = m + q := wrap_in _ (by omega) (by omega)
      clear hC hg6
      have hx2 := balloc w6 (.cells #[.int .i64 nd, .int .i64 m, .int .i64 (m + q)] 69)
      have hB := one_block w6 (.cells #[.int .i64 nd, .int .i64 m, .int .i64 (m + q)] 69)
      have ho2 := own_keep L.own hx2
      have hLt := L.lt
      obtain ⟨⟨o0, o1⟩, f0, f1⟩ := blk2 L.out
      go_wp2_with (at_builtin; refine wpList_append_own _ rfl _ _ 37 rfl (w1.heap.size + 1) 69 i0 _ 3 24 Tryz.underlying37 hi hz0 hz1 hz2 rfl (by decide) _ _ _ rfl ho2 ⟨w6.heap.size, 0, none⟩ 1 1 (HaltV.vs ⟨nd, m, m + q⟩) rfl rfl ?c1 ?c2 ?c3 ?c4 ?c5 ?_)
      case c1 => exact World.news_of_block hB
      case c2 => simp [HaltV.vs, Value.oneCell']
      case c3 => unfold maxLen; omega
      case c4 => omega
      case c5 => simp; omega
      intro v2 w7 hown hgrow _
      rcases hown.2 with ⟨_, h0⟩ | ⟨g, cap2, cur, rfl, _⟩
      · simp at h0
      have L2 := L.push hx2 hown hgrow
      have hge := own_from L.own (Nat.le_refl _)
      have hout : w7.heap[w1.heap.size]? = some (.cells #[.string s, .slice ao xs.length cp] 39) := far_blk hgrow (blk_keep hx2 L.out) (fun j hj => by have := hge j hj; omega)
      have A2 : w7.heap[w.heap.size]? = some (.cells #[.int .i64 (n : Nat), .slice ea es.length ec] 26) := far_blk hgrow (blk_keep hx2 A1) (fun j hj => by have := hge j hj; omega)
      have hc7 : Cur w7 cb a cap zs := (hc6.below hx2).grow hOn hgrow (fun k hk => by have := hge k hk; omega)
      obtain ⟨⟨u0, u1⟩, t0, t1⟩ := blk2 hout
      clear hown hgrow hB ho2 hx2 o0 o1 f0 f1 hge hout L A1 hc6
      have A3 := (Below.heap_setCell w7 ⟨w1.heap.size, 1, none⟩ (.slice (some ⟨g, 0, none⟩) (xs.length + 1) cap2) w.heap.size (by dsimp only; omega)).trans A2
      have hc8 : Cur (w7.setCell ⟨w1.heap.size, 1, none⟩ (.slice (some ⟨g, 0, none⟩) (xs.length + 1) cap2)) cb a cap zs := hc7.grow hOn (grown_set _ _ _ _) (fun k hk => by simp at hk; omega)
      clear A2 hc7
      go_wp2_with fail
      generalize (w7.setCell ⟨w1.heap.size, 1, none⟩ (.slice (some ⟨g, 0, none⟩) (xs.length + 1) cap2)) = w8 at *
      refine (cbelow cb cap a zs 14 _ hc8 hl (by omega) (by omega)).mono ?_
      rintro e w9 ⟨r, rfl, r0, r1, hc9, hg9⟩
      replace L2 := L2.cur hcbw hg9
      replace A3 := far_blk hg9 A3 (fun j hj => by simp at hj; omega)
      have hw2 : IntKind.i64.wrap (m + q + 2) = m + q + 2 := wrap_in _ (by omega) (by omega)
      have hw3 : IntKind.i64.wrap (m + q + 2 + r) = m + q + 2 + r := wrap_in _ (by omega) (by omega)
      have hw4 : IntKind.i64.wrap (nd + 1) = nd + 1 := wrap_in _ (by omega) (by omega)
      clear hg9 hc8 u0 u1 t0 t1
      have hw7 : IntKind.i64.wrap ((n : Int) - 1) = (n : Int) - 1 := wrap_in _ (by omega) (by omega)
      have hnz : (n : Int) ≠ 0 := by omega
      have hnz2 : n ≠ 0 := by omega
      have hnz3 : ((n : Int) == 0) = false := by simp; omega
      obtain ⟨⟨x0, x1⟩, -⟩ := blk2 A3
      go_wp2_with fail
      go_region_held3 (fun w' => w'.cell? ⟨w.heap.size, 0, none⟩ = some (.int .i64 (n : Nat)) ∧ w'.cell? ⟨w.heap.size, 1, none⟩ = some (.slice ea es.length ec)) (go_keep) (first
        | (go_at_call 51; refine (cbelow cb cap a zs ((n : Int) - 1) _ (hc9.below (bdraw (Below.refl _ _) 1)) hl (by omega) (by omega)).mono ?_; rintro e wp ⟨r2, rfl, r20, r21, hcp, hgp⟩; have hgp2 := gtrans (gofr (some cb) (bdraw (Below.refl _ _) 1)) hgp; have A4 := far_blk hgp2 A3 (fun j hj => by simp at hj; omega); obtain ⟨⟨v0, v1⟩, -⟩ := blk2 A4; have hw5 : IntKind.i64.wrap (nd + 1 + r2) = nd + 1 + r2 := wrap_in _ (by omega) (by omega); obtain ⟨nx, hw6, hx60, hx61⟩ := tmod_in (x := nd + 1 + r2) (n := n) (by omega) (by omega) (by omega); have hw8 : IntKind.i64.wrap nx = nx := wrap_in _ (by omega) (by omega)))
      have L3 := L2.cur hcbw hgp2
      clear L2 hgp hgp2 x0 x1 A3 hc9 hw5 hw6 hw4 hw3 hw2 hw1 hw7 hw8 hnz3
      have GE := gtrans G1 L3.gr
      have hE2 := he.gr GE hne
      have hwpl := L3.lt
      go_wp2_with fail
      refine (cDrawWayE cb cap a zs n ea ec es nd _ hcp hl (by omega) hE2 hne hes1 hes60 (hD.deg nd hn0 hn1)).mono ?_
      rintro e w10 ⟨gw, cw, q2, rfl, hwc, hhit, hgw, hc10, hg10⟩
      have L4 := L3.cur hcbw hg10
      have A5 := far_blk hg10 A4 (fun j hj => by simp at hj; omega)
      have hE3 := hE2.gr hg10 hne
      have hwj : IntKind.i64.wrap ((j : Int) - 1) = ((j - 1 : Nat) : Int) := by rw [wrap_in _ (by omega) (by omega)]; omega
      have hhq := hhit.1
      obtain ⟨hr0, hr1, hr2, hr3⟩ := hD.hit hn0 hhit
      clear L3 hcp v0 v1 A4 hE2 hg10 GE
      have e0 : es.getD q2 EdgeV.zero = es[q2] := by simp [List.getD, hhq]
      rw [e0] at hr0 hr1 hr2 hr3
      have hG2 := hG.next (n2 := otherE es[q2] nd) (by omega) q0 q1 r0 r1 hr0 (by omega) hr2
      have hR2 := hR.next (c := ⟨nd, m, m + q⟩) rfl hr3 hr1
      rcases hE3 with h | ⟨b, off, rfl, hcE⟩
      · simp [h] at hhq
      obtain ⟨p0, p1, p2, p3⟩ := hcE q2 hhq
      rw [e0] at p0 p1 p2 p3
      clear e0 hcE hhit hr0 hr1 hr2 hr3
      generalize es[q2] = y at *
      have CO := fun w' => cOtherW y nd w'
      generalize otherE y nd = oth at *
      obtain ⟨ya, yb, yl, ym⟩ := y
      unfold EdgeV.val at CO
      dsimp only at p0 p1 p2 p3
      obtain ⟨⟨x0, x1⟩, -⟩ := blk2 A5
      go_wp2_with fail
      go_region_with (go_at_call 79; with_reducible refine (CO _).mono ?_; rintro e wz ⟨rfl, hbz⟩; have Bz := undrew hbz)
      all_goals
        have L5 := L4.keep Bz
        have hc11 := hc10.below Bz
        clear L4 hc10 A5 Bz hbz x0 x1 p0 p1 p2 p3 hwc
        go_wp2
        go_roundw
        case rel => exact ⟨j - 1, xs ++ [⟨nd, m, m + q⟩], oth, m + q + 2 + r, some ⟨g, 0, none⟩, cap2, by have := hJ.out; simp; omega, rfl, rfl, by first | rfl | (congr 1; omega), hG2, hR2, L5, hc11⟩
        case measure => simp [intOf]; omega
    · obtain rfl : j = 0 := by omega
      have hlen := hJ.out
      have hT : tripB ⟨s, xs⟩ = true := by
        simp only [tripB, hnm, hG.all, hG.chain, Bool.and_true, Bool.true_and]
        exact inB_yes (by omega) (by omega)
      replace hT := hide hT
      have K1 := far_blk L.gr K0 (fun j hj => by simp at hj; omega)
      obtain ⟨⟨y0, y1⟩, f0, f1⟩ := blk2 K1
      obtain ⟨⟨o0, o1⟩, -⟩ := blk2 L.out
      have G2 := gtrans G1 L.gr
      have hfr := own_from L.own (Nat.le_refl _)
      have hne3 : w.heap.size + 1 ≠ w1.heap.size := by omega
      have hwl : w.heap.size + 1 < w1.heap.size := by omega
      have ho := L.own
      clear hlen hJ A1 A0
      go_wp2
      refine bodyPost_ret (v := .agg #[.string s, .slice ao xs.length cp]) (by simp [results, Tryz.results76, go_sem, y0, y1]) rfl ?_
      refine ⟨s, xs, ao, cp, rfl, hT.out, hR.rode, own_base (own_set (own_set ho (fun k hk => by have := hfr k hk; omega)) (fun k hk => by have := hfr k hk; omega)) (by omega), ?_, ?_⟩
      · exact (hC.grow hOn (grown_set _ _ _ _) (fun k hk => by simp at hk; omega)).grow hOn (grown_set _ _ _ _) (fun k hk => by simp at hk; omega)
      · exact grown_far (grown_far G2 (grown_set _ _ _ _) (fun k hk => by simp at hk; omega)) (grown_set _ _ _ _) (fun k hk => by simp at hk; omega)
end Go.Proofs.YtbghfihlpbcomaaGreat

/- The draw of a right timetable along a net. -/
namespace Go.Proofs.YtbghfihlpbcomaaGreat
open Go.RowKit
def TakenAns (ts : List TripV) (s : ByteArray) (w : World) (e : Ending) (w' : World) : Prop := ∃ r, e = .returned (.bool r) ∧ (r = false → ∀ i, i < ts.length → nmA ts i ≠ s) ∧ (r = true → 0 < ts.length) ∧ w' = w
set_option maxHeartbeats 800000 in
theorem cTaken (a : Option Addr) (cap : Nat) (ts : List TripV) (s : ByteArray) (w : World) (hz : Trips w a ts) (hl : ts.length ≤ 1048576) :
    Calls Tryz.prog 77 #[.slice a ts.length cap, .string s] w (TakenAns ts s w) := by
  go_enter Tryz.func77, Tryz.ntmps77
  go_wp2
  go_loop [5] (fun i => ∃ k : Nat, k ≤ ts.length ∧ i = .int .i64 k ∧ Hid (∀ i, i < k → nmA ts i ≠ s)) (fun i => ts.length - (intOf i).toNat)
  case atStart => exact ⟨0, Nat.zero_le _, rfl, hide (fun i h => by omega)⟩
  case round =>
    obtain ⟨k, hk, rfl, hI⟩ := hrel
    by_cases hlt : k < ts.length
    · have hlt' : (k : Int) < (ts.length : Int) := by omega
      obtain ⟨b, off, n, cn, rfl, c1, c2, -, c3⟩ := hz.at hlt
      have hnm : Hid ((ts.getD k TripV.zero).name = nmA ts k) := rfl
      generalize (ts.getD k TripV.zero).name = x at *
      clear c2 c3
      by_cases he : x = s
      · subst he
        clear hnm
        go_wp2
        go_ret
        exact ⟨_, rfl, (fun h => absurd h (by simp)), (fun _ => by omega), rfl⟩
      · have hne := str_ne he
        have hI2 : Hid (∀ i, i < k + 1 → nmA ts i ≠ s) := by
          refine hide (fun i hi h => ?_)
          by_cases hik : i = k
          · subst hik; rw [← hnm.out] at h; exact he h
          · exact hI.out i (by omega) h
        clear hnm
        go_wp2
        go_round
        case rel => exact ⟨k + 1, by omega, by go_num, hI2⟩
        case measure => simp [intOf]; omega
    · obtain rfl : k = ts.length := by omega
      clear hz
      go_wp2
      go_ret
      exact ⟨_, rfl, fun _ => hI.out, (fun h => by cases h), rfl⟩

/-- What is drawn of a timetable so far: the list is a row of its own, and so are the calls of each trip, apart from it. -/
structure TabD (B : Nat) (wr : World) (v : Value) (vs : List (Value × Value)) (ts : List TripV) (es : List EdgeV) : Prop where
  own : wr.ownsRow B 39 2 v ts.length (flatP vs)
  len : vs.length = ts.length
  each : ∀ j, (hj : j < vs.length) → TripOwn wr B vs[j].1 vs[j].2 (ts.getD j TripV.zero)
  apart : ∀ j, (hj : j < vs.length) → ∀ k, vs[j].2.ownBlock = some k → v.ownBlock ≠ some k
  ok : ∀ j, j < ts.length → tripB (ts.getD j TripV.zero) = true
  names : ∀ i j, i < j → j < ts.length → nmA ts i ≠ nmA ts j
  rode : ∀ j, j < ts.length → Rode es (clA ts j) ((clA ts j).length - 1)
theorem TripOwn.far {w w' : World} {lo : Nat} {va vb : Value} {t : TripV} {r : Option Nat} (h : TripOwn w lo va vb t) (hg : w.grownBy w' r) (hne : ∀ k, vb.ownBlock = some k → r ≠ some k) : TripOwn w' lo va vb t := by
  obtain ⟨h1, a, c, h2, h3⟩ := h
  subst h2
  exact ⟨h1, a, c, rfl, own_far h3 hg (fun k hk e => hne k hk e.symm)⟩
theorem TripOwn.lt {w : World} {lo : Nat} {va vb : Value} {t : TripV} (h : TripOwn w lo va vb t) : ∀ k, vb.ownBlock = some k → lo ≤ k ∧ k < w.heap.size := by
  obtain ⟨h1, a, c, h2, h3⟩ := h
  subst h2
  intro k hk
  exact ⟨own_from h3 (Nat.le_refl _) k hk, own_blk_lt h3 k hk⟩
theorem TabD.below {B : Nat} {wr w2 : World} {v : Value} {vs : List (Value × Value)} {ts : List TripV} {es : List EdgeV} (h : TabD B wr v vs ts es) (hb : Below wr.heap.size wr w2) : TabD B w2 v vs ts es :=
  ⟨own_keep h.own hb, h.len, fun j hj => (h.each j hj).below hb, h.apart, h.ok, h.names, h.rode⟩
theorem TabD.cur {B cb : Nat} {wr w2 : World} {v : Value} {vs : List (Value × Value)} {ts : List TripV} {es : List EdgeV} (h : TabD B wr v vs ts es) (hcb : cb < B) (hg : wr.grownBy w2 (some cb)) : TabD B w2 v vs ts es :=
  ⟨own_far h.own hg (fun k hk e => by have := own_from h.own (Nat.le_refl _) k hk; simp at e; omega), h.len, fun j hj => (h.each j hj).far hg (fun k hk e => by have := (h.each j hj).lt k hk; simp at e; omega), h.apart, h.ok, h.names, h.rode⟩
theorem TabD.read {B : Nat} {wr : World} {v : Value} {vs : List (Value × Value)} {ts : List TripV} {es : List EdgeV} (h : TabD B wr v vs ts es) : TripsIn wr vs ts := ⟨h.len, fun i hi => (h.each i hi).read⟩
theorem nmA_app {ts : List TripV} {t : TripV} {i : Nat} (h : i < ts.length) : nmA (ts ++ [t]) i = nmA ts i := by simp [nmA, List.getD, List.getElem?_append_left h]
theorem getD_app {ts : List TripV} {t : TripV} {i : Nat} (h : i < ts.length) : (ts ++ [t]).getD i TripV.zero = ts.getD i TripV.zero := by simp [List.getD, List.getElem?_append_left h]
theorem getD_end {ts : List TripV} {t : TripV} : (ts ++ [t]).getD ts.length TripV.zero = t := by simp [List.getD]
/-- One trip more. -/
theorem TabD.push {B : Nat} {wr wx w2 : World} {v v2 va vb : Value} {vs : List (Value × Value)} {ts : List TripV} {es : List EdgeV} {t : TripV} (h : TabD B wr v vs ts es) (hx : Below wr.heap.size wr wx)
    (hown : w2.ownsRow B 39 2 v2 (ts.length + 1) (flatP vs ++ [va, vb])) (hgrow : wx.grownBy w2 v.ownBlock) (hwhere : v2.ownBlock = v.ownBlock ∨ v2.ownBlock = some wx.heap.size)
    (hT : TripOwn wx B va vb t) (hap : ∀ k, vb.ownBlock = some k → v.ownBlock ≠ some k) (h1 : tripB t = true) (h2 : ∀ i, i < ts.length → nmA ts i ≠ t.name) (h3 : Rode es t.calls (t.calls.length - 1)) :
    TabD B w2 v2 (vs ++ [(va, vb)]) (ts ++ [t]) es := by
  have hl := h.len
  have hx' := h.below hx
  have key : ∀ j, (hj : j < vs.length) → (vs ++ [(va, vb)])[j]'(by simp; omega) = vs[j] := fun j hj => List.getElem_append_left hj
  have keyE : (vs ++ [(va, vb)])[vs.length]'(by simp) = (va, vb) := by simp
  refine ⟨?_, by simp [hl], fun j hj => ?_, fun j hj k hk => ?_, fun j hj => ?_, fun i j hij hj => ?_, fun j hj => ?_⟩
  · rw [flatP_snoc]; simpa using hown
  · by_cases hjl : j < vs.length
    · rw [key j hjl, getD_app (by omega)]
      exact (hx'.each j hjl).far hgrow (hx'.apart j hjl)
    · obtain rfl : j = vs.length := by simp at hj; omega
      rw [keyE, hl, getD_end]
      exact hT.far hgrow hap
  · by_cases hjl : j < vs.length
    · rw [key j hjl] at hk
      rcases hwhere with hw | hw
      · rw [hw]; exact h.apart j hjl k hk
      · rw [hw]; intro e; have := ((hx'.each j hjl).lt k hk).2; simp at e; omega
    · obtain rfl : j = vs.length := by simp at hj; omega
      rw [keyE] at hk
      rcases hwhere with hw | hw
      · rw [hw]; exact hap k hk
      · rw [hw]; intro e; have := (hT.lt k hk).2; simp at e; omega
  · by_cases hjl : j < ts.length
    · rw [getD_app hjl]; exact h.ok j hjl
    · obtain rfl : j = ts.length := by simp at hj; omega
      rw [getD_end]; exact h1
  · by_cases hjl : j < ts.length
    · rw [nmA_app hjl, nmA_app (by omega)]; exact h.names i j hij hjl
    · obtain rfl : j = ts.length := by simp at hj; omega
      rw [nmA_app hij, show nmA (ts ++ [t]) ts.length = t.name by unfold nmA; rw [getD_end]]
      exact h2 i hij
  · by_cases hjl : j < ts.length
    · rw [show clA (ts ++ [t]) j = clA ts j by unfold clA; rw [getD_app hjl]]; exact h.rode j hjl
    · obtain rfl : j = ts.length := by simp at hj; omega
      rw [show clA (ts ++ [t]) ts.length = t.calls by unfold clA; rw [getD_end]]
      exact h3

/-- A drawn timetable: right, along the edges, its memory its own. -/
def DrawnTab (w : World) (cb cap : Nat) (a : Option Addr) (zs : List Int) (es : List EdgeV) (e : Ending) (w' : World) : Prop :=
  ∃ ao cp vs ts, e = .returned (.slice ao (List.length ts) cp) ∧ TabD w.heap.size w' (.slice ao ts.length cp) vs ts es ∧ (1 ≤ ts.length ∧ ts.length ≤ 6) ∧ Cur w' cb a cap zs ∧ w.grownBy w' (some cb)
theorem TabD.mono {B B' : Nat} {wr : World} {v : Value} {vs : List (Value × Value)} {ts : List TripV} {es : List EdgeV} (h : TabD B wr v vs ts es) (hB : B' ≤ B) : TabD B' wr v vs ts es :=
  ⟨own_base h.own hB, h.len, fun j hj => by obtain ⟨h1, a, c, h2, h3⟩ := h.each j hj; exact ⟨h1, a, c, h2, own_base h3 hB⟩, h.apart, h.ok, h.names, h.rode⟩

set_option maxRecDepth 100000 in
set_option maxHeartbeats 6400000 in
theorem cDrawTabE (cb cap : Nat) (a : Option Addr) (zs : List Int) (n : Nat) (ea : Option Addr) (ec : Nat) (es : List EdgeV) (hD : NetD n es) (most : Int) (hm1 : 1 ≤ most) (hm6 : most ≤ 6) (w : World) (hc : Cur w cb a cap zs) (hl : zs.length ≤ 1048576) (hcb : cb < w.heap.size) (he : Edges w ea es) (hne : ∀ b off, ea = some ⟨b, off, none⟩ → b ≠ cb) :
    Calls Tryz.prog 53 #[.pointer (some ⟨cb, 0, none⟩), .agg #[.int .i64 (n : Nat), .slice ea es.length ec], .int .i64 most] w (DrawnTab w cb cap a zs es) := by
  have hOn : ∀ k, OnCur cb a zs k → k < w.heap.size := fun k hk => hc.lt hk
  obtain ⟨i0, hi, hz0, hz1, hz2⟩ := info_parts infoTrip
  have hb0 := btrans (balloc w (.cells #[.int .i64 (n : Nat), .slice ea es.length ec] 26)) (balloc _ (.cells #[] 39))
  have A0 := blk_keep (balloc _ (.cells #[] 39)) (one_block w (.cells #[.int .i64 (n : Nat), .slice ea es.length ec] 26))
  have hO := World.ownsRow_made (base := w.heap.size + 1) (e := 39) (size := 2) (w.alloc (.cells #[.int .i64 (n : Nat), .slice ea es.length ec] 26)) #[] 0 (by simp) (by unfold maxLen; omega) rfl
  rw [sz1] at hO
  go_enter Tryz.func53, Tryz.ntmps53
  go_wp2_with fail
  generalize (w.alloc (.cells #[.int .i64 (n : Nat), .slice ea es.length ec] 26)).alloc (.cells #[] 39) = V at *
  have T0 : TabD (w.heap.size + 1) V (.slice (some ⟨w.heap.size + 1, 0, none⟩) 0 0) [] [] es := ⟨hO, rfl, fun j hj => by simp at hj, fun j hj => by simp at hj, fun j hj => by simp at hj, fun i j h hj => by simp at hj, fun j hj => by simp at hj⟩
  have hc0 := hc.below hb0
  have G0 := gofr (some cb) hb0
  clear hc hb0 hO
  refine (cbelow cb cap a zs most _ hc0 hl (by omega) (by omega)).mono ?_
  rintro e w1 ⟨r, rfl, r0, r1, hc1, hg1⟩
  have G1 := gtrans G0 hg1
  have A1 := far_blk hg1 A0 (fun j hj => by simp at hj; omega)
  have T1 := T0.cur (by omega) hg1
  have hw1 : IntKind.i64.wrap (1 + r) = 1 + r := wrap_in _ (by omega) (by omega)
  obtain ⟨N, hN⟩ : ∃ N : Nat, 1 + r = (N : Int) := ⟨(1 + r).toNat, by omega⟩
  have hN6 : N ≤ 6 := by omega
  have hN1 : 1 ≤ N := by omega
  replace hN := hide hN
  clear hg1 hc0 G0 A0 T0
  go_wp2
  go_loopw [7, 8] (fun vo vi wr => ∃ (j : Nat) (vs : List (Value × Value)) (ts : List TripV), (j + ts.length ≤ N ∧ (j = N ∨ 1 ≤ ts.length)) ∧ vi = .int .i64 j ∧ TabD (w.heap.size + 1) wr vo vs ts es ∧ wr.heap[w.heap.size]? = some (.cells #[.int .i64 (n : Nat), .slice ea es.length ec] 26) ∧ Cur wr cb a cap zs ∧ w.grownBy wr (some cb)) (fun _ vi _ => (intOf vi).toNat)
  case atStart => exact ⟨N, [], [], by simp, by rw [hN.out], T1, A1, hc1, G1⟩
  case round =>
    clear T1 A1 hc1 G1 hw1 hN r0 r1
    obtain ⟨j, vs, ts, hj, rfl, T, A, hC, G⟩ := hrel
    obtain ⟨ao, cp, rfl⟩ := own_form T.own
    by_cases hj0 : 0 < j
    · have hj0' : (0 : Int) < (j : Int) := by omega
      obtain ⟨⟨x0, x1⟩, -⟩ := blk2 A
      have hAl := lt_of_block A
      go_wp2_with fail
      refine (cDrawTripE cb cap a zs n ea ec es hD _ hC hl (by omega) (he.gr G hne) hne).mono ?_
      rintro e w2 ⟨s, cs, ca, cc, rfl, hok, hrd, ho, hc2, hg2⟩
      have G2 := gtrans G hg2
      have A2 := far_blk hg2 A (fun j hj => by simp at hj; omega)
      have T2 := T.cur (by omega) hg2
      have hws := hg2.size
      have hvlt := own_blk_lt T.own
      have hap : ∀ k, (Value.slice ca cs.length cc).ownBlock = some k → (Value.slice ao ts.length cp).ownBlock ≠ some k := fun k hk e => by
        have h1 := own_from ho (Nat.le_refl _) k hk
        have h2 := hvlt k e
        omega
      have hTo : TripOwn w2 (w.heap.size + 1) (.string s) (.slice ca cs.length cc) ⟨s, cs⟩ := ⟨rfl, ca, cc, rfl, own_base ho (by omega)⟩
      clear hC G A T hg2 x0 x1 hvlt ho
      have hx := balloc w2 (.cells #[.string s, .slice ca cs.length cc] 39)
      have B3 := one_block w2 (.cells #[.string s, .slice ca cs.length cc] 39)
      have T3 := T2.below hx
      have A3 := blk_keep hx A2
      have C3 := hc2.below hx
      have G3 := gtrans G2 (gofr (some cb) hx)
      have hTo3 := hTo.below hx
      have h3s := hx.size
      clear T2 A2 hc2 G2 hTo
      obtain ⟨⟨y0, y1⟩, -⟩ := blk2 B3
      go_wp2_with fail
      generalize w2.alloc (.cells #[.string s, .slice ca cs.length cc] 39) = w3 at *
      refine (cTaken ao cp ts s _ (Trips.of_pairs T3.own T3.read) (by omega)).mono ?_
      rintro e w4 ⟨r, rfl, hr, hr1, hw4⟩
      subst w4
      have hwj : IntKind.i64.wrap ((j : Int) - 1) = ((j - 1 : Nat) : Int) := by rw [wrap_in _ (by omega) (by omega)]; omega
      cases r
      · have hnm := hide (hr rfl)
        clear hr hr1
        have hx4 := balloc w3 (.cells #[.string s, .slice ca cs.length cc] 39)
        have hB4 := one_block w3 (.cells #[.string s, .slice ca cs.length cc] 39)
        have o4 := own_keep T3.own hx4
        have hG3s := G3.size
        have h3l := lt_of_block A3
        go_wp2_with (at_builtin; refine wpList_append_own_at _ rfl _ _ 27 rfl (w.heap.size + 1) 39 i0 _ 2 40 Tryz.underlying27 hi hz0 hz1 hz2 rfl (by decide) _ _ _ rfl o4 ⟨w3.heap.size, 0, none⟩ 1 1 [.string s, .slice ca cs.length cc] rfl rfl ?c1 ?c2 ?c3 ?c4 ?c5 ?_)
        case c1 => exact World.news_of_block hB4
        case c2 => simp [Value.oneCell']
        case c3 => unfold maxLen; omega
        case c4 => omega
        case c5 => simp; omega
        intro v5 w5 hown hgrow _ hwhere
        have T5 := T3.push hx4 hown hgrow (by rw [sz1]; exact hwhere) (hTo3.below hx4) hap hok hnm.out hrd
        have hge := own_from T3.own (Nat.le_refl _)
        have A5 := far_blk hgrow (blk_keep hx4 A3) (fun j hj => by have := hge j hj; omega)
        have C5 : Cur w5 cb a cap zs := (C3.below hx4).grow hOn hgrow (fun k hk => by have := hge k hk; omega)
        have G5 : w.grownBy w5 (some cb) := grown_far (gtrans G3 (gofr _ hx4)) hgrow (fun k hk => by have := hge k hk; omega)
        clear hown hgrow hwhere hx4 hB4 o4 hge T3 A3 C3 G3 hnm hTo3 hap hok hrd
        go_wp2
        go_roundw
        case rel => exact ⟨j - 1, vs ++ [(.string s, .slice ca cs.length cc)], ts ++ [⟨s, cs⟩], ⟨by simp; omega, .inr (by simp)⟩, by first | rfl | (congr 1; omega), T5, A5, C5, G5⟩
        case measure => simp [intOf]; omega
      · have hn1 : 1 ≤ ts.length := hr1 rfl
        clear hr hr1
        go_wp2
        go_roundw
        case rel => exact ⟨j - 1, vs, ts, ⟨by omega, .inr hn1⟩, by first | rfl | (congr 1; omega), T3, A3, C3, G3⟩
        case measure => simp [intOf]; omega
    · obtain rfl : j = 0 := by omega
      go_wp2
      go_ret
      exact ⟨ao, cp, vs, ts, rfl, T.mono (by omega), by omega, hC, G⟩
end Go.Proofs.YtbghfihlpbcomaaGreat

/- The draw of a net and a timetable along it. -/
namespace Go.Proofs.YtbghfihlpbcomaaGreat
open Go.RowKit
/-- A net that is put together in its own block while a cursor moves on. -/
structure OutE (W0 wr : World) (cb n : Nat) (ao : Option Addr) (cp : Nat) (xs : List EdgeV) : Prop where
  gr : W0.grownBy wr (some cb)
  out : wr.heap[W0.heap.size]? = some (.cells #[.int .i64 (n : Nat), .slice ao xs.length cp] 26)
  own : wr.ownsRow (W0.heap.size + 1) 89 4 (.slice ao xs.length cp) xs.length (flatEdges xs)
theorem OutE.lt {W0 wr : World} {cb n : Nat} {ao : Option Addr} {cp : Nat} {xs : List EdgeV} (h : OutE W0 wr cb n ao cp xs) : W0.heap.size < wr.heap.size := lt_of_block h.out
theorem OutE.keep {W0 wr w2 : World} {cb n : Nat} {ao : Option Addr} {cp : Nat} {xs : List EdgeV} (h : OutE W0 wr cb n ao cp xs) (hb : Below wr.heap.size wr w2) : OutE W0 w2 cb n ao cp xs :=
  ⟨gtrans h.gr (gofr _ hb), blk_keep hb h.out, own_keep h.own hb⟩
theorem OutE.cur {W0 wr w2 : World} {cb n : Nat} {ao : Option Addr} {cp : Nat} {xs : List EdgeV} (h : OutE W0 wr cb n ao cp xs) (hcb : cb < W0.heap.size) (hg : wr.grownBy w2 (some cb)) : OutE W0 w2 cb n ao cp xs :=
  ⟨gtrans h.gr hg, far_blk hg h.out (fun j hj => by simp at hj; omega), own_far h.own hg (fun k hk e => by have := own_from h.own (Nat.le_refl _) k hk; simp at e; omega)⟩
theorem OutE.out2 {W0 wr wx w2 : World} {cb n : Nat} {ao : Option Addr} {cp : Nat} {xs : List EdgeV} (h : OutE W0 wr cb n ao cp xs) (hx : Below wr.heap.size wr wx) (hgrow : wx.grownBy w2 (Value.slice ao xs.length cp).ownBlock) :
    w2.heap[W0.heap.size]? = some (.cells #[.int .i64 (n : Nat), .slice ao xs.length cp] 26) :=
  far_blk hgrow (blk_keep hx h.out) (fun j hj => by have := own_from h.own (Nat.le_refl _) j hj; omega)
theorem OutE.push {W0 wr wx w2 : World} {cb n : Nat} {ao : Option Addr} {cp : Nat} {xs : List EdgeV} (h : OutE W0 wr cb n ao cp xs) {g cap : Nat} {x : EdgeV} (hx : Below wr.heap.size wr wx)
    (hown : w2.ownsRow (W0.heap.size + 1) 89 4 (.slice (some ⟨g, 0, none⟩) (xs.length + 1) cap) (xs.length + 1) (flatEdges xs ++ x.vs)) (hgrow : wx.grownBy w2 (Value.slice ao xs.length cp).ownBlock) :
    OutE W0 (w2.setCell ⟨W0.heap.size, 1, none⟩ (.slice (some ⟨g, 0, none⟩) (xs.length + 1) cap)) cb n (some ⟨g, 0, none⟩) cap (xs ++ [x]) := by
  have hge := own_from h.own (Nat.le_refl _)
  have g1 : W0.grownBy w2 (some cb) := grown_far (gtrans h.gr (gofr _ hx)) hgrow (fun k hk => by have := hge k hk; omega)
  have hout := h.out2 hx hgrow
  have hlen : (xs ++ [x]).length = xs.length + 1 := by simp
  refine ⟨grown_far g1 (grown_set _ _ _ _) (fun k hk => by simp at hk; omega), ?_, ?_⟩
  · have := blk_set (i := 1) (v := .slice (some ⟨g, 0, none⟩) (xs.length + 1) cap) hout
    rw [hlen]; simpa using this
  · rw [hlen, flatEdges_app]
    have e : flatEdges [x] = x.vs := by simp [flatEdges]
    rw [e]; exact own_set hown (fun k hk => by have := own_from hown (Nat.le_refl _) k hk; omega)
/-- The edges of a drawn tree: the one at place i joins node i + 1 to one ahead of it. -/
def TreeD (es : List EdgeV) : Prop := ∀ i, i < es.length → ∃ x : Int, 0 ≤ x ∧ x ≤ i ∧ es.getD i EdgeV.zero = ⟨(i : Int) + 1, x, 500, 20⟩
theorem TreeD.next {es : List EdgeV} (h : TreeD es) {y x : Int} (hy : y = (es.length : Int) + 1) (x0 : 0 ≤ x) (x1 : x < y) : TreeD (es ++ [⟨y, x, 500, 20⟩]) := by
  intro i hi
  by_cases hl : i < es.length
  · rw [show (es ++ [(⟨y, x, 500, 20⟩ : EdgeV)]).getD i EdgeV.zero = es.getD i EdgeV.zero by simp [List.getD, List.getElem?_append_left hl]]
    exact h i hl
  · obtain rfl : i = es.length := by simp at hi; omega
    refine ⟨x, x0, by omega, ?_⟩
    rw [show (es ++ [(⟨y, x, 500, 20⟩ : EdgeV)]).getD es.length EdgeV.zero = ⟨y, x, 500, 20⟩ by simp [List.getD], hy]
theorem goodTo_of {n : Int} {es : List EdgeV} (h : ∀ i, i < es.length → edgeB n (es.getD i EdgeV.zero) = true) : goodTo n es es.length = true := by
  simp only [goodTo, List.all_eq_true, List.mem_range]
  exact h
theorem TreeD.net {n : Nat} {es : List EdgeV} (h : TreeD es) (n2 : 2 ≤ n) (n5 : n ≤ 5) (hl : es.length + 1 = n) : NetD n es := by
  refine ⟨n2, n5, ?_, by omega, by omega, fun x x0 x1 => ?_⟩
  · refine netB_all (inB_yes (by omega) (by omega)) (by omega) (goodTo_of fun i hi => ?_)
    obtain ⟨x, x0, x1, e⟩ := h i hi
    rw [e]
    refine eB_all (inB_yes (by dsimp only; omega) (by dsimp only; omega)) (inB_yes (by dsimp only; omega) (by dsimp only; omega)) (by dsimp only; omega) rfl rfl
  · by_cases hx : x = 0
    · obtain ⟨y, y0, y1, e⟩ := h 0 (by omega)
      refine ⟨0, by omega, ?_⟩
      have : y = 0 := by omega
      rw [e, hx, this]; decide
    · obtain ⟨k, rfl⟩ : ∃ k : Nat, x = (k : Int) + 1 := ⟨(x - 1).toNat, by omega⟩
      obtain ⟨y, y0, y1, e⟩ := h k (by omega)
      refine ⟨k, by omega, ?_⟩
      rw [e]
      simp [otherE, y0]
theorem NetD.more {n : Nat} {es : List EdgeV} (h : NetD n es) (hl : es.length ≤ 50) : NetD n (es ++ [⟨0, 1, 700, 30⟩]) := by
  have n2 := h.n2
  have n5 := h.n5
  have hok := h.ok
  simp only [netB, Bool.and_eq_true] at hok
  have g1 : ∀ i, i < es.length → (es ++ [(⟨0, 1, 700, 30⟩ : EdgeV)]).getD i EdgeV.zero = es.getD i EdgeV.zero := fun i hi => by simp [List.getD, List.getElem?_append_left hi]
  have g2 : (es ++ [(⟨0, 1, 700, 30⟩ : EdgeV)]).getD es.length EdgeV.zero = ⟨0, 1, 700, 30⟩ := by simp [List.getD]
  refine ⟨n2, n5, ?_, by simp, by simp; omega, fun x x0 x1 => ?_⟩
  · refine netB_all (inB_yes (by omega) (by omega)) (by simp; omega) (goodTo_of fun i hi => ?_)
    by_cases hi2 : i < es.length
    · rw [g1 i hi2]; exact goodTo_at hok.2.2 hi2
    · obtain rfl : i = es.length := by simp at hi; omega
      rw [g2]
      refine eB_all (inB_yes (by decide) (by dsimp only; omega)) (inB_yes (by decide) (by dsimp only; omega)) (by decide) (by decide) (by decide)
  · obtain ⟨q, q1, q2⟩ := h.deg x x0 x1
    exact ⟨q, by simp; omega, by rw [g1 q q1]; exact q2⟩

theorem undrewG {w w2 : World} {r : Option Nat} (h : w.drew.grownBy w2 r) : w.grownBy w2 r := ⟨h.os, h.tape, h.output, h.size, h.block⟩
/-- A drawn net and a drawn timetable along it. -/
def DrawnBoth (w : World) (cb : Nat) (e : Ending) (w' : World) : Prop :=
  ∃ (n : Nat) (es : List EdgeV) (ea : Option Addr) (ec : Nat) (ao : Option Addr) (cp : Nat) (vs : List (Value × Value)) (ts : List TripV), e = .returned (.tuple #[.agg #[.int .i64 n, .slice ea es.length ec], .slice ao ts.length cp]) ∧ NetD n es ∧ Edges w' ea es ∧ (∀ b off, ea = some ⟨b, off, none⟩ → w.heap.size ≤ b) ∧ TabD w.heap.size w' (.slice ao ts.length cp) vs ts es ∧ (1 ≤ ts.length ∧ ts.length ≤ 6) ∧ w.grownBy w' (some cb)

theorem DrawnTab.parts {w : World} {cb cap : Nat} {a : Option Addr} {zs : List Int} {es : List EdgeV} {e : Ending} {w' : World} (h : DrawnTab w cb cap a zs es e w') : ∃ ao cp vs ts, e = .returned (.slice ao (List.length ts) cp) ∧ TabD w.heap.size w' (.slice ao ts.length cp) vs ts es ∧ (1 ≤ ts.length ∧ ts.length ≤ 6) ∧ Cur w' cb a cap zs ∧ w.grownBy w' (some cb) := h
set_option maxRecDepth 100000 in
set_option maxHeartbeats 6400000 in
theorem cDrawBoth (cb cap : Nat) (a : Option Addr) (zs : List Int) (w : World) (hc : Cur w cb a cap zs) (hl : zs.length ≤ 1048576) (hcb : cb < w.heap.size) :
    Calls Tryz.prog 29 #[.pointer (some ⟨cb, 0, none⟩), .slice a zs.length cap] w (DrawnBoth w cb) := by
  have hOn : ∀ k, OnCur cb a zs k → k < w.heap.size := fun k hk => hc.lt hk
  obtain ⟨i0, hi, hz0, hz1, hz2⟩ := info_parts infoEdges
  have hb0 := balloc w (.cells #[.int .i64 0, .slice none 0 0] 26)
  have K0 := one_block w (.cells #[.int .i64 0, .slice none 0 0] 26)
  go_enter Tryz.func29, Tryz.ntmps29
  go_wp2_with fail
  generalize w.alloc (.cells #[.int .i64 0, .slice none 0 0] 26) = V at *
  have hc0 := hc.below hb0
  have G0 := gofr (some cb) hb0
  clear hc hb0
  refine (cbelow cb cap a zs 4 _ hc0 hl (by omega) (by omega)).mono ?_
  rintro e w1 ⟨r, rfl, r0, r1, hc1, hg1⟩
  have G1 := gtrans G0 hg1
  have K1 := far_blk hg1 K0 (fun j hj => by simp at hj; omega)
  have hK1 := lt_of_block K1
  have hw1 : IntKind.i64.wrap (2 + r) = 2 + r := wrap_in _ (by omega) (by omega)
  obtain ⟨n, hN⟩ : ∃ n : Nat, 2 + r = (n : Int) := ⟨(2 + r).toNat, by omega⟩
  have n2 : 2 ≤ n := by omega
  have n5 : n ≤ 5 := by omega
  rw [hN] at hw1
  clear hg1 hc0 G0 K0
  have hcbw : cb < w1.heap.size := by omega
  have L0 : OutE w1 (w1.alloc (.cells #[.int .i64 (n : Nat), .slice none 0 0] 26)) cb n none 0 [] := ⟨grown_alloc _ _ _, one_block _ _, World.ownsRow_nil _ _ _ _⟩
  have hc2 := hc1.below (balloc w1 (.cells #[.int .i64 (n : Nat), .slice none 0 0] 26))
  go_wp2_with fail
  clear hN r0 r1 hw1
  generalize w1.alloc (.cells #[.int .i64 (n : Nat), .slice none 0 0] 26) = w2 at *
  go_loopw [7] (fun vi wr => ∃ (es : List EdgeV) (ao : Option Addr) (cp : Nat), es.length + 1 ≤ n ∧ vi = .int .i64 ((es.length : Int) + 1) ∧ TreeD es ∧ OutE w1 wr cb n ao cp es ∧ Cur wr cb a cap zs) (fun vi _ => n - (intOf vi).toNat)
  case atStart => exact ⟨[], none, 0, by simp; omega, by simp, fun i hi => by simp at hi, L0, hc2⟩
  case round =>
    clear L0 hc1 hc2
    obtain ⟨es, ao, cp, hes, rfl, hT, L, hC⟩ := hrel
    obtain ⟨⟨o0, o1⟩, f0, f1⟩ := blk2 L.out
    by_cases hlt : (es.length : Int) + 1 < n
    · have hLt := L.lt
      have hw2 : IntKind.i64.wrap ((es.length : Int) + 1) = (es.length : Int) + 1 := wrap_in _ (by omega) (by omega)
      have hw3 : IntKind.i64.wrap ((es.length : Int) + 1 + 1) = (es.length : Int) + 1 + 1 := wrap_in _ (by omega) (by omega)
      go_wp2_with fail
      go_region_law (first
        | (go_simp; go_at_call 51; refine (cbelow cb cap a zs ((es.length : Int) + 1) _ (hC.below (Below.refl _ _).drew) hl (by omega) (by omega)).mono ?_; rintro e w3 ⟨y, rfl, y0, y1, C3, G3d⟩; have G3' := undrewG G3d; clear G3d; have O3 := L.cur hcbw G3'; obtain ⟨⟨t0, t1⟩, m0, m1⟩ := blk2 O3.out; have hlt3 := O3.lt; dsimp only)
        | (refine step_append_lies _ (by rfl) _ _ _ (by rfl) (w1.heap.size + 1) 89 i0 _ 4 32 Tryz.underlying24 hi hz0 hz1 hz2 rfl (by decide) (.slice ao es.length cp) es.length (flatEdges es) (by rfl) (by exact O3.own.alloc _) ⟨w3.heap.size, 0, none⟩ 1 1 (EdgeV.vs ⟨(es.length : Int) + 1, y, 500, 20⟩) (by rfl) (by rfl) (World.news_of_block (cs := #[.int .i64 ((es.length : Int) + 1), .int .i64 y, .int .i64 500, .int .i64 20]) (t := 89) (fr := (0, 0)) (heap_alloc_new w3 _)) (by simp [EdgeV.vs, Value.oneCell']) (by decide) (by unfold maxLen; omega) (by omega) (by simp; omega) (w3.heap.size + 1) (by simp) ?_; intro g cap2 w6 hown hgrow hat hlt2; obtain ⟨⟨u0, u1⟩, q0, q1⟩ := blk2 (O3.out2 (balloc _ _) hgrow)))
      all_goals (
        have L2 := O3.push (x := ⟨(es.length : Int) + 1, y, 500, 20⟩) (balloc _ _) hown hgrow
        have hge := own_from O3.own (Nat.le_refl _)
        have C6 : Cur w6 cb a cap zs := (C3.below (balloc _ _)).grow hOn hgrow (fun k hk => by have := hge k hk; omega)
        have C7 := C6.grow hOn (grown_set w6 w1.heap.size 1 (.slice (some ⟨g, 0, none⟩) (es.length + 1) cap2)) (fun k hk => by simp at hk; omega)
        have hT2 := hT.next (y := (es.length : Int) + 1) rfl y0 y1
        clear hown hgrow hat hlt2 u0 u1 q0 q1 t0 t1 m0 m1 C3 C6 O3 hge L hC o0 o1 f0 f1 hT)
      all_goals go_wp2
      all_goals go_roundw
      all_goals first
        | exact ⟨es ++ [⟨(es.length : Int) + 1, y, 500, 20⟩], some ⟨g, 0, none⟩, cap2, by simp; omega, by first | (simp; done) | (congr 1; simp), hT2, L2, C7⟩
        | (simp [intOf]; omega)
    · have hn : es.length + 1 = n := by omega
      have hD := hT.net n2 n5 hn
      have hes := hD.few
      have hLt := L.lt
      have K2 := far_blk L.gr K1 (fun j hj => by simp at hj; omega)
      have G2 := gtrans G1 L.gr
      have hes5 : es.length ≤ 5 := by omega
      clear hT K1 G1 hn hes
      go_wp2_with fail
      refine (conce cb cap a zs 3 _ hC hl (by omega) (by omega)).mono ?_
      rintro e w3 ⟨r, rfl, hc3, hg3⟩
      have L3 := L.cur hcbw hg3
      have K3 := far_blk hg3 K2 (fun j hj => by simp at hj; omega)
      have G3 := gtrans G2 hg3
      clear L K2 G2 hC hg3 o0 o1 f0 f1
      cases r
      · have hLt4 := L3.lt
        have hEd := Edges.own L3.own
        have hneE : ∀ b off, ao = some ⟨b, off, none⟩ → b ≠ cb := fun b off e => by
          have hge := own_from L3.own (Nat.le_refl _) b
          cases e
          have := hge rfl
          omega
        have CT := fun (m : Int) (m1 : 1 ≤ m) (m6 : m ≤ 6) => (cDrawTabE cb cap a zs n ao cp es hD m m1 m6 w3.drew (hc3.below (Below.refl _ _).drew) hl (by show cb < w3.heap.size; omega) (hEd.below (Below.refl _ _).drew) hneE)
        obtain ⟨⟨t0, t1⟩, -⟩ := blk2 L3.out
        have hbn1 : w.heap.size ≠ w1.heap.size := by omega
        have hbn2 : w1.heap.size ≠ w.heap.size := by omega
        go_wp2_with fail
        go_region_held3 (fun w' => w'.cell? ⟨w1.heap.size, 0, none⟩ = some (.int .i64 (n : Nat)) ∧ w'.cell? ⟨w1.heap.size, 1, none⟩ = some (.slice ao es.length cp)) (go_keep) (first
          | (go_at_call 53; with_reducible refine (CT m m1 m6).mono ?_; intro e w5 hA; obtain ⟨ta, tc, vs, ts, rfl, hTab, h6, hC5, hG5⟩ := hA.parts; have hG5' := undrewG hG5; have L5 := L3.cur hcbw hG5'; have K5 := far_blk hG5' K3 (fun j hj => by simp at hj; omega); obtain ⟨⟨v0, v1⟩, -⟩ := blk2 L5.out; obtain ⟨⟨k0, k1⟩, p0, p1⟩ := blk2 K5)
          | (go_at_call 54; with_reducible refine (csize a zs.length cap 6 _ hl (by omega) (by omega)).mono ?_; rintro e w' ⟨m, rfl, m1', m6, hw'⟩; subst hw'; have m1 : 1 ≤ m := by omega))
        have hws := hG5'.size
        have G5 := gtrans G3 hG5'
        have hTab' : TabD w3.heap.size w5 (.slice ta ts.length tc) vs ts es := hTab
        have hTab2 := hTab'.mono (show w.heap.size + 1 ≤ w3.heap.size by omega)
        have hE5 := Edges.own L5.own
        go_wp2
        refine bodyPost_ret (v := .tuple #[.agg #[.int .i64 (n : Nat), .slice ao es.length cp], .slice ta ts.length tc]) (by simp [results, Tryz.results29, go_sem, k0, k1]) rfl ?_
        have hge5 := own_from L5.own (Nat.le_refl _)
        have hneE2 : ∀ b off, ao = some ⟨b, off, none⟩ → b ≠ w.heap.size := fun b off e => by
          have := hge5 b
          cases e
          have := this rfl
          omega
        have hneE3 : ∀ b off, ao = some ⟨b, off, none⟩ → w.heap.size ≤ b := fun b off e => by
          have := hge5 b
          cases e
          have := this rfl
          omega
        refine ⟨n, es, ao, cp, ta, tc, vs, ts, rfl, hD, (hE5.gr (grown_set _ _ _ _) hneE2).gr (grown_set _ _ _ _) hneE2, hneE3, ((hTab2.cur (by omega) (grown_set _ _ _ _)).cur (by omega) (grown_set _ _ _ _)).mono (by omega), h6, ?_⟩
        exact grown_far (grown_far G5 (grown_set _ _ _ _) (fun k hk => by simp at hk; omega)) (grown_set _ _ _ _) (fun k hk => by simp at hk; omega)
      · have hx4 := balloc w3 (.cells #[.int .i64 0, .int .i64 1, .int .i64 700, .int .i64 30] 89)
        have hB4 := one_block w3 (.cells #[.int .i64 0, .int .i64 1, .int .i64 700, .int .i64 30] 89)
        have o4 := own_keep L3.own hx4
        have hLt3 := L3.lt
        obtain ⟨⟨o0, o1⟩, f0, f1⟩ := blk2 L3.out
        go_wp2_with (at_builtin; refine wpList_append_own _ rfl _ _ 24 rfl (w1.heap.size + 1) 89 i0 _ 4 32 Tryz.underlying24 hi hz0 hz1 hz2 rfl (by decide) _ _ _ rfl o4 ⟨w3.heap.size, 0, none⟩ 1 1 (EdgeV.vs ⟨0, 1, 700, 30⟩) rfl rfl ?c1 ?c2 ?c3 ?c4 ?c5 ?_)
        case c1 => exact World.news_of_block hB4
        case c2 => simp [EdgeV.vs, Value.oneCell']
        case c3 => unfold maxLen; omega
        case c4 => omega
        case c5 => simp; omega
        intro v2 w6 hown hgrow _
        rcases hown.2 with ⟨_, h0⟩ | ⟨g, cap2, cur, rfl, _⟩
        · simp at h0
        have L4 := L3.push (x := ⟨0, 1, 700, 30⟩) hx4 hown hgrow
        have hge := own_from L3.own (Nat.le_refl _)
        obtain ⟨⟨u0, u1⟩, q0, q1⟩ := blk2 (L3.out2 hx4 hgrow)
        have C6 : Cur w6 cb a cap zs := (hc3.below hx4).grow hOn hgrow (fun k hk => by have := hge k hk; omega)
        have hc4 := C6.grow hOn (grown_set w6 w1.heap.size 1 (.slice (some ⟨g, 0, none⟩) (es.length + 1) cap2)) (fun k hk => by simp at hk; omega)
        have K6 := far_blk hgrow (blk_keep hx4 K3) (fun j hj => by have := hge j hj; omega)
        have K4 := far_blk (grown_set w6 w1.heap.size 1 (.slice (some ⟨g, 0, none⟩) (es.length + 1) cap2)) K6 (fun j hj => by simp at hj; omega)
        have G6 : w.grownBy w6 (some cb) := grown_far (gtrans G3 (gofr _ hx4)) hgrow (fun k hk => by have := hge k hk; omega)
        have G4 := grown_far G6 (grown_set w6 w1.heap.size 1 (.slice (some ⟨g, 0, none⟩) (es.length + 1) cap2)) (fun k hk => by simp at hk; omega)
        clear hown hgrow hx4 hB4 o4 hge C6 K6 G6 o0 o1 f0 f1 L3 K3 G3 hc3
        go_upto_region 9 with fail
        clear u0 u1 q0 q1
        generalize w6.setCell ⟨w1.heap.size, 1, none⟩ (.slice (some ⟨g, 0, none⟩) (es.length + 1) cap2) = w4 at *
        have hD2 := hD.more (by omega)
        generalize es ++ [(⟨0, 1, 700, 30⟩ : EdgeV)] = es2 at L4 hD2
        clear hD
        have hLt4 := L4.lt
        have hEd := Edges.own L4.own
        have hneE : ∀ b off, (some ⟨g, 0, none⟩ : Option Addr) = some ⟨b, off, none⟩ → b ≠ cb := fun b off e => by
          have hge := own_from L4.own (Nat.le_refl _) b
          cases e
          have := hge rfl
          omega
        have CT := fun (m : Int) (m1 : 1 ≤ m) (m6 : m ≤ 6) => (cDrawTabE cb cap a zs n (some ⟨g, 0, none⟩) cap2 es2 hD2 m m1 m6 w4.drew (hc4.below (Below.refl _ _).drew) hl (by show cb < w4.heap.size; omega) (hEd.below (Below.refl _ _).drew) hneE)
        obtain ⟨⟨t0, t1⟩, -⟩ := blk2 L4.out
        have hbn1 : w.heap.size ≠ w1.heap.size := by omega
        have hbn2 : w1.heap.size ≠ w.heap.size := by omega
        go_wp2_with fail
        go_region_held3 (fun w' => w'.cell? ⟨w1.heap.size, 0, none⟩ = some (.int .i64 (n : Nat)) ∧ w'.cell? ⟨w1.heap.size, 1, none⟩ = some (.slice (some ⟨g, 0, none⟩) es2.length cap2)) (go_keep) (first
          | (go_at_call 53; with_reducible refine (CT m m1 m6).mono ?_; intro e w5 hA; obtain ⟨ta, tc, vs, ts, rfl, hTab, h6, hC5, hG5⟩ := hA.parts; have hG5' := undrewG hG5; have L5 := L4.cur hcbw hG5'; have K5 := far_blk hG5' K4 (fun j hj => by simp at hj; omega); obtain ⟨⟨v0, v1⟩, -⟩ := blk2 L5.out; obtain ⟨⟨k0, k1⟩, p0, p1⟩ := blk2 K5)
          | (go_at_call 54; with_reducible refine (csize a zs.length cap 6 _ hl (by omega) (by omega)).mono ?_; rintro e w' ⟨m, rfl, m1', m6, hw'⟩; subst hw'; have m1 : 1 ≤ m := by omega))
        have hws := hG5'.size
        have G5 := gtrans G4 hG5'
        have hTab' : TabD w4.heap.size w5 (.slice ta ts.length tc) vs ts es2 := hTab
        have hTab2 := hTab'.mono (show w.heap.size + 1 ≤ w4.heap.size by omega)
        have hE5 := Edges.own L5.own
        go_wp2
        refine bodyPost_ret (v := .tuple #[.agg #[.int .i64 (n : Nat), .slice (some ⟨g, 0, none⟩) es2.length cap2], .slice ta ts.length tc]) (by simp [results, Tryz.results29, go_sem, k0, k1]) rfl ?_
        have hge5 := own_from L5.own (Nat.le_refl _)
        have hneE2 : ∀ b off, (some ⟨g, 0, none⟩ : Option Addr) = some ⟨b, off, none⟩ → b ≠ w.heap.size := fun b off e => by
          have := hge5 b
          cases e
          have := this rfl
          omega
        have hneE3 : ∀ b off, (some ⟨g, 0, none⟩ : Option Addr) = some ⟨b, off, none⟩ → w.heap.size ≤ b := fun b off e => by
          have := hge5 b
          cases e
          have := this rfl
          omega
        refine ⟨n, es2, some ⟨g, 0, none⟩, cap2, ta, tc, vs, ts, rfl, hD2, (hE5.gr (grown_set _ _ _ _) hneE2).gr (grown_set _ _ _ _) hneE2, hneE3, ((hTab2.cur (by omega) (grown_set _ _ _ _)).cur (by omega) (grown_set _ _ _ _)).mono (by omega), h6, ?_⟩
        exact grown_far (grown_far G5 (grown_set _ _ _ _) (fun k hk => by simp at hk; omega)) (grown_set _ _ _ _) (fun k hk => by simp at hk; omega)
end Go.Proofs.YtbghfihlpbcomaaGreat

/- The draw of a right ride, and the mathematics of its uses. -/
namespace Go.Proofs.YtbghfihlpbcomaaGreat
open Go.RowKit
theorem trip_small {t : TripV} (h : tripB t = true) : t.name.size ≤ 12 ∧ t.calls.length ≤ 12 := by
  obtain ⟨h1, h2, h3, _, _⟩ := trip_parts h
  simp only [nameB, Bool.and_eq_true] at h1
  have := inB_true h1.2
  omega
theorem TabD.small {B : Nat} {wr : World} {v : Value} {vs : List (Value × Value)} {ts : List TripV} {es : List EdgeV} (h : TabD B wr v vs ts es) (h6 : ts.length ≤ 6) : Small ts := by
  refine ⟨by omega, fun t ht => ?_⟩
  obtain ⟨i, hi, rfl⟩ := List.mem_iff_getElem.1 ht
  have := h.ok i hi
  rw [show ts.getD i TripV.zero = ts[i] by simp [List.getD, hi]] at this
  have := trip_small this
  omega
theorem TabD.ridden {B n : Nat} {wr : World} {v : Value} {vs : List (Value × Value)} {ts : List TripV} {es : List EdgeV} (h : TabD B wr v vs ts es) (hD : NetD n es) (h6 : ts.length ≤ 6) : Ridden n es ts :=
  ⟨hD.ok, ⟨by omega, h.ok, h.names⟩, h.rode⟩
/-- A drawn net and a timetable that rides on it. -/
def DrawnRide (w : World) (e : Ending) (w' : World) : Prop :=
  ∃ (n : Nat) (es : List EdgeV) (ea : Option Addr) (ec : Nat) (ao : Option Addr) (cp : Nat) (ts : List TripV), e = .returned (.tuple #[.agg #[.int .i64 n, .slice ea es.length ec], .slice ao ts.length cp]) ∧ Edges w' ea es ∧ es.length ≤ 60 ∧ Trips w' ao ts ∧ Small ts ∧ Ridden n es ts ∧ (1 ≤ ts.length ∧ ts.length ≤ 6) ∧ Below w.heap.size w w'

set_option maxRecDepth 100000 in
set_option maxHeartbeats 1600000 in
theorem cDrawRide (a : Option Addr) (cap : Nat) (zs : List Int) (w : World) (hz : Bytes w a zs) (hl : zs.length ≤ 1048576) :
    Calls Tryz.prog 6 #[.slice a zs.length cap] w (DrawnRide w) := by
  have hb0 := balloc w (.cells #[.int .i64 0, .slice none 0 0] 26)
  have K0 := one_block w (.cells #[.int .i64 0, .slice none 0 0] 26)
  go_enter Tryz.func6, Tryz.ntmps6
  go_wp2_with fail
  generalize w.alloc (.cells #[.int .i64 0, .slice none 0 0] 26) = V at *
  have hV := lt_of_block K0
  refine (cnew a cap zs _ (hz.below hb0) hl).mono ?_
  rintro e w1 ⟨cb, rfl, hcb, hc, hb1⟩
  have K1 := blk_keep hb1 K0
  have B1 := btrans hb0 hb1
  have hcl := hc.lt (k := cb) (.inl rfl)
  clear hb0 hb1 K0
  go_wp2_with fail
  refine (cDrawBoth cb cap a zs _ hc hl hcl).mono ?_
  rintro e w2 ⟨n, es, ea, ec, ao, cp, vs, ts, rfl, hD, hE, hEb, hT, h6, hg⟩
  have K2 := far_blk hg K1 (fun j hj => by simp at hj; omega)
  have B2 : Below w.heap.size w w2 := B1.grown hg B1.size (fun k hk => by simp at hk; omega)
  have hw1 := lt_of_block K1
  obtain ⟨⟨k0, k1⟩, p0, p1⟩ := blk2 K2
  clear K1 K2 hc
  go_wp2
  refine bodyPost_ret (v := .tuple #[.agg #[.int .i64 (n : Nat), .slice ea es.length ec], .slice ao ts.length cp]) (by simp [results, Tryz.results6, go_sem, k0, k1]) rfl ?_
  have hT2 := (hT.cur (cb := w.heap.size) (by omega) (grown_set w2 w.heap.size 0 (.int .i64 (n : Nat)))).cur (cb := w.heap.size) (by omega) (grown_set _ w.heap.size 1 (.slice ea es.length ec))
  refine ⟨n, es, ea, ec, ao, cp, ts, rfl, ?_, hD.few, Trips.of_pairs hT2.own hT2.read, hT.small h6.2, hT.ridden hD h6.2, h6, below_set (by omega) (below_set (by omega) B2)⟩
  have hne : ∀ b off, ea = some ⟨b, off, none⟩ → b ≠ w.heap.size := fun b off e => by have := hEb b off e; omega
  exact (hE.gr (grown_set _ _ _ _) hne).gr (grown_set _ _ _ _) hne

theorem clash_symm (a b : RideV) (h : Int) : clashB a b h = clashB b a h := by
  unfold clashB
  have e1 : decide (a.e = b.e) = decide (b.e = a.e) := by simp [eq_comm]
  by_cases hd : a.d = b.d
  · rw [if_pos hd, if_pos hd.symm, e1]
    cases rideB a <;> cases rideB b <;> cases inB h 0 60 <;> cases decide (b.e = a.e) <;> cases leadB a b h <;> cases leadB b a h <;> rfl
  · rw [if_neg hd, if_neg (fun e => hd e.symm), e1]
    cases rideB a <;> cases rideB b <;> cases inB h 0 60 <;> cases decide (b.e = a.e) <;> cases decide (a.f < b.t) <;> cases decide (b.f < a.t) <;> rfl
theorem callD_at {cs : List HaltV} (h : cs.all callB = true) {i : Nat} (hi : i < cs.length) : 0 ≤ (cs.getD i HaltV.zero).a ∧ (cs.getD i HaltV.zero).a ≤ (cs.getD i HaltV.zero).d ∧ (cs.getD i HaltV.zero).d ≤ 100000 := by
  rw [List.all_eq_true] at h
  have := h cs[i] (List.getElem_mem hi)
  rw [show cs.getD i HaltV.zero = cs[i] by simp [List.getD, hi]]
  simp only [callB, Bool.and_eq_true] at this
  have h1 := inB_true this.1.2
  have h2 := inB_true this.2
  omega
theorem stepD_at : ∀ {cs : List HaltV}, chainB cs = true → ∀ {i : Nat}, i + 1 < cs.length → (cs.getD i HaltV.zero).d < (cs.getD (i + 1) HaltV.zero).a
  | [], _, i, hi => by simp at hi
  | [_], _, i, hi => by simp at hi
  | p :: c :: cs, h, 0, hi => by
    simp only [chainB, stepB, Bool.and_eq_true, decide_eq_true_eq] at h
    simpa using h.1.1
  | p :: c :: cs, h, i + 1, hi => by
    simp only [chainB, Bool.and_eq_true] at h
    have := stepD_at h.2 (i := i) (by simpa using hi)
    simpa using this
theorem use_right {n : Int} {es : List EdgeV} {ts : List TripV} (hR : Ridden n es ts) {u : RideV} (hu : u ∈ usesL es ts) : rideB u = true := by
  simp only [usesL, usesTo, List.mem_flatMap, List.mem_range, legsTo, List.mem_map] at hu
  obtain ⟨i, hi, j, hj, rfl⟩ := hu
  have hT := hR.2.1
  obtain ⟨_, c2, c12, call, chain⟩ := trip_parts (hT.2.1 i hi)
  have hrd := hR.2.2 i hi j hj
  have hjl : j + 1 < (clA ts i).length := by unfold clA at *; omega
  have s1 := stepD_at (cs := clA ts i) chain hjl
  have a1 := callD_at (cs := clA ts i) call (i := j) (by omega)
  have a2 := callD_at (cs := clA ts i) call hjl
  have h24 := hT.1
  have hn := hR.1
  simp only [netB, Bool.and_eq_true, decide_eq_true_eq] at hn
  have h60 := hn.2.1
  have hd : inB (dirE es ((clA ts i).getD j HaltV.zero).n ((clA ts i).getD (j + 1) HaltV.zero).n) 0 1 = true := by
    unfold dirE; split <;> decide
  simp only [rideB, useOf, Bool.and_eq_true]
  refine ⟨inB_yes (by omega) (by omega), hd, inB_yes (by omega) (by omega), decide_eq_true (by omega), decide_eq_true (by omega), decide_eq_true (by omega)⟩
theorem legs_next {es : List EdgeV} {ts : List TripV} {k : Nat} (h : Table ts) (hk : k < ts.length) : (((usesTo es ts k).length : Nat) : Int) + ((ts.getD k TripV.zero).calls.length : Int) - 1 = ((usesTo es ts (k + 1)).length : Nat) := by
  rw [usesTo_succ, List.length_append, legsTo_len]
  obtain ⟨_, c2, _, _, _⟩ := trip_parts (h.2.1 k hk)
  unfold clA
  omega
end Go.Proofs.YtbghfihlpbcomaaGreat

