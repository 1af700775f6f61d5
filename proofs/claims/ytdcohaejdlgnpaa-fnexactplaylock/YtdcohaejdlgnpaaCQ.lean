/- A list of routes copied; plants and lockings copied. -/
import Derived.Test.YtdcohaejdlgnpaaCP
namespace Go.Proofs.Ytdcohaejdlgnpaa
open Go.RowKit
def flatP (vs : List (Value × Value)) : List Value := vs.flatMap fun q => [q.1, q.2]
theorem flatP_cons (q : Value × Value) (vs : List (Value × Value)) : flatP (q :: vs) = q.1 :: q.2 :: flatP vs := rfl
theorem flatP_len (vs : List (Value × Value)) : (flatP vs).length = vs.length * 2 := by
  induction vs with
  | nil => rfl
  | cons e es ih => rw [flatP_cons]; simp only [List.length_cons, ih]; omega
theorem flatP_app (xs ys : List (Value × Value)) : flatP (xs ++ ys) = flatP xs ++ flatP ys := by simp [flatP]
theorem flatP_get (vs : List (Value × Value)) : ∀ i, (hi : i < vs.length) → (flatP vs)[i * 2]? = some vs[i].1 ∧ (flatP vs)[i * 2 + 1]? = some vs[i].2 := by
  induction vs with
  | nil => intro i hi; simp at hi
  | cons e es ih =>
    intro i hi
    rw [flatP_cons]
    cases i with
    | zero => simp
    | succ i =>
      have h := ih i (by simpa using hi)
      have e1 : (i + 1) * 2 = i * 2 + 1 + 1 := by omega
      rw [e1]
      simpa using h
theorem infoRoute : (Try.prog.info? 66).map (fun i => (i.zero, i.size, i.bytes)) = some (some (.agg #[.slice none 0 0, .slice none 0 0]), 2, 48) := by kernel_rfl
theorem madeRoute (n : Nat) : (madeCells (Value.agg #[.slice none 0 0, .slice none 0 0]).cells (n * 2)).toList = List.replicate (n * 2) (Value.slice none 0 0) := by
  apply List.ext_getElem?
  intro j
  by_cases hj : j < n * 2
  · have h4 : j % 2 < 2 := Nat.mod_lt _ (by omega)
    simp only [madeCells, Value.cells]
    generalize hq : j % 2 = q at h4
    match q, h4 with
    | 0, _ => simp [hj, hq]
    | 1, _ => simp [hj, hq]
  · simp [madeCells, hj]
theorem stepRoute (vs : List (Value × Value)) (n k : Nat) (va vb : Value) (hv : vs.length = k) (hk : k < n) :
    ((flatP vs ++ List.replicate ((n - k) * 2) (Value.slice none 0 0)).set (k * 2) va).set (k * 2 + 1) vb = flatP (vs ++ [(va, vb)]) ++ List.replicate ((n - (k + 1)) * 2) (Value.slice none 0 0) := by
  have e1 : (n - k) * 2 = (n - (k + 1)) * 2 + 1 + 1 := by omega
  have e2 : (flatP vs).length = k * 2 := by rw [flatP_len, hv]
  rw [List.set_append_right _ _ (by omega), List.set_append_right _ _ (by omega), e2, e1, List.replicate_succ, List.replicate_succ, flatP_app]
  have a0 : k * 2 - k * 2 = 0 := by omega
  have a1 : k * 2 + 1 - k * 2 = 1 := by omega
  rw [a0, a1]
  simp [flatP]
/-- Routes that the call itself made: the list's own block lies ahead of all of theirs. -/
def RoutesOwn (w : World) (lo hi : Nat) (a : Option Addr) (rs : List RouteV) : Prop :=
  ∃ g, a = some ⟨g, 0, none⟩ ∧ lo ≤ g ∧ g < hi ∧ ∀ i, i < rs.length → ∃ va vb, w.cell? ⟨g, i * 2, none⟩ = some va ∧ w.cell? ⟨g, i * 2 + 1, none⟩ = some vb ∧ RouteOwn w (g + 1) hi va vb (rs.getD i RouteV.zero)
theorem RoutesOwn.below {w w' : World} {lo hi : Nat} {a : Option Addr} {rs : List RouteV} (h : RoutesOwn w lo hi a rs) (hb : Below w.heap.size w w') : RoutesOwn w' lo hi a rs := by
  obtain ⟨g, ha, h1, h2, hc⟩ := h
  refine ⟨g, ha, h1, h2, fun i hi => ?_⟩
  obtain ⟨va, vb, c1, c2, c3⟩ := hc i hi
  exact ⟨va, vb, ble hb c1, ble hb c2, c3.below hb⟩
theorem RoutesOwn.wider {w : World} {lo hi lo' hi' : Nat} {a : Option Addr} {rs : List RouteV} (h : RoutesOwn w lo hi a rs) (g1 : lo' ≤ lo) (g2 : hi ≤ hi') : RoutesOwn w lo' hi' a rs := by
  obtain ⟨g, ha, h1, h2, hc⟩ := h
  refine ⟨g, ha, by omega, by omega, fun i hi => ?_⟩
  obtain ⟨va, vb, c1, c2, c3⟩ := hc i hi
  exact ⟨va, vb, c1, c2, c3.wider (by omega) (by omega)⟩
theorem RoutesOwn.read {w : World} {lo hi : Nat} {a : Option Addr} {rs : List RouteV} (h : RoutesOwn w lo hi a rs) : Routes w a rs := by
  obtain ⟨g, ha, h1, h2, hc⟩ := h
  refine .inr ⟨g, 0, ha, fun i hi => ?_⟩
  obtain ⟨va, vb, c1, c2, a, ca, b, cb, q1, q2, q3, q4, _, _, q0⟩ := hc i hi
  rw [Nat.zero_add]
  exact ⟨va, vb, c1, c2, a, ca, b, cb, q1, q2, q0, q3, q4⟩

theorem frozen_of_heap {w w' : World} {b o : Nat} (h : w'.heap[b]? = w.heap[b]?) : w'.frozen? ⟨b, o, none⟩ = w.frozen? ⟨b, o, none⟩ := by simp [World.frozen?, h]
theorem Wz.same {w w' : World} {lo hi : Nat} {a : Option Addr} {n : Nat} (h : Wz w lo hi a n) (hs : ∀ k, lo ≤ k → w'.heap[k]? = w.heap[k]?) : Wz w' lo hi a n := by
  rcases h with h | ⟨b, off, h1, h2, h3, hc⟩
  · exact .inl h
  · refine .inr ⟨b, off, h1, h2, h3, fun i hi => ?_⟩
    obtain ⟨⟨v, hv⟩, hf⟩ := hc i hi
    exact ⟨⟨v, (cell_of_heap (hs b h2)).trans hv⟩, (frozen_of_heap (hs b h2)).trans hf⟩
theorem Ints.same {w w' : World} {lo hi : Nat} {a : Option Addr} {zs : List Int} (h : Ints w a zs) (g : Wz w lo hi a zs.length) (hs : ∀ k, lo ≤ k → w'.heap[k]? = w.heap[k]?) : Ints w' a zs := by
  rcases h with h | ⟨b, off, rfl, hc⟩
  · exact .inl h
  rcases g with g | ⟨b', off', g1, g2, _⟩
  · exact .inl (List.length_eq_zero_iff.1 g)
  · simp only [Option.some.injEq, Addr.mk.injEq] at g1
    obtain ⟨rfl, rfl, _⟩ := g1
    exact .inr ⟨b, off, rfl, fun i hi => (cell_of_heap (hs b g2)).trans (hc i hi)⟩
theorem Needs.same {w w' : World} {lo hi : Nat} {a : Option Addr} {es : List NeedV} (h : Needs w a es) (g : Wz w lo hi a (es.length * 2)) (hs : ∀ k, lo ≤ k → w'.heap[k]? = w.heap[k]?) : Needs w' a es := by
  rcases h with h | ⟨b, off, rfl, hc⟩
  · exact .inl h
  rcases g with g | ⟨b', off', g1, g2, _⟩
  · exact .inl (List.length_eq_zero_iff.1 (by omega))
  · simp only [Option.some.injEq, Addr.mk.injEq] at g1
    obtain ⟨rfl, rfl, _⟩ := g1
    exact .inr ⟨b, off, rfl, fun i hi => ⟨(cell_of_heap (hs b g2)).trans (hc i hi).1, (cell_of_heap (hs b g2)).trans (hc i hi).2⟩⟩
theorem RouteOwn.same {w w' : World} {lo hi : Nat} {va vb : Value} {r : RouteV} (h : RouteOwn w lo hi va vb r) (hs : ∀ k, lo ≤ k → w'.heap[k]? = w.heap[k]?) : RouteOwn w' lo hi va vb r := by
  obtain ⟨a, ca, b, cb, h1, h2, h3, h4, h5, h6, h7⟩ := h
  exact ⟨a, ca, b, cb, h1, h2, h3.same h5 hs, h4.same h6 hs, h5.same hs, h6.same hs, h7⟩
theorem RoutesOwn.same {w w' : World} {lo hi : Nat} {a : Option Addr} {rs : List RouteV} (h : RoutesOwn w lo hi a rs) (hs : ∀ k, lo ≤ k → w'.heap[k]? = w.heap[k]?) : RoutesOwn w' lo hi a rs := by
  obtain ⟨g, ha, h1, h2, hc⟩ := h
  refine ⟨g, ha, h1, h2, fun i hi => ?_⟩
  obtain ⟨va, vb, c1, c2, c3⟩ := hc i hi
  exact ⟨va, vb, (cell_of_heap (hs g h1)).trans c1, (cell_of_heap (hs g h1)).trans c2, c3.same (fun k hk => hs k (by omega))⟩
theorem heap_set2 {w : World} {g i j : Nat} {u v : Value} : ∀ k, g + 1 ≤ k → ((w.setCell ⟨g, i, none⟩ u).setCell ⟨g, j, none⟩ v).heap[k]? = w.heap[k]? := fun k hk =>
  (Below.heap_setCell _ _ _ _ (by rintro rfl; omega)).trans (Below.heap_setCell _ _ _ _ (by rintro rfl; omega))

set_option maxHeartbeats 3200000 in
theorem cToRoutes (a : Option Addr) (cap : Nat) (rs : List RouteV) (w : World) (hR : Routes w a rs) (hl : rs.length ≤ 1048576) (he : ∀ r ∈ rs, r.needs.length ≤ 1048576 ∧ r.blocks.length ≤ 1048576) :
    Calls Try.prog 51 #[.slice a rs.length cap] w fun e w' => ∃ b, e = .returned (.slice b rs.length rs.length) ∧ RoutesOwn w' w.heap.size w'.heap.size b rs ∧ Below w.heap.size w w' := by
  obtain ⟨i0, hi, hz0, hz1, hz2⟩ := info_parts infoRoute
  go_enter Try.func51, Try.ntmps51
  go_wp2_with (at_make; refine wpList_make_full _ rfl _ _ 28 rfl w.heap.size 66 i0 (.agg #[.slice none 0 0, .slice none 0 0]) 2 Try.underlying28 hi hz0 hz1 _ _ _ _ rs.length rfl rfl rfl rfl (by rw [hz2]; omega) (by unfold maxLen; omega) (Nat.le_refl _) ?_; intro w1 hown hgrow)
  have hown' : w1.ownsRow w.heap.size 66 2 (.slice (some ⟨w.heap.size, 0, none⟩) rs.length rs.length) rs.length (flatP [] ++ List.replicate ((rs.length - 0) * 2) (Value.slice none 0 0)) := by
    rw [madeRoute] at hown
    simpa [flatP] using hown
  have hbel : Below w.heap.size w w1 := (Below.refl _ _).grown hgrow (Nat.le_refl _) (fun k hk => by cases hk)
  clear hown hgrow
  go_loopw [4] (fun i wr => ∃ (k : Nat) (vs : List (Value × Value)), k ≤ rs.length ∧ i = .int .i64 k ∧ vs.length = k ∧ wr.ownsRow w.heap.size 66 2 (.slice (some ⟨w.heap.size, 0, none⟩) rs.length rs.length) rs.length (flatP vs ++ List.replicate ((rs.length - k) * 2) (Value.slice none 0 0)) ∧ (∀ j, (hj : j < vs.length) → RouteOwn wr (w.heap.size + 1) wr.heap.size vs[j].1 vs[j].2 (rs.getD j RouteV.zero)) ∧ Below w.heap.size w wr) (fun i _ => rs.length - (intOf i).toNat)
  case atStart => exact ⟨0, [], Nat.zero_le _, rfl, rfl, hown', fun j hj => by simp at hj, hbel⟩
  case round =>
    obtain ⟨k, vs, hk, rfl, hvl, hown, hall, hb⟩ := hrel
    by_cases hlt : k < rs.length
    · obtain ⟨b, off, n, cn, m, cm, rfl, c1, c2, -, c3, c4⟩ := (hR.below hb).at hlt
      have e0 : rs.getD k RouteV.zero = rs[k] := by simp [List.getD, hlt]
      have hek := he rs[k] (List.getElem_mem hlt)
      rw [e0] at c1 c2 c3 c4
      have hbs := cell_lt c1
      have CT := cToRoute n m cn cm rs[k] wr c3 c4 hek.1 hek.2
      have hg : w.heap.size < wr.heap.size := owns_lt hown
      replace e0 := hide e0
      generalize rs[k] = R at *
      clear hown' hbel c3 c4 hek
      go_wp2_with fail
      refine CT.mono ?_
      rintro e w2 ⟨va, vb, rfl, hro, hb1⟩
      obtain ⟨⟨na, nca, hva⟩, nb, ncb, hvb⟩ : (∃ a c, va = .slice a R.needs.length c) ∧ (∃ a c, vb = .slice a R.blocks.length c) := by
        obtain ⟨q1, q2, q3, q4, h1, h2, _⟩ := hro
        exact ⟨⟨q1, q2, h1⟩, q3, q4, h2⟩
      have HB1 := btrans hb hb1
      have O1 := own_keep hown hb1
      have f0 := O1.frozenAt (k * 2)
      have f1 := O1.frozenAt (k * 2 + 1)
      have z : ∀ j, j < 2 → w2.cell? ⟨w.heap.size, k * 2 + j, none⟩ = some (.slice none 0 0) := by
        intro j hj
        rw [O1.cellAt _ (by omega), List.getElem?_append_right (by rw [flatP_len]; omega)]
        simp [List.getElem?_replicate, flatP_len]
        omega
      have z0 := z 0 (by omega)
      have z1 := z 1 (by omega)
      have O2 := ((O1.stored (k * 2) va).1.stored (k * 2 + 1) vb).1
      rw [stepRoute vs rs.length k va vb hvl hlt] at O2
      have HB2 := ((HB1.setCell (p := ⟨w.heap.size, k * 2, none⟩) (Nat.le_refl _) va).setCell (p := ⟨w.heap.size, k * 2 + 1, none⟩) (Nat.le_refl _) vb)
      rw [Nat.add_zero] at z0
      have hsz := hb1.size
      have A2 : ∀ j, (hj : j < (vs ++ [(va, vb)]).length) → RouteOwn ((w2.setCell ⟨w.heap.size, k * 2, none⟩ va).setCell ⟨w.heap.size, k * 2 + 1, none⟩ vb) (w.heap.size + 1) w2.heap.size (vs ++ [(va, vb)])[j].1 (vs ++ [(va, vb)])[j].2 (rs.getD j RouteV.zero) := by
        intro j hj
        refine RouteOwn.same ?_ heap_set2
        by_cases hjk : j < vs.length
        · have e : (vs ++ [(va, vb)])[j] = vs[j] := List.getElem_append_left hjk
          rw [e]
          exact ((hall j hjk).below hb1).wider (Nat.le_refl _) hsz
        · have hjj : j = k := by simp at hj; omega
          subst hjj
          have e : (vs ++ [(va, vb)])[j] = (va, vb) := by simp [List.getElem_append_right, hvl]
          rw [e, e0.out]
          exact hro.wider (by omega) (Nat.le_refl _)
      clear z O1 hown hb1 hb HB1 hall hro
      subst hva hvb
      go_wp2
      go_roundw
      case rel => exact ⟨k + 1, vs ++ [(_, _)], by omega, by go_num, by simp [hvl], O2, fun j hj => by simpa using A2 j hj, HB2⟩
      case measure => simp [intOf]; omega
    · obtain rfl : k = rs.length := by omega
      have hg : w.heap.size < wr.heap.size := owns_lt hown
      have K : RoutesOwn wr w.heap.size wr.heap.size (some ⟨w.heap.size, 0, none⟩) rs := by
        refine ⟨_, rfl, Nat.le_refl _, hg, fun i hi => ?_⟩
        have hi' : i < vs.length := by omega
        obtain ⟨q1, q2⟩ := flatP_get vs i hi'
        have hfl := flatP_len vs
        exact ⟨vs[i].1, vs[i].2, by rw [hown.cellAt _ (by omega), List.getElem?_append_left (by omega)]; exact q1, by rw [hown.cellAt _ (by omega), List.getElem?_append_left (by omega)]; exact q2, hall i hi'⟩
      clear hown hown' hbel hall hvl
      go_wp2
      go_ret
      exact ⟨_, rfl, K, hb⟩

/-- A plant that the call itself made: its points ahead of its routes. -/
def PlantOwn (w : World) (lo hi : Nat) (a b : Option Addr) (p : PlantV) : Prop :=
  ∃ mid, lo ≤ mid ∧ mid ≤ hi ∧ Ints w a p.under ∧ Wz w lo mid a p.under.length ∧ RoutesOwn w mid hi b p.routes
theorem PlantOwn.read {w : World} {lo hi : Nat} {a b : Option Addr} {p : PlantV} (h : PlantOwn w lo hi a b p) : PlantIn w a b p := by
  obtain ⟨_, _, _, h1, _, h2⟩ := h
  exact ⟨h1, h2.read⟩
theorem PlantOwn.below {w w' : World} {lo hi : Nat} {a b : Option Addr} {p : PlantV} (h : PlantOwn w lo hi a b p) (hb : Below w.heap.size w w') : PlantOwn w' lo hi a b p := by
  obtain ⟨m, h1, h2, h3, h4, h5⟩ := h
  exact ⟨m, h1, h2, h3.below hb, h4.below hb, h5.below hb⟩

set_option maxHeartbeats 3200000 in
theorem cToPlant (a b : Option Addr) (ca cb : Nat) (p : PlantV) (w : World) (hP : PlantIn w a b p) (hS : Small p) :
    Calls Try.prog 14 #[plantVal a ca b cb p] w fun e w' => ∃ a' ca' b' cb', e = .returned (plantVal a' ca' b' cb' p) ∧ PlantOwn w' w.heap.size w'.heap.size a' b' p ∧ Below w.heap.size w w' := by
  obtain ⟨U, B, R⟩ := p
  obtain ⟨hU, hR⟩ := hP
  obtain ⟨s1, s2, s3⟩ := hS
  dsimp only at *
  unfold plantVal
  dsimp only
  have HB := below3 w (.cells #[.slice a U.length ca, .int .i64 B, .slice b R.length cb] 25) (.cells #[.slice none 0 0, .int .i64 0, .slice none 0 0] 30) (.cells #[.slice none 0 0, .int .i64 0, .slice none 0 0] 30)
  obtain ⟨k1, k2, k3⟩ := three_blocks w (.cells #[.slice a U.length ca, .int .i64 B, .slice b R.length cb] 25) (.cells #[.slice none 0 0, .int .i64 0, .slice none 0 0] 30) (.cells #[.slice none 0 0, .int .i64 0, .slice none 0 0] 30)
  have hS := size3 w (.cells #[.slice a U.length ca, .int .i64 B, .slice b R.length cb] 25) (.cells #[.slice none 0 0, .int .i64 0, .slice none 0 0] 30) (.cells #[.slice none 0 0, .int .i64 0, .slice none 0 0] 30)
  go_enter Try.func14, Try.ntmps14
  go_wp2_with fail
  refine (cToInts a ca U _ (hU.below HB) s1).mono ?_
  rintro e w1 ⟨g1, rfl, o1, hg1, hb⟩
  rw [hS] at hg1 o1
  have hg1' : w.heap.size + 1 + 1 < g1 := by omega
  clear hg1
  replace k1 := blk_keep hb k1
  replace k2 := blk_keep hb k2
  replace k3 := blk_keep hb k3
  replace HB := btrans HB hb
  have hl1 := owns_lt o1
  clear hb
  obtain ⟨⟨p0, p1, p2⟩, -⟩ := blk3 k1
  obtain ⟨⟨q0, q1, q2⟩, f0, f1, f2⟩ := blk3 k3
  clear p0 q2 f2
  go_wp2_with fail
  replace HB := below_set (o := 1) (v := .int .i64 B) (b := w.heap.size + 1 + 1) (by omega) (below_set (o := 0) (v := .slice (some ⟨g1, 0, none⟩) U.length U.length) (b := w.heap.size + 1 + 1) (by omega) HB)
  replace k3 := blk_set (i := 1) (v := .int .i64 B) (blk_set (i := 0) (v := .slice (some ⟨g1, 0, none⟩) U.length U.length) k3)
  replace k2 := blk_other (b := w.heap.size + 1 + 1) (i := 1) (v := .int .i64 B) (blk_other (b := w.heap.size + 1 + 1) (i := 0) (v := .slice (some ⟨g1, 0, none⟩) U.length U.length) k2 (by omega)) (by omega)
  replace o1 := own_set (b := w.heap.size + 1 + 1) (i := 1) (u := .int .i64 B) (own_set (b := w.heap.size + 1 + 1) (i := 0) (u := .slice (some ⟨g1, 0, none⟩) U.length U.length) o1 (fun k hk => by simp [Value.ownBlock] at hk; omega)) (fun k hk => by simp [Value.ownBlock] at hk; omega)
  clear k1 p1 q0 f0 p2 q1 f1
  have hS2 : ((w1.setCell ⟨w.heap.size + 1 + 1, 0, none⟩ (.slice (some ⟨g1, 0, none⟩) U.length U.length)).setCell ⟨w.heap.size + 1 + 1, 1, none⟩ (.int .i64 B)).heap.size = w1.heap.size := by simp
  refine (cToRoutes b cb R _ (hR.below HB) s2 s3).mono ?_
  rintro e w2 ⟨g2, rfl, o2, hb⟩
  rw [hS2] at o2
  replace k2 := blk_keep hb k2
  replace k3 := blk_keep hb k3
  replace HB := btrans HB hb
  replace o1 := own_keep o1 hb
  have hss := hb.size
  rw [hS2] at hss
  clear hb hS2
  simp only [List.setIfInBounds_toArray, List.set_cons_zero, List.set_cons_succ] at k3
  obtain ⟨⟨q0, q1, q2⟩, f0, f1, f2⟩ := blk3 k2
  obtain ⟨⟨r0, r1, r2⟩, t0, t1, t2⟩ := blk3 k3
  clear k2 k3 hS
  go_wp2_with fail
  refine bodyPost_ret (v := .agg #[.slice (some ⟨g1, 0, none⟩) U.length U.length, .int .i64 B, .slice g2 R.length R.length]) (by simp [results, Try.results14, go_sem, q0, q1, q2]) rfl ⟨_, _, _, _, rfl, ?_, ?_⟩
  · have e1 := own_set (b := w.heap.size + 1) (i := 2) (u := .slice g2 R.length R.length) (own_set (b := w.heap.size + 1) (i := 1) (u := .int .i64 B) (own_set (b := w.heap.size + 1) (i := 0) (u := .slice (some ⟨g1, 0, none⟩) U.length U.length) (own_set (b := w.heap.size + 1 + 1) (i := 2) (u := .slice g2 R.length R.length) o1 (fun k hk => by simp [Value.ownBlock] at hk; omega)) (fun k hk => by simp [Value.ownBlock] at hk; omega)) (fun k hk => by simp [Value.ownBlock] at hk; omega)) (fun k hk => by simp [Value.ownBlock] at hk; omega)
    exact ⟨w1.heap.size, by omega, by simpa using hss, Ints.own e1 rfl, wz_ints e1 (by omega) (fun k hk => by simp [Value.ownBlock] at hk; omega), RoutesOwn.same (o2.wider (Nat.le_refl _) (by simp)) (lo := w1.heap.size) (fun k hk => by
      rw [Below.heap_setCell _ _ _ _ (by dsimp only; omega), Below.heap_setCell _ _ _ _ (by dsimp only; omega), Below.heap_setCell _ _ _ _ (by dsimp only; omega), Below.heap_setCell _ _ _ _ (by dsimp only; omega)])⟩
  · exact below_set (by omega) (below_set (by omega) (below_set (by omega) (below_set (by omega) HB)))
end Go.Proofs.Ytdcohaejdlgnpaa
