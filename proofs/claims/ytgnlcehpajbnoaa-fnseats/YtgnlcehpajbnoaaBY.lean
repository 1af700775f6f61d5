/- The book of a train. -/
import Derived.Test.YtgnlcehpajbnoaaBX
import Derived.Deep.RegionHeld3
namespace Go.Proofs.Ytgnlcehpajbnoaa
open Go.RowKit Go.Lib
theorem sizeBks : (Try.prog.info? 78).map (·.size) = some 4 := by
  obtain ⟨i0, hi, hz0, hz1, hz2⟩ := info_parts infoBks
  rw [hi]; simp [hz1]
theorem flatBks_one (es : List BkV) : ∀ u ∈ flatBks es, u.oneCell' = true := by
  intro u hu
  simp only [flatBks, List.mem_flatMap, BkV.vs] at hu
  obtain ⟨e, _, he⟩ := hu
  simp only [List.mem_cons, List.not_mem_nil, or_false] at he
  rcases he with rfl | rfl | rfl | rfl <;> rfl
theorem Bks.all {w : World} {b off : Nat} {es : List BkV} (hc : ∀ i, i < es.length → w.cell? ⟨b, off + i * 4, none⟩ = some (.int .i64 (es.getD i BkV.zero).i) ∧ w.cell? ⟨b, off + i * 4 + 1, none⟩ = some (.int .i64 (es.getD i BkV.zero).s) ∧ w.cell? ⟨b, off + i * 4 + 2, none⟩ = some (.int .i64 (es.getD i BkV.zero).n) ∧ w.cell? ⟨b, off + i * 4 + 3, none⟩ = some (.int .i64 (es.getD i BkV.zero).f)) (j : Nat) (v : Value) (hj : (flatBks es)[j]? = some v) : w.cell? ⟨b, off + j, none⟩ = some v := by
  have hl : j < es.length * 4 := by have := (List.getElem?_eq_some_iff.1 hj).1; rwa [flatBks_len] at this
  obtain ⟨c0, c1, c2, c3⟩ := hc (j / 4) (by omega)
  obtain ⟨f0, f1, f2, f3⟩ := flatBks_get es (j / 4) (by omega)
  have e : j = j / 4 * 4 + j % 4 := by omega
  have h4 : j % 4 < 4 := Nat.mod_lt _ (by omega)
  generalize j / 4 = p at *
  generalize j % 4 = r at *
  match r, h4 with
  | 0, _ => rw [e] at hj ⊢; rw [Nat.add_zero] at hj ⊢; rw [c0, ← f0]; exact hj
  | 1, _ => rw [e] at hj ⊢; rw [← Nat.add_assoc, c1, ← f1]; exact hj
  | 2, _ => rw [e] at hj ⊢; rw [← Nat.add_assoc, c2, ← f2]; exact hj
  | 3, _ => rw [e] at hj ⊢; rw [← Nat.add_assoc, c3, ← f3]; exact hj
/-- Bookings copied into a row that is as long. -/
theorem copy_row (W : World) (B gh : Nat) (a : Option Addr) (c : Nat) (hs : List BkV) (zs : List Value) (ho : W.ownsRow B 78 4 (.slice (some ⟨gh, 0, none⟩) hs.length hs.length) hs.length zs) (hz : Bks W a hs) :
    ∃ W', (∀ ty, (Builtin.copy_ #[24, 24] ty #[.slice (some ⟨gh, 0, none⟩) hs.length hs.length, .slice a hs.length c]).run Try.prog W = .ok (goInt hs.length) W') ∧
      W'.ownsRow B 78 4 (.slice (some ⟨gh, 0, none⟩) hs.length hs.length) hs.length (flatBks hs) ∧ W.grownBy W' (some gh) := by
  rcases ho.2 with ⟨h0, _⟩ | ⟨g, cap, cur, he, hg, hh, hnc, hcm, hcs, hx⟩
  · cases h0
  simp only [Value.slice.injEq, Option.some.injEq, Addr.mk.injEq] at he
  obtain ⟨⟨rfl, _⟩, _, rfl⟩ := he
  rcases hz with h | ⟨b, off, rfl, hc⟩
  · subst h
    obtain ⟨i0, hi, hz0, hz1, hz2⟩ := info_parts infoBks
    refine ⟨W, fun ty => ?_, ?_, World.grownBy.refl _ _⟩
    · cases a with
      | none => simp [Builtin.copy_, run_underlying Try.underlying24, Builtin.lenOf, Builtin.firstCells, sizeOf, typeInfo, hi, storeCells]
      | some a =>
        have hl := run_loadCells_list (P := Try.prog) W a [] (fun j v hj => by simp at hj)
        simp at hl
        simp [Builtin.copy_, run_underlying Try.underlying24, Builtin.lenOf, Builtin.firstCells, sizeOf, typeInfo, hi, hl, storeCells]
    · refine ⟨rfl, .inr ⟨gh, 0, cur, rfl, hg, hh, hnc, hcm, hcs, ?_⟩⟩
      simp [flatBks]
  · refine ⟨W.setRow gh (flatBks hs).toArray, fun ty => ?_, ⟨flatBks_len hs, .inr ⟨gh, hs.length, (flatBks hs).toArray, rfl, hg, setRow_heap _ _ _ _ _ _ hh, Nat.le_refl _, hcm, by simp [flatBks_len], by simp [List.take_of_length_le, flatBks_len]⟩⟩, grow_row1 _ _ _⟩
    have := run_copy_s (P := Try.prog) W 24 78 ty 4 Try.underlying24 sizeBks gh 0 hs.length hs.length ⟨b, off, none⟩ hs.length c hs.length cur 78 (flatBks hs) hh (Nat.min_self _) (flatBks_len hs) (by rw [flatBks_len, hcs]; omega)
      (fun j v hj => by rw [addN]; exact Bks.all hc j v hj) (flatBks_one hs)
    have e : cur.toList.take 0 ++ flatBks hs ++ cur.toList.drop (0 + (flatBks hs).length) = flatBks hs := by
      rw [List.drop_of_length_le (by simp [flatBks_len, hcs])]; simp
    rw [this, e]
theorem blocks2 (w : World) (o1 o2 : Obj) : ((w.alloc o1).alloc o2).heap[w.heap.size]? = some o1 ∧ ((w.alloc o1).alloc o2).heap[w.heap.size + 1]? = some o2 := by
  refine ⟨blk_keep (balloc _ _) (heap_alloc_new w o1), ?_⟩
  have h := heap_alloc_new (w.alloc o1) o2
  rwa [sz1] at h
theorem own_setg {w : World} {base e sz g n cap b i : Nat} {xs : List Value} {u : Value} (hne : g ≠ b) (h : w.ownsRow base e sz (.slice (some ⟨g, 0, none⟩) n cap) n xs) : (w.setCell ⟨b, i, none⟩ u).ownsRow base e sz (.slice (some ⟨g, 0, none⟩) n cap) n xs :=
  own_set h (by intro k hk; simp [Value.ownBlock] at hk; omega)
theorem made_at (j k : Nat) (hj : j < k) : (madeCells (pcA fun _ => false) k)[j]? = some (.bool false) := by
  have h4 : j % 11 < 11 := Nat.mod_lt _ (by omega)
  have hz : (pcA fun _ => false).size = 11 := rfl
  simp only [madeCells, hz]
  generalize hq : j % 11 = q at h4
  match q, h4 with
  | 0, _ | 1, _ | 2, _ | 3, _ | 4, _ | 5, _ | 6, _ | 7, _ | 8, _ | 9, _ | 10, _ => simp [hj, hq, pcA]
theorem made_grid {w : World} {B g N : Nat} (h : w.ownsRow B 101 11 (.slice (some ⟨g, 0, none⟩) N N) N (madeCells (Value.agg (pcA fun _ => false)).cells (N * 11)).toList) : w.heap[g]? = some (.cells (gridL [] N).toArray 101 (0, 0)) := by
  rcases h.2 with ⟨h0, _⟩ | ⟨g', cap, cur, he, _, hh, _, _, hcs, hx⟩
  · cases h0
  simp only [Value.slice.injEq, Option.some.injEq, Addr.mk.injEq] at he
  obtain ⟨⟨rfl, _⟩, _, rfl⟩ := he
  rw [List.take_of_length_le (by simp [hcs])] at hx
  have e : cur.toList = gridL [] N := by
    rw [hx]
    apply grid_ext
    · have := h.1; exact this
    · intro s q hs hq
      rw [Array.getElem?_toList]
      exact made_at _ _ (by omega)
  rw [hh, ← e]
/-- The train in a book. -/
def TrAt (w : World) (B b : Nat) (S P : Int) (gh ch : Nat) (hs : List BkV) : Prop :=
  (∃ v, w.heap[b]? = some (.cells #[.int .i64 S, .int .i64 P, .slice (some ⟨gh, 0, none⟩) hs.length ch, v] 72 (0, 0))) ∧ w.ownsRow B 78 4 (.slice (some ⟨gh, 0, none⟩) hs.length ch) hs.length (flatBks hs)
theorem TrAt.below {w w1 : World} {B b : Nat} {S P : Int} {gh ch : Nat} {hs : List BkV} (h : TrAt w B b S P gh ch hs) (hb : Below w.heap.size w w1) : TrAt w1 B b S P gh ch hs := by
  obtain ⟨⟨v, hv⟩, ho⟩ := h
  exact ⟨⟨v, blk_keep hb hv⟩, own_keep ho hb⟩
theorem Bk.tr {w : World} {B b : Nat} {N : Nat} {P : Int} {gh ch : Nat} {hs : List BkV} {gs : Nat} {ds : List BkV} (h : Bk w B b N P gh ch hs gs ds) : TrAt w B b N P gh ch hs := ⟨⟨_, h.blk⟩, h.held⟩
/-- What the book of a train is. -/
def BookP (w : World) (S P : Int) (hs : List BkV) (e : Ending) (w' : World) : Prop :=
  ∃ b gh, e = .returned (.tuple #[.pointer (some ⟨b, 0, none⟩), .bool (trainB S P hs)]) ∧ TrAt w' w.heap.size b S P gh hs.length hs ∧ Below w.heap.size w w' ∧ (trainB S P hs = true → ∃ gs, Bk w' w.heap.size b S.toNat P gh hs.length hs gs hs)
theorem BookP.no {w w' : World} {S P : Int} {hs : List BkV} {b gh : Nat} (h : trainB S P hs = false) (hT : TrAt w' w.heap.size b S P gh hs.length hs) (hb : Below w.heap.size w w') : BookP w S P hs (.returned (.tuple #[.pointer (some ⟨b, 0, none⟩), .bool false])) w' :=
  ⟨b, gh, by rw [h], hT, hb, fun e => by rw [h] at e; cases e⟩

set_option maxRecDepth 20000 in
set_option maxHeartbeats 6400000 in
theorem cBookOf (S P : Int) (a : Option Addr) (c : Nat) (hs : List BkV) (w : World) (hz : Bks w a hs) (hl : hs.length ≤ 1048576) :
    Calls Try.prog 48 #[.agg #[.int .i64 S, .int .i64 P, .slice a hs.length c]] w (BookP w S P hs) := by
  obtain ⟨i0, hi, hz0, hz1, hz2⟩ := info_parts infoBks
  have kk := blocks2 w (Obj.cells #[.int .i64 S, .int .i64 P, .slice a hs.length c] 26) (Obj.cells #[.int .i64 S, .int .i64 P, .slice a hs.length c, .slice none 0 0] 72)
  have hb2 := btrans (balloc w (Obj.cells #[.int .i64 S, .int .i64 P, .slice a hs.length c] 26)) (balloc _ (Obj.cells #[.int .i64 S, .int .i64 P, .slice a hs.length c, .slice none 0 0] 72))
  have hs2 : ((w.alloc (Obj.cells #[.int .i64 S, .int .i64 P, .slice a hs.length c] 26)).alloc (Obj.cells #[.int .i64 S, .int .i64 P, .slice a hs.length c, .slice none 0 0] 72)).heap.size = w.heap.size + 1 + 1 := by simp
  have hC1 := fun V => cWithin S 1 60 V
  have hC2 := fun V => cWithin P 1 11 V
  go_enter Try.func48, Try.ntmps48
  go_wp2_with (at_make; refine wpList_make_full _ rfl _ _ 24 rfl w.heap.size 78 i0 _ 4 Try.underlying24 hi hz0 hz1 _ _ _ _ hs.length rfl rfl rfl rfl (by rw [hz2]; omega) (by unfold maxLen; omega) (by simp; omega) ?_; intro w3 hown hgrow; have kb := (hgrow.block (w.heap.size + 1) (by simp) (by simp)).trans kk.2; have kt := (hgrow.block w.heap.size (by simp; omega) (by simp)).trans kk.1; have q2 : w3.cell? ⟨w.heap.size + 1, 2, none⟩ = some (.slice a hs.length c) := Go.Joins.cell_of_block kb 2; have f2 : w3.frozen? ⟨w.heap.size + 1, 2, none⟩ = false := Go.Joins.unfrozen_of_block kb 2)
  have hb3 : Below w.heap.size w w3 := grow_below' hb2 hgrow (fun k e => by cases e)
  rw [hs2] at hown
  have hn0 : w.heap.size + 1 + 1 < w3.heap.size := owns_lt hown
  have hown4 := own_setg (b := w.heap.size + 1) (i := 2) (u := .slice (some ⟨w.heap.size + 1 + 1, 0, none⟩) hs.length hs.length) (by omega) hown
  have kb4 := blk_set (i := 2) (v := .slice (some ⟨w.heap.size + 1 + 1, 0, none⟩) hs.length hs.length) kb
  have kt4 : (w3.setCell ⟨w.heap.size + 1, 2, none⟩ (.slice (some ⟨w.heap.size + 1 + 1, 0, none⟩) hs.length hs.length)).heap[w.heap.size]? = some (Obj.cells #[.int .i64 S, .int .i64 P, .slice a hs.length c] 26) := blk_other kt (by omega)
  have hb4 := below_set (o := 2) (v := .slice (some ⟨w.heap.size + 1 + 1, 0, none⟩) hs.length hs.length) (show w.heap.size ≤ w.heap.size + 1 by omega) hb3
  generalize hV : w3.setCell ⟨w.heap.size + 1, 2, none⟩ (.slice (some ⟨w.heap.size + 1 + 1, 0, none⟩) hs.length hs.length) = V at *
  clear hV hown kb kt q2 f2 hb3 hgrow kk hb2 hs2 hn0
  replace kb4 : V.heap[w.heap.size + 1]? = some (.cells #[.int .i64 S, .int .i64 P, .slice (some ⟨w.heap.size + 1 + 1, 0, none⟩) hs.length hs.length, .slice none 0 0] 72 (0, 0)) := kb4
  obtain ⟨V5, hcp, hown5, hg5⟩ := copy_row V.drew w.heap.size (w.heap.size + 1 + 1) a c hs _ hown4 ((hz.below hb4).below (bdraw (Below.refl _ _) 1))
  have t0 : V.cell? ⟨w.heap.size, 2, none⟩ = some (.slice a hs.length c) := Go.Joins.cell_of_block kt4 2
  have t1 : V.cell? ⟨w.heap.size + 1, 2, none⟩ = some (.slice (some ⟨w.heap.size + 1 + 1, 0, none⟩) hs.length hs.length) := Go.Joins.cell_of_block kb4 2
  have hlv0 : w.heap.size + 1 < V.heap.size := lt_of_block kb4
  have t0' : V5.cell? ⟨w.heap.size, 2, none⟩ = some (.slice a hs.length c) := Go.Joins.cell_of_block ((hg5.block w.heap.size (Nat.lt_trans (Nat.lt_succ_self _) hlv0) (by simp; omega)).trans kt4) 2
  have t1' : V5.cell? ⟨w.heap.size + 1, 2, none⟩ = some (.slice (some ⟨w.heap.size + 1 + 1, 0, none⟩) hs.length hs.length) := Go.Joins.cell_of_block ((hg5.block (w.heap.size + 1) hlv0 (by simp)).trans kb4) 2
  go_region_held3 (fun w' => w'.cell? ⟨w.heap.size, 2, none⟩ = some (.slice a hs.length c) ∧ w'.cell? ⟨w.heap.size + 1, 2, none⟩ = some (.slice (some ⟨w.heap.size + 1 + 1, 0, none⟩) hs.length hs.length)) (go_keep) (refine step_copy_run rfl _ _ 24 24 rfl _ _ (by simp [Act.eval]) (by simp [Act.eval]) (hcp _) ?_)
  have hlv : w.heap.size + 1 < V.heap.size := lt_of_block kb4
  have kb5 := (hg5.block (w.heap.size + 1) hlv (by simp)).trans kb4
  have kt5 := (hg5.block w.heap.size (Nat.lt_trans (Nat.lt_succ_self _) hlv) (by simp; omega)).trans kt4
  have hb5 : Below w.heap.size w V5 := grow_below' (hb4.trans ((bdraw (Below.refl _ _) 1 : Below w.heap.size V V.drew))) hg5 (fun k e => by cases e; omega)
  clear hcp hg5 t0 t1 t0' t1' hlv0 hown4 kb4 kt4 hb4 hlv
  have y0 : V5.cell? ⟨w.heap.size, 0, none⟩ = some (.int .i64 S) := Go.Joins.cell_of_block kt5 0
  have y1 : V5.cell? ⟨w.heap.size, 1, none⟩ = some (.int .i64 P) := Go.Joins.cell_of_block kt5 1
  have y2 : V5.cell? ⟨w.heap.size, 2, none⟩ = some (.slice a hs.length c) := Go.Joins.cell_of_block kt5 2
  have hT5 : TrAt V5 w.heap.size (w.heap.size + 1) S P (w.heap.size + 1 + 1) hs.length hs := ⟨⟨_, kb5⟩, hown5⟩
  have E : Hid (trainB S P hs = (inB S 1 60 && inB P 1 11 && decide (hs.length ≤ 200) && rtB S P hs)) := rfl
  cases hin : inB S 1 60
  · rw [hin] at hC1 E
    have hF : Hid (BookP w S P hs (.returned (.tuple #[.pointer (some ⟨w.heap.size + 1, 0, none⟩), .bool false])) V5) := hide (BookP.no E.out hT5 hb5)
    clear hC2 hT5 hb5 hown5 kb5 kt5
    go_wp2_with fail
    refine (hC1 _).mono ?_
    rintro e w6 ⟨rfl, rfl⟩
    go_wp2
    go_ret2
    exact hF.out
  rw [hin] at hC1 E
  cases hip : inB P 1 11
  · rw [hip] at hC2 E
    have hF : Hid (BookP w S P hs (.returned (.tuple #[.pointer (some ⟨w.heap.size + 1, 0, none⟩), .bool false])) V5) := hide (BookP.no E.out hT5 hb5)
    clear hT5 hb5 hown5 kb5 kt5
    go_wp2_with fail
    refine (hC1 _).mono ?_
    rintro e w6 ⟨rfl, rfl⟩
    go_wp2_with fail
    refine (hC2 _).mono ?_
    rintro e w6 ⟨rfl, rfl⟩
    go_wp2
    go_ret2
    exact hF.out
  rw [hip] at hC2 E
  by_cases hlen : hs.length ≤ 200
  rotate_left
  · have hF : Hid (BookP w S P hs (.returned (.tuple #[.pointer (some ⟨w.heap.size + 1, 0, none⟩), .bool false])) V5) := hide (BookP.no (by rw [E.out, decide_eq_false hlen]; rfl) hT5 hb5)
    have hlen' : (200 : Int) < (hs.length : Int) := by omega
    clear hT5 hb5 hown5 kb5 kt5
    go_wp2_with fail
    refine (hC1 _).mono ?_
    rintro e w6 ⟨rfl, rfl⟩
    go_wp2_with fail
    refine (hC2 _).mono ?_
    rintro e w6 ⟨rfl, rfl⟩
    go_wp2
    go_ret2
    exact hF.out
  rw [decide_eq_true hlen] at E
  simp only [Bool.true_and] at E
  have hlen' : ¬ (200 : Int) < (hs.length : Int) := by omega
  obtain ⟨s0, s1⟩ := inB_true hin
  obtain ⟨p0, p1⟩ := inB_true hip
  obtain ⟨N, rfl⟩ : ∃ N : Nat, S = N := ⟨S.toNat, by omega⟩
  clear hT5
  obtain ⟨j0, hj, hj0, hj1, hj2⟩ := info_parts infoPc
  go_wp2_with fail
  refine (hC1 _).mono ?_
  rintro e w6 ⟨rfl, rfl⟩
  go_wp2_with fail
  refine (hC2 _).mono ?_
  rintro e w6 ⟨rfl, rfl⟩
  go_wp2_with (at_make; refine wpList_make_full _ rfl _ _ 70 rfl w.heap.size 101 j0 _ 11 Try.underlying70 hj hj0 hj1 _ _ _ _ N rfl rfl rfl rfl (by rw [hj2]; omega) (by unfold maxLen; omega) hb5.size ?_; intro w7 hown7 hgrow7; have kb7 := (hgrow7.block (w.heap.size + 1) (lt_of_block kb5) (by simp)).trans kb5; have q7 : w7.cell? ⟨w.heap.size + 1, 3, none⟩ = some (.slice none 0 0) := Go.Joins.cell_of_block kb7 3; have f7 : w7.frozen? ⟨w.heap.size + 1, 3, none⟩ = false := Go.Joins.unfrozen_of_block kb7 3)
  have hsz : w6.heap.size ≠ w.heap.size + 1 := by have := lt_of_block kb5; omega
  have hb7 : Below w.heap.size w w7 := grow_below' hb5 hgrow7 (fun k e => by cases e)
  have hh5 := owns_lt hown5
  have H8 : Bk (w7.setCell ⟨w.heap.size + 1, 3, none⟩ (.slice (some ⟨w6.heap.size, 0, none⟩) N N)) w.heap.size (w.heap.size + 1) N P (w.heap.size + 1 + 1) hs.length hs w6.heap.size [] :=
    ⟨blk_set (i := 3) (v := .slice (some ⟨w6.heap.size, 0, none⟩) N N) kb7, own_setg (by omega) (own_far hown5 hgrow7 (fun k _ e => by cases e)), blk_other (made_grid hown7) hsz, by omega, hb5.size⟩
  have hb8 := below_set (o := 3) (v := .slice (some ⟨w6.heap.size, 0, none⟩) N N) (show w.heap.size ≤ w.heap.size + 1 by omega) hb7
  generalize w7.setCell ⟨w.heap.size + 1, 3, none⟩ (.slice (some ⟨w6.heap.size, 0, none⟩) N N) = V8 at *
  refine (cWrite w.heap.size (w.heap.size + 1) N P (w.heap.size + 1 + 1) hs.length hs w6.heap.size [] V8 H8 (by omega) (by omega) p1 hlen).mono ?_
  rintro e w9 ⟨rfl, hg9, es, H9, he9⟩
  have hF : Hid (BookP w N P hs (.returned (.tuple #[.pointer (some ⟨w.heap.size + 1, 0, none⟩), .bool (rtB N P hs)])) w9) :=
    hide ⟨_, _, by rw [E.out], H9.tr, grow_below' hb8 hg9 (fun k e => by cases e; exact H8.sB), fun ht => ⟨w6.heap.size, by rw [E.out] at ht; have := he9 ht; subst this; exact H9⟩⟩
  clear H9 hg9 he9 H8 hb8 hb7 hown7 hown5 hgrow7 kb7 kb5 kt5 hb5 q7 f7 y0 y1 y2
  generalize rtB N P hs = r at *
  go_wp2
  go_ret2
  exact hF.out
end Go.Proofs.Ytgnlcehpajbnoaa
