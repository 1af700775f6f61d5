/- shortest of the lines: Dijkstra over the heap. -/
import Derived.Test.YtdjambejppanoaaSHM
import Derived.WalkMore
namespace Go.Proofs.Ytdjambejppanoaa
open Go.RowKit
/-- What the outer loop holds. -/
structure SI (w wr : World) (fb bt dm N : Nat) (v : Value) (ps : List PT) (kl : List Int) (DD : DataW Unit) (es : List EdgeV) (f tz : Int) : Prop where
  fr : Fr wr fb (fb + 1) v ps
  res : wr.heap[w.heap.size]? = some (.cells #[.int .i64 0, .int .i64 0, .slice none 0 0] 59 (0, 0))
  bst : wr.heap[bt]? = some (.cells #[.int .i64 0, .int .i64 (-1), .slice none 0 0] 59 (0, 0))
  dn : Dn wr dm kl DD
  nb : v.ownBlock ≠ some bt
  bel : Below w.heap.size w wr
  di : DI es f tz (fun x => x ∈ kl) (tvs ps)
  low : Low ps
  heap : HeapN ps ps.length
  rng : ∀ x ∈ kl, 0 ≤ x ∧ x < (N : Int)
  few : ps.length ≤ 61 * kl.length + 1
theorem bb {B : Nat} {w w1 w2 : World} (h : Below B w w1) (g : Below B w1 w2) : Below B w w2 := ⟨g.os.trans h.os, g.tape.trans h.tape, g.output.trans h.output, Nat.le_trans h.size g.size, fun k hk => (g.block k hk).trans (h.block k hk)⟩
theorem row_map2 {w : World} {B e sz n mb m : Nat} {v : Value} {xs : List Value} {R : Value → Option (DataW Unit × List MemPlace)} {D : DataW Unit} (h : w.ownsRow B e sz v n xs) (hm : w.ownsMap Try.prog 3 R mb m D) : v.ownBlock ≠ some mb := by
  rcases h.2 with ⟨rfl, h0⟩ | ⟨g, cap', cur, rfl, _, hh, _⟩
  · simp [Value.ownBlock]
  · obtain ⟨es, clock, hb, _⟩ := hm
    simp only [Value.ownBlock, ne_eq, Option.some.injEq]
    rintro rfl
    rw [hh] at hb; cases hb
theorem way_end {N : Int} {es : List EdgeV} (R : Rg N es) {x y L : Int} {ps : List Nat} (h : Way es x ps y L) (hx : 0 ≤ x ∧ x < N) : 0 ≤ y ∧ y < N := by
  induction h with
  | nil => exact hx
  | cons s _ ih => exact ih (s.ends R).2.1
/-- What the inner loop holds. -/
structure In2 (w wr : World) (fb bt dm tb : Nat) (v : Value) (rs qs : List PT) (kl : List Int) (DD : DataW Unit) (es : List EdgeV) (p : PT) (k : Nat) : Prop where
  fr : Fr wr fb (fb + 1) v rs
  res : wr.heap[w.heap.size]? = some (.cells #[.int .i64 0, .int .i64 0, .slice none 0 0] 59 (0, 0))
  bst : wr.heap[bt]? = some (.cells #[.int .i64 0, .int .i64 (-1), .slice none 0 0] 59 (0, 0))
  box : wr.heap[tb]? = some (.cells #[.int .i64 p.t.at_, .int .i64 p.t.len, .slice p.a p.t.way.length p.c] 59 (0, 0))
  dn : Dn wr dm kl DD
  nb : v.ownBlock ≠ some bt
  nt : v.ownBlock ≠ some tb
  way : wr.ownsRow (fb + 1) 3 1 (.slice p.a p.t.way.length p.c) p.t.way.length ((nI p.t.way).map (.int .i64))
  bel : Below w.heap.size w wr
  push : Pushed es p.t k (tvs rs) (tvs qs)
  low : Low rs
  heap : HeapN rs rs.length
  few : rs.length ≤ qs.length + k
theorem In2.keep {w wr w1 : World} {fb bt dm tb : Nat} {v : Value} {rs qs : List PT} {kl : List Int} {DD : DataW Unit} {es : List EdgeV} {p : PT} {k : Nat} (h : In2 w wr fb bt dm tb v rs qs kl DD es p k) (hb : Below wr.heap.size wr w1) : In2 w w1 fb bt dm tb v rs qs kl DD es p k :=
  ⟨h.fr.below hb, blk_keep hb h.res, blk_keep hb h.bst, blk_keep hb h.box, h.dn.below hb, h.nb, h.nt, own_keep h.way hb, btrans h.bel hb, h.push, h.low, h.heap, h.few⟩
theorem In2.next {w wr w1 : World} {fb bt dm tb : Nat} {v v1 : Value} {rs rs1 qs : List PT} {kl : List Int} {DD : DataW Unit} {es : List EdgeV} {p q : PT} {k : Nat} {s : Nat × Int × Int} (h : In2 w wr fb bt dm tb v rs qs kl DD es p k) (h0 : w.heap.size < fb) (hb : fb < bt) (hd : fb < dm) (ht : fb < tb) (F : Fr w1 fb (fb + 1) v1 rs1) (K : Kt wr w1 fb v v1)
    (hs : (stepsOf es p.t.at_)[k]? = some s) (hq : q.t = extV p.t s) (hl : rs1.length = rs.length + 1) (hm : ∀ u, u ∈ rs1 ↔ u = q ∨ u ∈ rs) (hH : HeapN rs1 rs1.length) (l1 : q.t.way.length ≤ 40) (l2 : 0 ≤ q.t.len ∧ q.t.len ≤ 5000000) : In2 w w1 fb bt dm tb v1 rs1 qs kl DD es p (k + 1) := by
  have hge := own_from h.fr.own (Nat.le_refl _)
  have b1 := lt_of_block h.bst
  have b2 := lt_of_block h.box
  exact ⟨F, K.blk h.res (by omega) (fun e => by have := hge _ e; omega), K.blk h.bst (by omega) h.nb, K.blk h.box (by omega) h.nt, h.dn.kt K (by omega) (row_map2 h.fr.own h.dn.map),
    fun e => (K.loc _ e).elim h.nb (fun g => by omega), fun e => (K.loc _ e).elim h.nt (fun g => by omega), h.fr.way K h.way, bb h.bel (K.low (B0 := w.heap.size) (by omega) h.bel.size (fun k hk => by have := hge k hk; omega)),
    h.push.next hs hq hm, h.low.push hm l1 l2, hH, by have := h.few; omega⟩
/-- What shortest tells: the best way, or -1. -/
def StV (es : List EdgeV) (f tz : Int) (t : TrialV) : Prop := (Best es f tz t.way t.len) ∨ ((¬ ∃ ps L, Way es f ps tz L) ∧ t.way = [] ∧ t.len = -1)
def StAns (w : World) (es : List EdgeV) (f tz : Int) (e : Ending) (w' : World) : Prop :=
  ∃ q : PT, e = .returned q.val ∧ StV es f tz q.t ∧ w'.ownsRow w.heap.size 3 1 (.slice q.a q.t.way.length q.c) q.t.way.length ((nI q.t.way).map (.int .i64)) ∧ Below w.heap.size w w'
theorem two_new (w : World) (o1 o2 : Obj) : ((w.alloc o1).alloc o2).heap[w.heap.size]? = some o1 ∧ ((w.alloc o1).alloc o2).heap[w.heap.size + 1]? = some o2 := two_blocks w o1 o2
set_option maxRecDepth 100000 in
set_option maxHeartbeats 6400000 in
theorem cShortI (mb n N B0 : Nat) (es : List EdgeV) (rv : Nat → Value) (DL : DataW Unit) (f tn : Nat) (w : World) (L : Lin w B0 mb n N (rowsTo es es.length) rv DL) (R : Rg (N : Int) es) (hN : N ≤ 30) (hE : es.length ≤ 60) (hf : f < N) :
    Calls Try.prog 38 #[.map (some mb), .int .i64 (f : Int), .int .i64 (tn : Int)] w (StAns w es (f : Int) (tn : Int)) := by
  have hmm := @run_makeMap Try.prog
  obtain ⟨R0, F0⟩ := two_new w (.cells #[.int .i64 0, .int .i64 0, .slice none 0 0] 59) (.cells #[.slice none 0 0] 88)
  have hA := btrans (balloc w (.cells #[.int .i64 0, .int .i64 0, .slice none 0 0] 59)) (balloc _ (.cells #[.slice none 0 0] 88))
  have FF : Fr ((w.alloc (.cells #[.int .i64 0, .int .i64 0, .slice none 0 0] 59)).alloc (.cells #[.slice none 0 0] 88)) (w.heap.size + 1) (w.heap.size + 1 + 1) (.slice none 0 0) [] := ⟨F0, World.ownsRow_nil _ _ _ _, fun p hp => by simp at hp, by omega, by simp⟩
  have CP := cPushT (w.heap.size + 1) (w.heap.size + 1 + 1) (.slice none 0 0) [] ⟨⟨(f : Int), 0, []⟩, none, 0⟩ _ FF (World.ownsRow_nil _ _ _ _) (by simp)
  unfold PT.val at CP
  go_enter Try.func38, Try.ntmps38
  go_wp2
  go_step3
  go_wp2_with fail
  generalize (w.alloc (.cells #[.int .i64 0, .int .i64 0, .slice none 0 0] 59)).alloc (.cells #[.slice none 0 0] 88) = w1 at *
  refine CP.mono ?_
  rintro e w2 ⟨rfl, v2, F2, K2⟩
  have R2 := K2.blk R0 (by omega) (by simp [Value.ownBlock])
  have B2 : Below w.heap.size w w2 := bb hA (K2.low (B0 := w.heap.size) (by omega) hA.size (fun k hk => by simp [Value.ownBlock] at hk))
  have S1 : HeapN ([] ++ [(⟨⟨(f : Int), 0, []⟩, none, 0⟩ : PT)]) 1 := fun k k0 k1 => by omega
  have hBx := balloc w2 (.cells #[.int .i64 0, .int .i64 (-1), .slice none 0 0] 59)
  have hMp := balloc (w2.alloc (.cells #[.int .i64 0, .int .i64 (-1), .slice none 0 0] 59)) (.map #[] 0)
  have hBM := btrans hBx hMp
  have hnb : v2.ownBlock ≠ some w2.heap.size := fun e => by have := own_blk_lt F2.own _ e; omega
  have om := World.ownsMap_made (w2.alloc (.cells #[.int .i64 0, .int .i64 (-1), .slice none 0 0] 59)) Try.prog 3 (plainElem (H := Unit) Try.prog 3)
  have O1 : SI w ((w2.alloc (.cells #[.int .i64 0, .int .i64 (-1), .slice none 0 0] 59)).alloc (.map #[] 0)) (w.heap.size + 1) w2.heap.size (w2.heap.size + 1) N v2 ([] ++ [⟨⟨(f : Int), 0, []⟩, none, 0⟩]) [] (.map []) es (f : Int) (tn : Int) :=
    ⟨F2.below hBM, blk_keep hBM R2, (two_blocks w2 _ _).1, ⟨by simpa using om, fun y => by simp [Maps.has_eq], fun y => ⟨0, by omega, by omega, rfl⟩, rfl, by simp⟩, hnb, btrans B2 hBM, by
      have := DI.new es (f : Int) (tn : Int)
      simpa [tvs] using this, ⟨fun p hp => by simp at hp; subst hp; simp, fun p hp => by simp at hp; subst hp; simp⟩, S1, fun x hx => by simp at hx, by simp⟩
  have hsz2 : w2.heap.size + 1 ≤ ((w2.alloc (.cells #[.int .i64 0, .int .i64 (-1), .slice none 0 0] 59)).alloc (.map #[] 0)).heap.size := by simp
  have hbt := F2.top
  clear F2 K2 R2 B2 S1 hBx hMp hBM hnb om CP FF R0 F0 hA
  go_wp2_with fail
  go_step3
  generalize (w2.alloc (.cells #[.int .i64 0, .int .i64 (-1), .slice none 0 0] 59)).alloc (.map #[] 0) = w3 at *
  generalize w2.heap.size = bt at *
  generalize hps0 : [] ++ [(⟨⟨(f : Int), 0, []⟩, none, 0⟩ : PT)] = ps0 at *
  clear hps0
  go_wp2
  go_loopw [12, 13] (fun _ _ wr => ∃ (v : Value) (ps : List PT) (kl : List Int) (DD : DataW Unit), SI w wr (w.heap.size + 1) bt (bt + 1) N v ps kl DD es (f : Int) (tn : Int)) (fun _ _ wr => 61 * (N - knSize wr (bt + 1)) + frLen wr (w.heap.size + 1))
  case atStart => exact ⟨_, _, _, _, O1⟩
  case round =>
    clear O1
    obtain ⟨v, ps, kl, DD, I⟩ := hrel
    have hkl := pigeon N kl I.dn.nodup I.rng
    have hps : ps.length ≤ 2000 := by have := I.few; omega
    have hMea := hide (show 61 * (N - knSize wr (bt + 1)) + frLen wr (w.heap.size + 1) = 61 * (N - kl.length) + ps.length by rw [I.dn.sz, I.fr.len])
    obtain ⟨a, c, rfl⟩ := own_form I.fr.own
    have hml := metLen (w.heap.size + 1) _ wr I.fr.cell.1
    have CLn := cLenT a ps.length c wr
    by_cases h0 : 0 < ps.length
    · have CPo := cHPop (w.heap.size + 1) (w.heap.size + 1 + 1) _ ps wr I.fr (by omega) h0 (I.low.sm (by omega)) I.heap
      have hta := as_trial
      have hpos : (0 : Int) < (ps.length : Int) := by omega
      go_wp2_with fail
      refine CLn.mono ?_
      rintro e w4 ⟨rfl, hw4⟩
      subst w4
      clear CLn hml
      go_wp2_with fail
      refine CPo.mono ?_
      rintro e w4 ⟨rfl, v4, qs, F4, K4, hl4, hm4, hh4⟩
      clear CPo
      have hpm : gP ps 0 ∈ ps := PT.mem h0
      have hmin : ∀ u ∈ tvs ps, Kle (gP ps 0).t.len (gP ps 0).t.way u.len u.way := fun u hu => by
        obtain ⟨q, hq, rfl⟩ := mem_tvs.1 hu
        obtain ⟨k, hk, rfl⟩ := mem_gP.1 hq
        exact I.heap.least k hk
      generalize gP ps 0 = p at *
      have hge := own_from I.fr.own (Nat.le_refl _)
      have hbtl := lt_of_block I.bst
      have way4 := I.fr.way K4 (I.fr.ways p hpm)
      have res4 := K4.blk I.res (by omega) (fun e => by have := hge _ e; omega)
      have bst4 := K4.blk I.bst (by omega) I.nb
      have hdm3 := I.dn.map.lt
      have hdm4 : bt + 1 < w4.heap.size := Nat.lt_of_lt_of_le hdm3 K4.size
      have dn4 := I.dn.kt K4 (by omega) (row_map2 I.fr.own I.dn.map)
      have nb4 : v4.ownBlock ≠ some bt := fun e => (K4.loc _ e).elim I.nb (fun h => by omega)
      have bel4 := bb I.bel (K4.low (B0 := w.heap.size) (by omega) I.bel.size (fun k hk => by have := hge k hk; omega))
      have hDI := I.di
      have hset := tvs_pop hm4
      have hpw := I.low.way p hpm
      have hplen := I.low.len p hpm
      have low4 : Low qs := I.low.sub (fun u hu => (hm4 u).2 (.inr hu))
      have hreal := I.di.real p.t (mem_tvs.2 ⟨p, hpm, rfl⟩)
      have hrng := I.rng
      have hfew := I.few
      clear I K4 hm4 hge hta
      obtain ⟨⟨pm, pk, pp⟩, pa, pc⟩ := p
      unfold PT.val
      dsimp only at *
      have hal0 := lt_of_block bst4
      have hal := balloc w4 (.cells #[.int .i64 pm, .int .i64 pk, .slice pa pp.length pc] 59)
      have X := one_block' w4 (.cells #[.int .i64 pm, .int .i64 pk, .slice pa pp.length pc] 59)
      have F5 := F4.below hal
      have way5 := own_keep way4 hal
      have res5 := blk_keep hal res4
      have bst5 := blk_keep hal bst4
      have dn5 := dn4.below hal
      have bel5 := btrans bel4 hal
      have hnt4 : v4.ownBlock ≠ some w4.heap.size := fun e => by have := own_blk_lt F4.own _ e; omega
      clear hal F4 way4 res4 bst4 dn4
      have hta := as_trial
      have hpmr := way_end R hreal (by omega)
      obtain ⟨x0, x1, x2⟩ := blk3 X
      obtain ⟨c1, ps1, hlk, hc⟩ := dn5.map.look_ok lawI Try.underlying92 (zeroI _) (plainI (c := 0) (by omega) (by omega)) (keyI (x := pm) (by omega) (by omega))
      obtain ⟨c1, rfl, -, -⟩ := plainElem_int_inv Try.underlying3 hc
      rw [dn5.has pm] at hlk
      have htbne : w4.heap.size ≠ bt := by have := lt_of_block bst5; have := hal0; omega
      by_cases hto : pm = (tn : Int)
      · subst hto
        have hd := hDI.away
        have hB := hide (show StV es (f : Int) (tn : Int) ⟨(tn : Int), pk, pp⟩ from .inl (hDI.least R ((hset _).2 (.inl rfl)) hmin hd))
        rw [decide_eq_false hd] at hlk
        obtain ⟨y0, y1, y2⟩ := blk3 bst5
        have y3 := Go.Joins.unfrozen_of_block bst5 0
        have y4 := Go.Joins.unfrozen_of_block bst5 1
        have y5 := Go.Joins.unfrozen_of_block bst5 2
        obtain ⟨r0, r1, r2⟩ := blk3 res5
        have r3 := Go.Joins.unfrozen_of_block res5 0
        have r4 := Go.Joins.unfrozen_of_block res5 1
        have r5 := Go.Joins.unfrozen_of_block res5 2
        have hn1 : w.heap.size ≠ bt := by omega
        have hn2 : bt ≠ w.heap.size := by omega
        have hwb := row_ne way5 bst5 (by decide)
        have hwB := own_from way5 (Nat.le_refl _)
        have hwr : ∀ k, (Value.slice pa pp.length pc).ownBlock = some k → k ≠ w.heap.size := fun k hk => by have := hwB k hk; omega
        clear F5 res5 bst5 dn5 nb4 hDI hset low4 hh4 hrng hmin hreal hMea hal0
        go_wp2
        rw [Exit.noGoto_ret]
        refine bodyPost_ret (v := PT.val ⟨⟨(tn : Int), pk, pp⟩, pa, pc⟩) (by simp [results, Try.results38, go_sem, r0, r1, r2, PT.val]) rfl ?_
        exact ⟨⟨⟨(tn : Int), pk, pp⟩, pa, pc⟩, rfl, hB.out, own_base (own_set (own_set (own_set (own_set (own_set (own_set way5 hwb) hwb) hwb) hwr) hwr) hwr) (by omega), below_set (Nat.le_refl _) (below_set (Nat.le_refl _) (below_set (Nat.le_refl _) (below_set (by omega) (below_set (by omega) (below_set (by omega) bel5)))))⟩
      · by_cases hkn : pm ∈ kl
        · rw [decide_eq_true hkn] at hlk
          have hI : SI w (w4.alloc (.cells #[.int .i64 pm, .int .i64 pk, .slice pa pp.length pc] 59)) (w.heap.size + 1) bt (bt + 1) N v4 qs kl DD es (f : Int) (tn : Int) :=
            ⟨F5, res5, bst5, dn5, nb4, bel5, hDI.skip (t := ⟨pm, pk, pp⟩) hkn hset, low4, hh4, hrng, by omega⟩
          have hM2 := hide (show 61 * (N - knSize (w4.alloc (.cells #[.int .i64 pm, .int .i64 pk, .slice pa pp.length pc] 59)) (bt + 1)) + frLen (w4.alloc (.cells #[.int .i64 pm, .int .i64 pk, .slice pa pp.length pc] 59)) (w.heap.size + 1) < 61 * (N - kl.length) + ps.length by rw [dn5.sz, F5.len]; omega)
          have hz : (pm == (tn : Int)) = false := beq_eq_false_iff_ne.2 hto
          clear F5 res5 bst5 dn5 nb4 bel5 hDI hset low4 hh4 hrng hmin way5 X
          go_wp2
          go_roundw
          case rel => exact ⟨v4, qs, kl, DD, hI⟩
          case measure => rw [hMea.out]; exact hM2.out
        · rw [decide_eq_false hkn] at hlk
          have hB := hDI.least R (t := ⟨pm, pk, pp⟩) ((hset _).2 (.inl rfl)) hmin hkn
          obtain ⟨hs1, hs2, hs3⟩ := hB.small R (by omega)
          dsimp only at hs1 hs2 hs3
          have hpkw : (Lit.int .i64 pk).wf = true := WalkArith.wf_i64 (by omega)
          obtain ⟨w6, hrun6, om6, hg6⟩ := World.ownsMap.update dn5.map lawI Try.underlying92 (by unfold maxLen; omega) (keyI (x := pm) (by omega) (by omega)) (plainElem_int Try.underlying3 hpkw)
          have dn6 := dn5.put hkn hs2 (by omega) om6
          have hds : ∀ {B e sz n : Nat} {u : Value} {xs : List Value}, (w4.alloc (.cells #[.int .i64 pm, .int .i64 pk, .slice pa pp.length pc] 59)).ownsRow B e sz u n xs → ∀ k, u.ownBlock = some k → some k ≠ some (bt + 1) := fun o k hk e => row_map2 o dn5.map (by rw [hk, e])
          have F6 : Fr w6 (w.heap.size + 1) (w.heap.size + 1 + 1) v4 qs := ⟨far_blk hg6 F5.box (fun j hj => by simp at hj; omega), own_far F5.own hg6 (hds F5.own), fun q hq => own_far (F5.ways q hq) hg6 (hds (F5.ways q hq)), F5.lt, Nat.le_trans F5.top hg6.size⟩
          have way6 := own_far way5 hg6 (hds way5)
          have res6 := far_blk hg6 res5 (fun j hj => by simp at hj; omega)
          have bst6 := far_blk hg6 bst5 (fun j hj => by simp at hj; omega)
          have X6 := far_blk hg6 X (fun j hj => by simp at hj; omega)
          have bel6 := bel5.grown hg6 bel5.size (fun j hj => by simp at hj; omega)
          obtain ⟨t6, t7, t8⟩ := blk3 X6
          obtain ⟨xn, rfl⟩ : ∃ xn : Nat, pm = (xn : Int) := ⟨pm.toNat, by omega⟩
          have hxN : xn < N := by omega
          have hlk2 := (L.below bel6).look_run hxN (by omega)
          have HS0 := L.own xn hxN
          obtain ⟨va, vc, hva⟩ := own_form HS0
          rw [hva] at hlk2 HS0
          have HS := Steps.own HS0
          obtain ⟨vn, hvn⟩ : ∃ vn, (rowsTo es es.length xn).length = vn := ⟨_, rfl⟩
          have hvl := rowsTo_len es es.length xn
          rw [hvn] at hlk2 hvl
          have hvs := hide (show (stepsOf es (xn : Int)).length = vn by rw [← hvn]; unfold rowsTo stepsOf; rw [List.length_map])
          replace hvn := hide hvn
          have hz : ((xn : Int) == (tn : Int)) = false := beq_eq_false_iff_ne.2 hto
          have hkey : ∀ x ∈ (xn : Int) :: kl, 0 ≤ x ∧ x < (N : Int) := fun x hx => by
            rcases List.mem_cons.1 hx with rfl | h
            · omega
            · exact hrng x h
          have hDT := hide (fun H2 (h2 : Pushed es ⟨(xn : Int), pk, pp⟩ vn H2 (tvs qs)) => hDI.take R (t := ⟨(xn : Int), pk, pp⟩) hmin hkn hto hset (h2.all (by rw [hvs.out]; exact Nat.le_refl _)))
          have hkl2 := pigeon N ((xn : Int) :: kl) (List.nodup_cons.2 ⟨hkn, dn5.nodup⟩) hkey
          replace hmin := hide hmin
          clear HS0 hva F5 res5 bst5 dn5 way5 X bel5 hg6 om6 hds hB hset hmin hDI hreal
          have htb : w.heap.size + 1 < w4.heap.size := by omega
          have J0 : In2 w w6 (w.heap.size + 1) bt (bt + 1) w4.heap.size v4 qs qs ((xn : Int) :: kl) _ es ⟨⟨(xn : Int), pk, pp⟩, pa, pc⟩ 0 :=
            ⟨F6, res6, bst6, X6, dn6, nb4, hnt4, way6, bel6, Pushed.zero _ _ _, low4, hh4, by omega⟩
          clear F6 res6 bst6 X6 dn6 way6 low4 hh4
          generalize htbe : w4.heap.size = tb at *
          go_wp2
          go_loopw [60] (fun kv wr2 => ∃ (k : Nat) (v : Value) (rs : List PT), k ≤ vn ∧ kv = .int .i64 (k : Int) ∧ In2 w wr2 (w.heap.size + 1) bt (bt + 1) tb v rs qs ((xn : Int) :: kl) (DD.put (.int .i64 (xn : Int)) (.lit (.int .i64 pk))) es ⟨⟨(xn : Int), pk, pp⟩, pa, pc⟩ k) (fun kv _ => vn - (intOf kv).toNat)
          case atStart => exact ⟨0, v4, qs, Nat.zero_le _, rfl, J0⟩
          case round =>
            clear J0
            obtain ⟨k, v, rs, hkv, rfl, J⟩ := hrel
            have hrs : rs.length ≤ 100000 := by have := J.few; omega
            by_cases hk : k < vn
            · obtain ⟨p, y, l, hst, hrw⟩ := rows_at (es := es) (m := es.length) (x := xn) (k := k) (by rw [hvn.out]; exact hk)
              have hst2 := (stepsOf_st R).1 (List.mem_of_getElem? (show (stepsOf es (xn : Int))[k]? = some (p, y, l) from hst))
              have hlr := hst2.pos R
              obtain ⟨vb, vo, rfl, hsc⟩ : ∃ b o, va = some ⟨b, o, none⟩ ∧ ∀ i, i < vn → w.cell? ⟨b, o + i * 3, none⟩ = some (.int .i64 ((rowsTo es es.length xn).getD i StepV.zero).n) ∧ w.cell? ⟨b, o + i * 3 + 1, none⟩ = some (.int .i64 ((rowsTo es es.length xn).getD i StepV.zero).a) ∧ w.cell? ⟨b, o + i * 3 + 2, none⟩ = some (.int .i64 ((rowsTo es es.length xn).getD i StepV.zero).d) := by
                rcases HS with h | ⟨b, o, e, h⟩
                · have := hvn.out; rw [h] at this; simp at this; omega
                · exact ⟨b, o, e, fun i hi => h i (by rw [hvn.out]; exact hi)⟩
              obtain ⟨s0, s1, s2⟩ := hsc k hk
              rw [hrw] at s0 s1 s2
              replace s0 := ble J.bel s0
              replace s1 := ble J.bel s1
              replace s2 := ble J.bel s2
              dsimp only at s0 s1 s2
              have hkz : (k : Int) < (vn : Int) := by omega
              clear hrw hsc hst2
              have hal := balloc wr (.cells #[.int .i64 (p : Int), .int .i64 y, .int .i64 l] 83)
              have X8 := one_block' wr (.cells #[.int .i64 (p : Int), .int .i64 y, .int .i64 l] 83)
              have JA := J.keep hal
              clear J hal
              obtain ⟨z0, z1, z2⟩ := blk3 X8
              obtain ⟨t0, t1, t2⟩ := blk3 JA.box
              dsimp only at t0 t1 t2
              have hwl : pp.length ≤ 29 := by omega
              have CA := cAlong ⟨⟨(xn : Int), pk, pp⟩, pa, pc⟩ p y l _ (Ints.own JA.way (nI_len _)) (own_plain JA.way) (show pp.length ≤ 1000000 by omega) hs2 (show pk ≤ 1000000000 by omega) (by omega) (by omega)
              unfold PT.val at CA
              dsimp only at CA
              have htop := JA.fr.top
              clear X8 HS hkey t6 t7 t8
              go_wp2_with fail
              refine CA.mono ?_
              rintro e w8 ⟨q, rfl, hq, hqo, hb8⟩
              have J8 := JA.keep hb8
              have hqB := own_base hqo htop
              have l1 : q.t.way.length ≤ 40 := by rw [hq]; simp; omega
              have l2 : 0 ≤ q.t.len ∧ q.t.len ≤ 5000000 := by rw [hq]; dsimp only; omega
              have S9 : Sm (rs ++ [q]) := ⟨by simp; omega, fun u hu => by
                rcases List.mem_append.1 hu with h | h
                · have := J8.low.way u h; omega
                · simp at h; subst h; omega⟩
              have CH := cHPush (w.heap.size + 1) (w.heap.size + 1 + 1) v rs q w8 J8.fr hqB (by omega) S9 J8.heap
              clear CA JA hqo hb8 S9 hqB
              replace hq := hide hq
              go_wp2_with fail
              refine CH.mono ?_
              rintro e w9 ⟨rfl, v9, rs9, F9, K9, hl9, hm9, hh9⟩
              have J9 := J8.next (by omega) (by omega) (by omega) (by omega) F9 K9 (s := (p, y, l)) hst (hq.out.trans rfl) hl9 hm9 hh9 l1 l2
              clear CH J8 F9 K9 hl9 hm9 hh9 hst
              go_wp2
              go_roundw
              case rel => exact ⟨k + 1, v9, rs9, by omega, by go_num, J9⟩
              case measure => simp [intOf]; omega
            · obtain rfl : k = vn := by omega
              have hI : SI w wr (w.heap.size + 1) bt (bt + 1) N v rs ((xn : Int) :: kl) _ es (f : Int) (tn : Int) :=
                ⟨J.fr, J.res, J.bst, J.dn, J.nb, J.bel, by have := hDT.out (tvs rs) J.push; simpa using this, J.low, J.heap, hkey, by have := J.few; simp; omega⟩
              have hM2 := hide (show 61 * (N - knSize wr (bt + 1)) + frLen wr (w.heap.size + 1) < 61 * (N - kl.length) + ps.length by
                have h1 := J.few
                rw [J.dn.sz, J.fr.len]; simp at hkl2 ⊢; omega)
              clear J hDT
              go_wp2
              go_roundw
              case rel => exact ⟨v, rs, _, _, hI⟩
              case measure => rw [hMea.out]; exact hM2.out
    · have hnil : ps = [] := List.length_eq_zero_iff.1 (by omega)
      subst hnil
      have hW := hide (show StV es (f : Int) (tn : Int) ⟨0, -1, []⟩ from .inr ⟨I.di.none, rfl, rfl⟩)
      obtain ⟨x0, x1, x2⟩ := blk3 I.bst
      obtain ⟨r0, r1, r2⟩ := blk3 I.res
      have r3 := Go.Joins.unfrozen_of_block I.res 0
      have r4 := Go.Joins.unfrozen_of_block I.res 1
      have r5 := Go.Joins.unfrozen_of_block I.res 2
      have HB := I.bel
      clear I hMea
      go_wp2_with fail
      refine CLn.mono ?_
      rintro e w4 ⟨rfl, hw4⟩
      subst w4
      clear CLn hml
      go_wp2
      rw [Exit.noGoto_ret]
      refine bodyPost_ret (v := PT.val ⟨⟨0, -1, []⟩, none, 0⟩) (by simp [results, Try.results38, go_sem, r0, r1, r2, PT.val]) rfl ?_
      exact ⟨⟨⟨0, -1, []⟩, none, 0⟩, rfl, hW.out, World.ownsRow_nil _ _ _ _, below_set (Nat.le_refl _) (below_set (Nat.le_refl _) (below_set (Nat.le_refl _) HB))⟩
end Go.Proofs.Ytdjambejppanoaa
