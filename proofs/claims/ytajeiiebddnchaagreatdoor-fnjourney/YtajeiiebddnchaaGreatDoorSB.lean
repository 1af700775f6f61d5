/- The program's search asks a question. -/
import Derived.Test.YtajeiiebddnchaaGreatDoorSA
namespace Go.Proofs.YtajeiiebddnchaaGreatDoor
open Go.RowKit Go.Maps

theorem cell_of_blk {w : World} {b i : Nat} {cs : Array Value} {t : TypeId} {f : Nat × Nat} {x : Value} (h : w.heap[b]? = some (.cells cs t f)) (hx : cs[i]? = some x) : w.cell? ⟨b, i, none⟩ = some x := by
  simp [World.cell?, h, hx]
theorem frozen_of_blk {w : World} {b i : Nat} {cs : Array Value} {t : TypeId} (h : w.heap[b]? = some (.cells cs t (0, 0))) : w.frozen? ⟨b, i, none⟩ = false := by
  simp [World.frozen?, h]
theorem Stt.ne_row {w : World} {bs bm B b : Nat} {lv v : Value} {ch : Int} {bks : List Nat} {R : List Rec} {D : DataW Unit} {cs : Array Value} {t : TypeId} {f : Nat × Nat} (h : Stt w bs bm B lv ch v bks R D) (hb : w.heap[b]? = some (.cells cs t f)) (ht : t ≠ 47) : some b ≠ v.ownBlock := by
  rcases h.row.2 with ⟨e, _⟩ | ⟨g', cap, cur, e, _, hg, _⟩
  · rw [e]; simp [Value.ownBlock]
  · intro e2
    rw [e] at e2
    simp only [Value.ownBlock, Option.some.injEq] at e2
    subst e2
    rw [hg] at hb
    simp only [Option.some.injEq, Obj.cells.injEq] at hb
    exact ht hb.2.1.symm
theorem Stt.ne_bs {w : World} {bs bm B b : Nat} {lv v : Value} {ch : Int} {bks : List Nat} {R : List Rec} {D : DataW Unit} {cs : Array Value} {t : TypeId} {f : Nat × Nat} (h : Stt w bs bm B lv ch v bks R D) (hb : w.heap[b]? = some (.cells cs t f)) (ht : t ≠ 99) : b ≠ bs := by
  rintro rfl
  rw [h.blk] at hb
  simp only [Option.some.injEq, Obj.cells.injEq] at hb
  exact ht hb.2.1.symm
theorem Stt.lt {w : World} {bs bm B : Nat} {lv v : Value} {ch : Int} {bks : List Nat} {R : List Rec} {D : DataW Unit} (h : Stt w bs bm B lv ch v bks R D) : bs < w.heap.size ∧ bm < w.heap.size := ⟨lt_of_block h.blk, h.om.lt⟩
theorem own_lt_size {w : World} {base e sz n : Nat} {v : Value} {xs : List Value} (h : w.ownsRow base e sz v n xs) : ∀ k, v.ownBlock = some k → k < w.heap.size := own_blk_lt h
/-- The search with one more stretch. -/
theorem Stt.push {w w1 w2 : World} {bs bm B g : Nat} {lv v v2 : Value} {ch : Int} {bks : List Nat} {R : List Rec} {D : DataW Unit} {r : Rec}
    (h : Stt w bs bm B lv ch v bks R D) (hg : w.heap[g]? = some (.cells (recCells bks r R.length) 52 (0, 0))) (hq : QR r.q) (hp : 0 < R.length → r.par < R.length) (hB : B ≤ w.heap.size) (hgB : B ≤ g) (hgn : ∀ j, j < R.length → bks.getD j 0 ≠ g)
    (om1 : OM w1 bm (R.length + 1) (D.put (kq r.q) (.lit (.int .i64 r.lv)))) (g1 : w.grownBy w1 (some bm)) (x : Value) (T : Nat)
    (own2 : w2.ownsRow B 47 1 v2 (R.length + 1) (ptrsOf bks ++ [.pointer (some ⟨g, 0, none⟩)])) (g2 : (w1.alloc (.cells #[x] T)).grownBy w2 v.ownBlock) :
    Stt (w2.setCell ⟨bs, 3, none⟩ v2) bs bm B lv ch v2 (bks ++ [g]) (R ++ [r]) (D.put (kq r.q) (.lit (.int .i64 r.lv))) ∧ Kp w (w2.setCell ⟨bs, 3, none⟩ v2) ∧ Below B w (w2.setCell ⟨bs, 3, none⟩ v2) := by
  have a1 := balloc w1 (.cells #[x] T)
  have key : ∀ (b : Nat) (cs : Array Value) (t : TypeId) (f : Nat × Nat), w.heap[b]? = some (.cells cs t f) → t ≠ 47 → w2.heap[b]? = some (.cells cs t f) := fun b cs t f hb ht => by
    have h1 := (g1.block b (lt_of_block hb) (fun e => map_ne h.om hb (Option.some.inj e))).trans hb
    have h2 := keep_blk a1 h1
    exact (g2.block b (lt_of_block h2) (h.ne_row hb ht)).trans h2
  have hset : ∀ b, b ≠ bs → (w2.setCell ⟨bs, 3, none⟩ v2).heap[b]? = w2.heap[b]? := fun b hb => Below.heap_setCell _ _ _ _ hb
  have hbs2 := key bs _ _ _ h.blk (by decide)
  have hmne : bm ≠ bs := fun e => map_ne h.om h.blk e.symm
  have hmrow : some bm ≠ v.ownBlock := fun e => by
    rcases h.row.2 with ⟨e2, _⟩ | ⟨g', cap, cur, e2, _, hg', _⟩
    · rw [e2] at e; simp [Value.ownBlock] at e
    · rw [e2] at e
      simp only [Value.ownBlock, Option.some.injEq] at e
      subst e
      exact map_ne h.om hg' rfl
  have hvne : ∀ k, v2.ownBlock = some k → k ≠ bs := fun k hk e => by
    subst e
    rcases own2.2 with ⟨e2, _⟩ | ⟨g', cap, cur, e2, _, hg', _⟩
    · rw [e2] at hk; simp [Value.ownBlock] at hk
    · rw [e2] at hk
      simp only [Value.ownBlock, Option.some.injEq] at hk
      subst hk
      rw [hbs2] at hg'
      simp only [Option.some.injEq, Obj.cells.injEq] at hg'
      exact absurd hg'.2.1 (by decide)
  have hll : (ptrsOf bks ++ [.pointer (some ⟨g, 0, none⟩)]) = ptrsOf (bks ++ [g]) := by simp [ptrsOf]
  have hrl : (R ++ [r]).length = R.length + 1 := by simp
  have e1 : (bks ++ [g]).getD R.length 0 = g := by rw [getD_app_r (by rw [h.len]; exact Nat.le_refl _), h.len]; simp
  refine ⟨⟨?_, ?_, ?_, ?_, ?_, ?_, ?_, h.bB, fun j hj => ?_, fun i j hij hj => ?_⟩, ?_, ?_⟩
  · have := blk_set (v := v2) (i := 3) hbs2
    simpa using this
  · rw [hrl]
    exact World.ownsMap.setCell (World.ownsMap.kept (World.ownsMap.alloc om1 _) g2 hmrow) (a := ⟨bs, 3, none⟩) hmne v2
  · rw [hrl, ← hll]
    exact own_set own2 hvne
  · simp [h.len]
  · intro j hj
    rw [hrl] at hj
    by_cases hj2 : j < R.length
    · rw [getD_snoc (by rw [h.len]; exact hj2), getD_app_l hj2]
      have h0 := h.st j hj2
      have e : recCells (bks ++ [g]) (R.getD j Rec.zero) j = recCells bks (R.getD j Rec.zero) j := by
        unfold recCells
        by_cases e0 : j = 0
        · rw [if_pos e0, if_pos e0]
        · rw [if_neg e0, if_neg e0, getD_snoc (by have := h.par j (by omega) hj2; rw [h.len]; omega)]
      rw [e, hset _ (h.ne_bs h0 (by decide))]
      exact key _ _ _ _ h0 (by decide)
    · obtain rfl : j = R.length := by omega
      have e2 : (R ++ [r]).getD R.length Rec.zero = r := by rw [getD_app_r (Nat.le_refl _)]; simp
      have e : recCells (bks ++ [g]) r R.length = recCells bks r R.length := by
        unfold recCells
        by_cases e0 : R.length = 0
        · rw [if_pos e0, if_pos e0]
        · rw [if_neg e0, if_neg e0, getD_snoc (by have := hp (by omega); rw [h.len]; exact this)]
      rw [e1, e2, e, hset _ (h.ne_bs hg (by decide))]
      exact key _ _ _ _ hg (by decide)
  · intro j h0 hj
    rw [hrl] at hj
    by_cases hj2 : j < R.length
    · rw [getD_app_l hj2]; exact h.par j h0 hj2
    · obtain rfl : j = R.length := by omega
      have e2 : (R ++ [r]).getD R.length Rec.zero = r := by rw [getD_app_r (Nat.le_refl _)]; simp
      rw [e2]; exact hp h0
  · intro q hqq
    by_cases e : r.q = q
    · subst e
      exact .inr ⟨r, by simp, rfl, look_put_same h.om.isMap hq _⟩
    · rw [look_put_other hq hqq (fun e2 => e e2.symm), hasQ_snoc]
      rcases h.look q hqq with ⟨h1, h2⟩ | ⟨r', h1, h2, h3⟩
      · exact .inl ⟨h1, by rw [h2]; simpa using e⟩
      · exact .inr ⟨r', List.mem_append_left _ h1, h2, h3⟩
  · rw [hrl] at hj
    by_cases hj2 : j < R.length
    · rw [getD_snoc (by rw [h.len]; exact hj2)]; exact h.nb j hj2
    · obtain rfl : j = R.length := by omega
      rw [e1]; exact hgB
  · rw [hrl] at hj
    by_cases hj2 : j < R.length
    · rw [getD_snoc (j := j) (by rw [h.len]; exact hj2), getD_snoc (j := i) (by rw [h.len]; omega)]; exact h.nd i j hij hj2
    · obtain rfl : j = R.length := by omega
      rw [e1, getD_snoc (by rw [h.len]; omega)]; exact hgn i hij
  · intro b cs t f hb h1 h2
    rw [hset b (h.ne_bs hb h1)]
    exact key b cs t f hb h2
  · have s1 := g1.size
    have s2 := a1.size
    have s3 := g2.size
    refine below_set h.bB.1 ⟨g2.os.trans (a1.os.trans g1.os), g2.tape.trans (a1.tape.trans g1.tape), g2.output.trans (a1.output.trans g1.output), by omega, fun k hk => ?_⟩
    refine (g2.block k (by omega) (fun e => by have := own_from h.row (Nat.le_refl _) k e.symm; omega)).trans ((a1.block k (by omega)).trans (g1.block k (by omega) (fun e => by have := h.bB.2; cases e; omega)))

theorem infoStretch : (Tryz.prog.info? 47).map (fun i => (i.zero, i.size, i.bytes)) = some (some (.pointer none), 1, 8) := by kernel_rfl
theorem six_cells {w : World} {b : Nat} {c0 c1 c2 c3 c4 c5 : Value} {t : TypeId} (h : w.heap[b]? = some (.cells #[c0, c1, c2, c3, c4, c5] t (0, 0))) :
    w.cell? ⟨b, 0, none⟩ = some c0 ∧ w.cell? ⟨b, 1, none⟩ = some c1 ∧ w.cell? ⟨b, 2, none⟩ = some c2 ∧ w.cell? ⟨b, 3, none⟩ = some c3 ∧ w.cell? ⟨b, 4, none⟩ = some c4 ∧ w.cell? ⟨b, 5, none⟩ = some c5 :=
  ⟨cell_of_blk h rfl, cell_of_blk h rfl, cell_of_blk h rfl, cell_of_blk h rfl, cell_of_blk h rfl, cell_of_blk h rfl⟩
def AskPost (w : World) (bs bm B : Nat) (lv : Value) (ch : Int) (bks : List Nat) (R : List Rec) (e : Ending) (w' : World) : Prop :=
  e = .returned (.tuple #[]) ∧ ∃ v' bks' D', Stt w' bs bm B lv ch v' bks' R D' ∧ (∃ l, bks' = bks ++ l) ∧ Kp w w' ∧ Below B w w'

set_option maxRecDepth 20000 in
set_option maxHeartbeats 1600000 in
theorem cAsk (bs bm B g : Nat) (lv v : Value) (ch : Int) (bks : List Nat) (R : List Rec) (D : DataW Unit) (r : Rec) (w : World) (hS : Stt w bs bm B lv ch v bks R D)
    (hg : w.heap[g]? = some (.cells (recCells bks r R.length) 52 (0, 0))) (hq : QR r.q) (hlv : r.lv ≤ 10) (hR : R.length ≤ 1000) (hp : 0 < R.length → r.par < R.length) (hB : B ≤ w.heap.size) (hgB : B ≤ g) (hgn : ∀ j, j < R.length → bks.getD j 0 ≠ g) :
    Calls Tryz.prog 53 #[.pointer (some ⟨bs, 0, none⟩), .pointer (some ⟨g, 0, none⟩), .int .i64 r.lv] w (AskPost w bs bm B lv ch bks (askF R r)) := by
  obtain ⟨i0, hi, hz0, hz1, hz2⟩ := info_parts infoStretch
  have G := six_cells (by unfold recCells at hg; exact hg)
  obtain ⟨-, -, -, y3, y4, -⟩ := G
  have x2 := cell_of_blk (i := 2) hS.blk rfl
  have x3 := cell_of_blk (i := 3) hS.blk rfl
  have omd : OM w.drew bm R.length D := OM.below hS.om (Below.refl _ _).drew
  rcases hS.look r.q hq with ⟨h1, h2⟩ | ⟨r', h1, h2, h3⟩
  · have ea : askF R r = R ++ [r] := by unfold askF; rw [if_neg (by rw [h2]; decide)]
    rw [ea]
    obtain ⟨c, hrun⟩ := run_look_none omd hq h1
    unfold qVal Rec.q at hrun
    dsimp only at hrun
    have hb0 : Below w.heap.size w w.drew := (Below.refl _ _).drew
    have hS1 := hS.below hb0
    have hg1 := keep_blk hb0 hg
    have hK1 : Kp w w.drew := Kp.of_below hb0
    have hB1 : Below B w w.drew := (Below.refl _ _).drew
    have hB1' : B ≤ w.drew.heap.size := hB
    have hwf : (Lit.int .i64 (r.lv : Int)).wf = true := WalkArith.wf_i64 (by omega)
    clear ea h1 h2 hS hg hb0 omd hB
    go_enter Tryz.func53, Tryz.ntmps53
    go_wp2_with fail
    go_region
    clear hrun x2 x3 y3 y4
    generalize w.drew = w1 at *
    obtain ⟨va, vc, rfl⟩ := own_form hS1.row
    have G := six_cells (by unfold recCells at hg1; exact hg1)
    obtain ⟨-, -, -, y3, y4, -⟩ := G
    have x2 := cell_of_blk (i := 2) hS1.blk rfl
    have hb0 : Below w1.heap.size w1 w1.drew := (Below.refl _ _).drew
    have hS2 := hS1.below hb0
    have hg2 := keep_blk hb0 hg1
    have hK2 : Kp w w1.drew := hK1.trans (Kp.of_below hb0)
    have hB2 : Below B w w1.drew := hB1.drew
    have hB2' : B ≤ w1.drew.heap.size := hB1'
    obtain ⟨w2, hrun2, om2, g2⟩ := World.ownsMap.update hS2.om lawQ Tryz.underlying97 (by unfold maxLen; omega) hq.kq (plainElem_int Tryz.underlying3 hwf)
    unfold qVal at hrun2
    have hrun2' : (Instr.mapUpdate 97 (.map (some bm)) (.agg #[.int .i64 r.n, .int .i64 r.m]) (.int .i64 (r.lv : Int))).run Tryz.prog w1.drew = .ok () w2 := hrun2
    clear hrun2 hb0 hS1 hg1 hK1 hB1 hB1'
    go_wp2_with fail
    go_region
    clear hrun2' x2 y3 y4
    generalize w1.drew = w3 at *
    have hbs2 := (g2.block bs hS2.lt.1 (fun e => map_ne hS2.om hS2.blk (Option.some.inj e))).trans hS2.blk
    have x3 := cell_of_blk (i := 3) hbs2 rfl
    have row2 := own_far hS2.row g2 (fun k hk e => by
      cases e
      rcases hS2.row.2 with ⟨e2, _⟩ | ⟨g', cap, cur, e2, _, hg', _⟩
      · rw [e2] at hk; simp [Value.ownBlock] at hk
      · rw [e2] at hk
        simp only [Value.ownBlock, Option.some.injEq] at hk
        subst hk
        exact map_ne hS2.om hg' rfl)
    have hbl := lt_of_block hbs2
    have hsz := g2.size
    go_wp2_with (at_builtin; refine wpList_append_own _ rfl _ _ 72 rfl B 47 i0 _ 1 8 Tryz.underlying72 hi hz0 hz1 hz2 rfl (by decide) _ _ _ rfl (row2.alloc _) ⟨w2.heap.size, 0, none⟩ 1 1 [.pointer (some ⟨g, 0, none⟩)] rfl rfl ?c1 ?c2 ?c3 ?c4 ?c5 ?_)
    case c1 => exact World.news_of_block (one_block w2 _)
    case c2 => simp [Value.oneCell']
    case c3 => unfold maxLen; omega
    case c4 => omega
    case c5 => simp; omega
    intro v5 w5 hown5 hgrow5 _
    have P5 := hS2.push hg2 hq hp hB2' hgB hgn om2 g2 _ _ hown5 hgrow5
    have hbs4 := keep_blk (balloc w2 (.cells #[.pointer (some ⟨g, 0, none⟩)] 47)) hbs2
    have hbs5 := (hgrow5.block bs (lt_of_block hbs4) (hS2.ne_row hS2.blk (by decide))).trans hbs4
    have x5 := cell_of_blk (i := 3) hbs5 rfl
    have f5 := frozen_of_blk (i := 3) hbs5
    obtain ⟨P6, P7, P8⟩ := P5
    have hF : AskPost w bs bm B lv ch bks (R ++ [r]) (.returned (.tuple #[])) (w5.setCell ⟨bs, 3, none⟩ v5) := ⟨rfl, v5, _, _, P6, ⟨[g], rfl⟩, hK2.trans P7, hB2.trans P8⟩
    obtain ⟨va5, vc5, rfl⟩ := own_form hown5
    clear P6 P7 P8 hown5 hgrow5 hbs4 hbs5 x3 row2 hbs2 hS2 hg2 hK2 hB2 om2 g2
    go_wp2
    go_end0
    exact hF
  · have ea : askF R r = R := by unfold askF; rw [if_pos (hasQ_iff.2 ⟨r', h1, h2⟩)]
    rw [ea]
    have hrun := run_look_some omd hq h3
    unfold qVal Rec.q at hrun
    dsimp only at hrun
    have hF : ∀ n, AskPost w bs bm B lv ch bks R (.returned (.tuple #[])) (w.drewN n) := fun n => ⟨rfl, v, bks, D, hS.below (bdraw (Below.refl _ _) n), ⟨[], by simp⟩, Kp.of_below (bdraw (Below.refl _ _) n), bdraw (Below.refl _ _) n⟩
    clear ea h1 h2 h3 hS hg
    go_enter Tryz.func53, Tryz.ntmps53
    go_wp2_with fail
    go_region
    all_goals go_wp2
    all_goals refine bodyPost_ret (results_none rfl _ _ _) rfl ?_
    all_goals exact hF 1
end Go.Proofs.YtajeiiebddnchaaGreatDoor
