/- A heap of trials in its box: Push and Pop of the slice. -/
import Derived.Test.YtdjambejppanoaaFR
namespace Go.Proofs.Ytdjambejppanoaa
open Go.RowKit
/-- What Push, Pop and Swap leave alone. -/
structure Kt (w w' : World) (fb : Nat) (v v' : Value) : Prop where
  os : w'.os = w.os
  tape : w'.tape = w.tape
  output : w'.output = w.output
  size : w.heap.size ≤ w'.heap.size
  block : ∀ k, k < w.heap.size → k ≠ fb → v.ownBlock ≠ some k → w'.heap[k]? = w.heap[k]?
  loc : ∀ k, v'.ownBlock = some k → v.ownBlock = some k ∨ w.heap.size ≤ k
theorem Kt.refl (w : World) (fb : Nat) (v : Value) : Kt w w fb v v := ⟨rfl, rfl, rfl, Nat.le_refl _, fun _ _ _ _ => rfl, fun _ h => .inl h⟩
theorem Kt.trans {w w1 w2 : World} {fb : Nat} {v v1 v2 : Value} (h : Kt w w1 fb v v1) (g : Kt w1 w2 fb v1 v2) : Kt w w2 fb v v2 := by
  have ne : ∀ k, k < w.heap.size → v.ownBlock ≠ some k → v1.ownBlock ≠ some k := fun k hk h2 e => (h.loc k e).elim h2 (fun h3 => by omega)
  refine ⟨g.os.trans h.os, g.tape.trans h.tape, g.output.trans h.output, Nat.le_trans h.size g.size, fun k hk h1 h2 => (g.block k (Nat.lt_of_lt_of_le hk h.size) h1 (ne k hk h2)).trans (h.block k hk h1 h2), fun k hk => ?_⟩
  rcases g.loc k hk with e | e
  · exact h.loc k e
  · exact .inr (Nat.le_trans h.size e)
theorem Kt.below {w w1 : World} (fb : Nat) (v : Value) (hb : Below w.heap.size w w1) : Kt w w1 fb v v :=
  ⟨hb.os, hb.tape, hb.output, hb.size, fun k hk _ _ => hb.block k hk, fun _ h => .inl h⟩
theorem Kt.box {w : World} {fb : Nat} (v : Value) (u : Value) : Kt w (w.setCell ⟨fb, 0, none⟩ u) fb v v :=
  ⟨rfl, rfl, rfl, by simp, fun k _ h _ => Below.heap_setCell w _ u k (by simpa using h), fun _ h => .inl h⟩
theorem Kt.row {w w1 : World} {fb : Nat} {v v1 : Value} (h : w.grownBy w1 v.ownBlock) (hl : ∀ k, v1.ownBlock = some k → v.ownBlock = some k ∨ w.heap.size ≤ k) : Kt w w1 fb v v1 :=
  ⟨h.os, h.tape, h.output, h.size, fun k hk _ h2 => h.block k hk (fun e => h2 e.symm), hl⟩
theorem Kt.re {w w1 : World} {fb : Nat} {v v1 u : Value} (h : Kt w w1 fb v v1) (e : u.ownBlock = v.ownBlock) : Kt w w1 fb u v1 :=
  ⟨h.os, h.tape, h.output, h.size, fun k hk h1 h2 => h.block k hk h1 (by rw [← e]; exact h2), fun k hk => by rw [e]; exact h.loc k hk⟩
/-- The front: its box holds the slice of trials. -/
structure Fr (w : World) (fb B : Nat) (v : Value) (ps : List PT) : Prop where
  box : w.heap[fb]? = some (.cells #[v] 88 (0, 0))
  own : w.ownsRow B 59 3 v ps.length (flatPT ps)
  ways : ∀ p ∈ ps, w.ownsRow B 3 1 (.slice p.a p.t.way.length p.c) p.t.way.length ((nI p.t.way).map (.int .i64))
  lt : fb < B
  top : B ≤ w.heap.size
theorem Fr.cell {w : World} {fb B : Nat} {v : Value} {ps : List PT} (h : Fr w fb B v ps) : w.cell? ⟨fb, 0, none⟩ = some v ∧ w.frozen? ⟨fb, 0, none⟩ = false :=
  ⟨Go.Joins.cell_of_block h.box 0, Go.Joins.unfrozen_of_block h.box 0⟩
theorem Fr.below {w w1 : World} {fb B : Nat} {v : Value} {ps : List PT} (h : Fr w fb B v ps) (hb : Below w.heap.size w w1) : Fr w1 fb B v ps :=
  ⟨blk_keep hb h.box, own_keep h.own hb, fun p hp => own_keep (h.ways p hp) hb, h.lt, Nat.le_trans h.top hb.size⟩
theorem Fr.ne {w : World} {fb B : Nat} {v : Value} {ps : List PT} (h : Fr w fb B v ps) : ∀ k, v.ownBlock = some k → k ≠ fb ∧ k < w.heap.size := fun k hk => ⟨by have := own_from h.own (Nat.le_refl _) k hk; have := h.lt; omega, own_blk_lt h.own k hk⟩
/-- A way's row lies neither in the trials' row nor in the box. -/
theorem way_far {w : World} {B : Nat} {v : Value} {n : Nat} {xs : List Value} (o : w.ownsRow B 59 3 v n xs) {u : Value} {m : Nat} {ys : List Value} (h : w.ownsRow B 3 1 u m ys) : ∀ k, u.ownBlock = some k → v.ownBlock ≠ some k := by
  intro k hk e
  rcases o.2 with ⟨rfl, _⟩ | ⟨g, cap', cur, rfl, hB, hh, _⟩
  · simp [Value.ownBlock] at e
  · simp only [Value.ownBlock, Option.some.injEq] at e
    exact row_ne h hh (by decide) k hk e.symm
theorem own_box {w : World} {B fb e n sz : Nat} {u v : Value} {xs : List Value} (h : w.ownsRow B e sz u n xs) (hf : fb < B) : (w.setCell ⟨fb, 0, none⟩ v).ownsRow B e sz u n xs :=
  own_set h (fun k hk => by have := own_from h (Nat.le_refl _) k hk; omega)
theorem infoTrials : (Try.prog.info? 59).map (fun i => (i.zero, i.size, i.bytes)) = some (some (.agg #[.int .i64 0, .int .i64 0, .slice none 0 0]), 3, 40) := by kernel_rfl
theorem as_trial (v : Value) (t : TypeId) (w : World) : (Instr.typeAssert (.iface 59 v) t 59 false).run Try.prog w = .ok v w := by kernel_rfl
set_option maxRecDepth 20000 in
set_option maxHeartbeats 3200000 in
theorem cPushT (fb B : Nat) (v : Value) (ps : List PT) (p : PT) (w : World) (F : Fr w fb B v ps) (hp : w.ownsRow B 3 1 (.slice p.a p.t.way.length p.c) p.t.way.length ((nI p.t.way).map (.int .i64))) (hn : ps.length ≤ 1000000) :
    Calls Try.prog 56 #[.pointer (some ⟨fb, 0, none⟩), .iface 59 p.val] w fun e w' => e = .returned (.tuple #[]) ∧ ∃ v', Fr w' fb B v' (ps ++ [p]) ∧ Kt w w' fb v v' := by
  obtain ⟨i1, hi1, hy0, hy1, hy2⟩ := info_parts infoTrials
  obtain ⟨a, c, rfl⟩ := own_form F.own
  obtain ⟨b0, b1⟩ := F.cell
  have hflt := lt_of_block F.box
  have hbB := F.lt
  have hBt := F.top
  have hge := own_from F.own (Nat.le_refl _)
  have hA := balloc w (.cells #[.int .i64 p.t.at_, .int .i64 p.t.len, .slice p.a p.t.way.length p.c] 59)
  have FA := F.below hA
  have hpA := own_keep hp hA
  have FD : Fr w.drew fb B (.slice a ps.length c) ps := F.below (Below.refl _ _).drew
  have hta := as_trial
  unfold PT.val
  go_enter Try.func56, Try.ntmps56
  go_region_law (first
    | (refine step_append_lies _ (by rfl) _ _ _ (by rfl) B 59 i1 _ 3 40 Try.underlying86 hi1 hy0 hy1 hy2 rfl (by decide) (.slice a ps.length c) ps.length (flatPT ps) (by rfl) (by exact FD.own.alloc _) ⟨w.heap.size, 0, none⟩ 1 1 (PT.vs p) (by rfl) (by rfl) (World.news_of_block (cs := #[.int .i64 p.t.at_, .int .i64 p.t.len, .slice p.a p.t.way.length p.c]) (t := 59) (fr := (0, 0)) (heap_alloc_new w.drew _)) (by simp [PT.vs, Value.oneCell']) (by decide) (by unfold maxLen; omega) (by omega) (by simp; omega) (w.heap.size + 1) (by simp) ?_; intro g cap2 w6 hown hgrow hat hlt2; have X6 := far_blk hgrow (blk_keep hA F.box) (fun j hj => by have := hge j hj; omega); have u0 := Go.Joins.cell_of_block X6 0; have u1 := Go.Joins.unfrozen_of_block X6 0))
  all_goals (
    have hgrow' : (w.alloc (.cells #[.int .i64 p.t.at_, .int .i64 p.t.len, .slice p.a p.t.way.length p.c] 59)).grownBy w6 (Value.slice a ps.length c).ownBlock := ⟨hgrow.os, hgrow.tape, hgrow.output, hgrow.size, hgrow.block⟩
    have hwf : ∀ q ∈ ps, w6.ownsRow B 3 1 (.slice q.a q.t.way.length q.c) q.t.way.length ((nI q.t.way).map (.int .i64)) := fun q hq => own_far (FA.ways q hq) hgrow' (fun k hk e => way_far F.own (F.ways q hq) k hk e.symm)
    have hpf := own_far hpA hgrow' (fun k hk e => way_far F.own hp k hk e.symm)
    have hloc : ∀ k, (Value.slice (some ⟨g, 0, none⟩) (ps.length + 1) cap2).ownBlock = some k → (Value.slice a ps.length c).ownBlock = some k ∨ (w.alloc (.cells #[.int .i64 p.t.at_, .int .i64 p.t.len, .slice p.a p.t.way.length p.c] 59)).heap.size ≤ k := fun k hk => by
      have hk : g = k := by simpa [Value.ownBlock] using hk
      rcases hat with h | h
      · exact .inl (by rw [h, hk])
      · right; simp; omega
    have hs6 := hgrow'.size
    have e1 : (ps ++ [p]).length = ps.length + 1 := by simp
    have e2 : flatPT (ps ++ [p]) = flatPT ps ++ p.vs := by rw [flatPT_app]; simp [flatPT]
    have KT := (Kt.below fb (Value.slice a ps.length c) hA).trans ((Kt.row hgrow' hloc).trans (Kt.box (Value.slice (some ⟨g, 0, none⟩) (ps.length + 1) cap2) (Value.slice (some ⟨g, 0, none⟩) (ps.length + 1) cap2)))
    have hF : Fr (w6.setCell ⟨fb, 0, none⟩ (.slice (some ⟨g, 0, none⟩) (ps.length + 1) cap2)) fb B (.slice (some ⟨g, 0, none⟩) (ps.length + 1) cap2) (ps ++ [p]) := ⟨by simpa using blk_set (i := 0) (v := .slice (some ⟨g, 0, none⟩) (ps.length + 1) cap2) X6, by rw [e1, e2]; exact own_box hown hbB, fun q hq => by
      rcases List.mem_append.1 hq with h | h
      · exact own_box (hwf q h) hbB
      · simp at h; subst h; exact own_box hpf hbB, hbB, by simp at hs6 ⊢; omega⟩
    replace hF := hide (And.intro hF KT)
    clear hgrow' hloc KT hwf hpf hown hgrow hat FA FD hpA F e1 e2 hp)
  all_goals go_wp2
  all_goals refine bodyPost_end (results_none rfl _ _ _) rfl ?_
  all_goals exact ⟨rfl, _, hF.out.1, hF.out.2⟩
theorem Fr.form {w : World} {fb B : Nat} {v : Value} {ps : List PT} (h : Fr w fb B v ps) (hn : 0 < ps.length) : ∃ g c, v = .slice (some ⟨g, 0, none⟩) ps.length c ∧ Ts w B g c ps := by
  rcases h.own.2 with ⟨_, h0⟩ | ⟨g, c, cur, e, _⟩
  · omega
  · refine ⟨g, c, e, by rw [← e]; exact h.own, h.ways⟩
set_option maxRecDepth 20000 in
set_option maxHeartbeats 3200000 in
theorem cPopT (fb B : Nat) (v : Value) (ps : List PT) (p : PT) (w : World) (F : Fr w fb B v (ps ++ [p])) (hn : ps.length ≤ 1000000) :
    Calls Try.prog 108 #[.pointer (some ⟨fb, 0, none⟩)] w fun e w' => e = .returned (.iface 59 p.val) ∧ ∃ v', Fr w' fb B v' ps ∧ Kt w w' fb v v' := by
  have e1 : (ps ++ [p]).length = ps.length + 1 := by simp
  obtain ⟨g, c, rfl, T⟩ := F.form (by omega)
  obtain ⟨x0, x1, x2⟩ := T.cells (i := ps.length) (by omega)
  have ep : (ps ++ [p]).getD ps.length PT.zero = p := by simp [List.getD]
  rw [ep] at x0 x1 x2
  have hg := own_blk_lt F.own g rfl
  have hgB := own_from F.own (Nat.le_refl _) g rfl
  have hcap : ps.length ≤ c := by
    rcases F.own.2 with ⟨e, _⟩ | ⟨g', c', cur, e, _, _, h, _⟩
    · cases e
    · simp only [Value.slice.injEq] at e; omega
  have hcm : (ps.length : Int) ≤ (c : Int) := by omega
  have hc0 : c ≤ maxLen := by
    rcases F.own.2 with ⟨e, _⟩ | ⟨g', c', cur, e, _, _, _, h, _⟩
    · cases e
    · simp only [Value.slice.injEq] at e; omega
  unfold maxLen at hc0
  have hF : Fr ((w.setCell ⟨fb, 0, none⟩ (.slice (some ⟨g, 0, none⟩) ps.length c)).alloc (.cells #[.int .i64 p.t.at_, .int .i64 p.t.len, .slice p.a p.t.way.length p.c] 59)) fb B (.slice (some ⟨g, 0, none⟩) ps.length c) ps ∧ Kt w ((w.setCell ⟨fb, 0, none⟩ (.slice (some ⟨g, 0, none⟩) ps.length c)).alloc (.cells #[.int .i64 p.t.at_, .int .i64 p.t.len, .slice p.a p.t.way.length p.c] 59)) fb (.slice (some ⟨g, 0, none⟩) (ps ++ [p]).length c) (.slice (some ⟨g, 0, none⟩) ps.length c) := by
    have o := F.own
    rw [e1, flatPT_app] at o
    have o2 := ownsRow_pop (flatPT_len ps) o
    have F1 : Fr (w.setCell ⟨fb, 0, none⟩ (.slice (some ⟨g, 0, none⟩) ps.length c)) fb B (.slice (some ⟨g, 0, none⟩) ps.length c) ps := ⟨by simpa using blk_set (i := 0) (v := .slice (some ⟨g, 0, none⟩) ps.length c) F.box, own_box o2 F.lt, fun q hq => own_box (F.ways q (List.mem_append_left _ hq)) F.lt, F.lt, by have := F.top; simpa using this⟩
    exact ⟨F1.below (balloc _ _), ((Kt.box (Value.slice (some ⟨g, 0, none⟩) ps.length c) (Value.slice (some ⟨g, 0, none⟩) ps.length c)).trans (Kt.below fb _ (balloc _ _))).re rfl⟩
  replace hF := hide hF
  obtain ⟨b0, b1⟩ := F.cell
  have hflt := lt_of_block F.box
  have hne1 : w.heap.size ≠ fb := by omega
  have hne2 : fb ≠ w.heap.size := by omega
  have hln : (ps.length : Int) < ((ps.length + 1 : Nat) : Int) := by omega
  rw [e1] at b0
  unfold PT.val
  generalize ps.length = n at *
  clear T F e1 ep
  go_enter Try.func108, Try.ntmps108
  go_wp2
  go_ret
  exact ⟨rfl, _, hF.out.1, hF.out.2⟩
end Go.Proofs.Ytdjambejppanoaa
