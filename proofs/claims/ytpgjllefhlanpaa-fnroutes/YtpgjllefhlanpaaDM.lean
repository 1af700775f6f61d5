/- A plant that is being drawn: its rows, and what each of them may hold. -/
import Derived.Test.YtpgjllefhlanpaaDK
import Derived.Test.YtpgjllefhlanpaaV
import Derived.Test.YtpgjllefhlanpaaCP
import Derived.Test.YtpgjllefhlanpaaSP
import Derived.Deep.RegionLaw
import Derived.Deep.AppendLies
namespace Go.Proofs.Ytpgjllefhlanpaa
open Go.RowKit

theorem one_block (w : World) (o : Obj) : (w.alloc o).heap[w.heap.size]? = some o := by
  show (w.heap.push o)[w.heap.size]? = _
  rw [Array.getElem?_push, if_pos rfl]
theorem far_blk {w w' : World} {r : Option Nat} (hg : w.grownBy w' r) {g : Nat} {o : Obj} (h : w.heap[g]? = some o) (hne : ∀ j, r = some j → g ≠ j) : w'.heap[g]? = some o :=
  (hg.block g (lt_of_block h) (fun e => hne g e.symm rfl)).trans h
theorem gofr {w w' : World} (r : Option Nat) (hb : Below w.heap.size w w') : w.grownBy w' r := ⟨hb.os, hb.tape, hb.output, hb.size, fun k hk _ => hb.block k hk⟩
theorem own_base {w : World} {base base' e sz n : Nat} {v : Value} {xs : List Value} (h : w.ownsRow base e sz v n xs) (hB : base' ≤ base) : w.ownsRow base' e sz v n xs := by
  obtain ⟨h1, h2⟩ := h
  refine ⟨h1, ?_⟩
  rcases h2 with h2 | ⟨g, cap, cur, hv, hg, r⟩
  · exact .inl h2
  · exact .inr ⟨g, cap, cur, hv, by omega, r⟩
/-- Two rows of elements of different types lie in different blocks. -/
theorem own_apart {w : World} {B B' e e' sz sz' n n' : Nat} {v v' : Value} {xs xs' : List Value} (h : w.ownsRow B e sz v n xs) (h' : w.ownsRow B' e' sz' v' n' xs') (hne : e ≠ e') : ∀ k, v.ownBlock = some k → some k ≠ v'.ownBlock := by
  intro k hk e1
  rcases h.2 with ⟨rfl, _⟩ | ⟨g, cap, cur, rfl, _, hh, _⟩
  · simp [Value.ownBlock] at hk
  · rcases h'.2 with ⟨rfl, _⟩ | ⟨g', cap', cur', rfl, _, hh', _⟩
    · simp [Value.ownBlock] at e1
    · simp [Value.ownBlock] at hk e1
      subst hk
      subst e1
      rw [hh] at hh'
      simp at hh'
      exact hne hh'.2

/-! Needs that ascend, blocks that are apart. -/
theorem needsGo_snoc {n k p : Int} : ∀ {next : Int} {es : List NeedV}, needsGo n next es = true → (∀ e ∈ es, e.point < k) → next ≤ k → k < n → 0 ≤ p → p ≤ 1 → needsGo n next (es ++ [⟨k, p⟩]) = true
  | next, [], _, _, h1, h2, h3, h4 => by
    simp only [List.nil_append, needsGo, Bool.and_true, Bool.and_eq_true]
    exact ⟨inB_yes h1 (by omega), inB_yes h3 h4⟩
  | next, e :: es, h, g, h1, h2, h3, h4 => by
    simp only [needsGo, Bool.and_eq_true, List.cons_append] at h ⊢
    have hk := g e (List.mem_cons_self ..)
    exact ⟨h.1, needsGo_snoc h.2 (fun f hf => g f (List.mem_cons_of_mem _ hf)) (by omega) h2 h3 h4⟩
theorem pathGo_snoc {B x : Int} : ∀ {seen bs : List Int}, pathGo B seen bs = true → 0 ≤ x → x < B → x ∉ seen → x ∉ bs → pathGo B seen (bs ++ [x]) = true
  | seen, [], _, h1, h2, h3, _ => by
    simp only [List.nil_append, pathGo, Bool.and_true, Bool.and_eq_true, Bool.not_eq_true', decide_eq_false_iff_not]
    exact ⟨inB_yes h1 (by omega), h3⟩
  | seen, b :: bs, h, h1, h2, h3, h4 => by
    simp only [pathGo, Bool.and_eq_true, List.cons_append] at h ⊢
    refine ⟨h.1, pathGo_snoc h.2 h1 h2 ?_ (fun hx => h4 (List.mem_cons_of_mem _ hx))⟩
    intro hx
    rcases List.mem_append.1 hx with hx | hx
    · exact h3 hx
    · simp at hx; exact h4 (by rw [hx]; exact List.mem_cons_self ..)
/-- Needs drawn of the points below k. -/
structure NeedsTo (n k : Nat) (ns : List NeedV) : Prop where
  go : needsGo n 0 ns = true
  lt : ∀ e ∈ ns, e.point < (k : Int)
  len : ns.length ≤ k
theorem NeedsTo.nil (n : Nat) : NeedsTo n 0 [] := ⟨rfl, by simp, by simp⟩
theorem NeedsTo.skip {n k : Nat} {ns : List NeedV} (h : NeedsTo n k ns) : NeedsTo n (k + 1) ns := ⟨h.go, fun e he => by have := h.lt e he; omega, by have := h.len; omega⟩
theorem NeedsTo.take {n k : Nat} {ns : List NeedV} (h : NeedsTo n k ns) (hk : k < n) {p : Int} (h0 : 0 ≤ p) (h1 : p < 2) : NeedsTo n (k + 1) (ns ++ [⟨(k : Int), p⟩]) := by
  refine ⟨needsGo_snoc h.go h.lt (by omega) (by omega) h0 (by omega), fun e he => ?_, by have := h.len; simp; omega⟩
  rcases List.mem_append.1 he with he | he
  · have := h.lt e he; omega
  · simp at he; subst he; dsimp only; omega
/-- Blocks drawn in k rounds. -/
structure PathTo (B : Int) (k : Nat) (bs : List Int) : Prop where
  go : pathGo B [] bs = true
  len : bs.length ≤ k
  some' : 0 < k → 0 < bs.length
theorem PathTo.nil (B : Int) : PathTo B 0 [] := ⟨rfl, by simp, fun h => by omega⟩
theorem PathTo.skip {B x : Int} {k : Nat} {bs : List Int} (h : PathTo B k bs) (hx : x ∈ bs) : PathTo B (k + 1) bs := ⟨h.go, by have := h.len; omega, fun _ => List.length_pos_of_mem hx⟩
theorem PathTo.take {B x : Int} {k : Nat} {bs : List Int} (h : PathTo B k bs) (hx : x ∉ bs) (h0 : 0 ≤ x) (h1 : x < B) : PathTo B (k + 1) (bs ++ [x]) :=
  ⟨pathGo_snoc h.go h0 h1 (by simp) hx, by have := h.len; simp; omega, fun _ => by simp⟩
theorem routeOk_of {n k : Nat} {m : Nat} {B : Int} {ns : List NeedV} {bs : List Int} (h : NeedsTo n k ns) (g : PathTo B m bs) (hm : 0 < m) : routeOk n B ⟨ns, bs⟩ = true := by
  simp only [routeOk, pathOk, Bool.and_eq_true, decide_eq_true_eq]
  exact ⟨h.go, g.go, g.some' hm⟩

/-! Pairs of cells. -/
def flatV (vs : List (Value × Value)) : List Value := vs.flatMap fun q => [q.1, q.2]
theorem flatV_snoc (vs : List (Value × Value)) (q : Value × Value) : flatV (vs ++ [q]) = flatV vs ++ [q.1, q.2] := by simp [flatV]
theorem flatV_len (vs : List (Value × Value)) : (flatV vs).length = vs.length * 2 := by
  induction vs with
  | nil => rfl
  | cons q vs ih => simp [flatV] at ih ⊢; omega
theorem flatV_get : ∀ (vs : List (Value × Value)) (i : Nat) (h : i < vs.length), (flatV vs)[i * 2]? = some vs[i].1 ∧ (flatV vs)[i * 2 + 1]? = some vs[i].2
  | q :: vs, 0, h => by simp [flatV]
  | q :: vs, i + 1, h => by
    have := flatV_get vs i (by simpa using h)
    have e : flatV (q :: vs) = q.1 :: q.2 :: flatV vs := rfl
    rw [e, show (i + 1) * 2 = i * 2 + 2 by omega]
    simpa using this

/-- A drawn route's two rows. -/
structure RouteDr (w : World) (lo : Nat) (va vb : Value) (r : RouteV) : Prop where
  needs : w.ownsRow lo 74 2 va r.needs.length (flatNeeds r.needs)
  blocks : w.ownsRow lo 3 1 vb r.blocks.length (r.blocks.map (.int .i64))
theorem RouteDr.below {w w' : World} {lo : Nat} {va vb : Value} {r : RouteV} (h : RouteDr w lo va vb r) (hb : Below w.heap.size w w') : RouteDr w' lo va vb r := ⟨own_keep h.needs hb, own_keep h.blocks hb⟩
theorem RouteDr.cur {w w' : World} {lo cb : Nat} {va vb : Value} {r : RouteV} (h : RouteDr w lo va vb r) (hcb : cb < lo) (hg : w.grownBy w' (some cb)) : RouteDr w' lo va vb r :=
  ⟨own_far h.needs hg (fun k hk e => by have := own_from h.needs (Nat.le_refl _) k hk; simp at e; omega), own_far h.blocks hg (fun k hk e => by have := own_from h.blocks (Nat.le_refl _) k hk; simp at e; omega)⟩
theorem RouteDr.off {w w' : World} {lo : Nat} {va vb : Value} {r : RouteV} {q : Option Nat} (h : RouteDr w lo va vb r) (hg : w.grownBy w' q) (h1 : ∀ k, va.ownBlock = some k → some k ≠ q) (h2 : ∀ k, vb.ownBlock = some k → some k ≠ q) : RouteDr w' lo va vb r :=
  ⟨own_far h.needs hg h1, own_far h.blocks hg h2⟩
theorem RouteDr.mono {w : World} {lo lo' : Nat} {va vb : Value} {r : RouteV} (h : RouteDr w lo va vb r) (hl : lo' ≤ lo) : RouteDr w lo' va vb r := ⟨own_base h.needs hl, own_base h.blocks hl⟩
theorem RouteDr.read {w : World} {lo : Nat} {va vb : Value} {r : RouteV} (h : RouteDr w lo va vb r) : RouteIn w va vb r := by
  obtain ⟨a, ca, rfl⟩ := own_form h.needs
  obtain ⟨b, cb, rfl⟩ := own_form h.blocks
  refine ⟨a, ca, b, cb, rfl, rfl, ?_, Needs.own h.needs, Ints.own h.blocks rfl⟩
  rcases h.blocks.2 with ⟨he, h0⟩ | ⟨g, cap', cur, he, _, _, hc, _⟩
  · omega
  · simp only [Value.slice.injEq] at he
    obtain ⟨_, _, rfl⟩ := he
    exact hc

/-- The plant that is being drawn, in block pb. -/
structure Pt (w0 wr : World) (cb pb : Nat) (B : Int) (vu : Value) (us : List Int) (vr : Value) (vs : List (Value × Value)) (rs : List RouteV) : Prop where
  out : wr.heap[pb]? = some (.cells #[vu, .int .i64 B, vr] 27 (0, 0))
  own : wr.ownsRow (pb + 1) 3 1 vu us.length (us.map (.int .i64))
  row : wr.ownsRow (pb + 1) 48 2 vr rs.length (flatV vs)
  len : vs.length = rs.length
  each : ∀ j, (hj : j < vs.length) → RouteDr wr (pb + 1) vs[j].1 vs[j].2 (rs.getD j RouteV.zero)
  usB : ∀ x ∈ us, 0 ≤ x ∧ x < B
  ok : ∀ r ∈ rs, routeOk us.length B r = true
  gr : w0.grownBy wr (some cb)
theorem Pt.below {w0 wr w2 : World} {cb pb : Nat} {B : Int} {vu vr : Value} {us : List Int} {vs : List (Value × Value)} {rs : List RouteV} (h : Pt w0 wr cb pb B vu us vr vs rs) (hb : Below wr.heap.size wr w2) : Pt w0 w2 cb pb B vu us vr vs rs :=
  ⟨blk_keep hb h.out, own_keep h.own hb, own_keep h.row hb, h.len, fun j hj => (h.each j hj).below hb, h.usB, h.ok, gtrans h.gr (gofr _ hb)⟩
theorem Pt.cur {w0 wr w2 : World} {cb pb : Nat} {B : Int} {vu vr : Value} {us : List Int} {vs : List (Value × Value)} {rs : List RouteV} (h : Pt w0 wr cb pb B vu us vr vs rs) (hcp : cb < pb) (hg : wr.grownBy w2 (some cb)) : Pt w0 w2 cb pb B vu us vr vs rs :=
  ⟨far_blk hg h.out (fun j hj => by simp at hj; omega), own_far h.own hg (fun k hk e => by have := own_from h.own (Nat.le_refl _) k hk; simp at e; omega),
    own_far h.row hg (fun k hk e => by have := own_from h.row (Nat.le_refl _) k hk; simp at e; omega), h.len, fun j hj => (h.each j hj).cur (by omega) hg, h.usB, h.ok, gtrans h.gr hg⟩
/-- One point more. -/
theorem Pt.under {w0 wr w7 w9 : World} {cb pb : Nat} {B x : Int} {v v9 : Value} {us : List Int} (h : Pt w0 w7 cb pb B v us (.slice none 0 0) [] []) (h0 : w0.heap.size ≤ pb) (hx : 0 ≤ x ∧ x < B) (hb : Below w7.heap.size w7 wr)
    (ho : w9.ownsRow (pb + 1) 3 1 v9 (us.length + 1) (us.map (.int .i64) ++ [.int .i64 x])) (hg : wr.grownBy w9 v.ownBlock) : Pt w0 (w9.setCell ⟨pb, 0, none⟩ v9) cb pb B v9 (us ++ [x]) (.slice none 0 0) [] [] := by
  have hfr := own_from h.own (Nat.le_refl _)
  have o1 := far_blk hg (blk_keep hb h.out) (fun j hj => by have := hfr j hj; omega)
  refine ⟨blk_set o1, own_set (by rw [List.map_append, List.length_append]; exact ho) (fun k hk => by have := own_from ho (Nat.le_refl _) k hk; omega), World.ownsRow_nil _ _ _ _, rfl, fun j hj => by simp at hj, ?_, fun r hr => by simp at hr, ?_⟩
  · intro y hy
    rcases List.mem_append.1 hy with h1 | h1
    · exact h.usB y h1
    · rw [List.mem_singleton.1 h1]; exact hx
  · exact grown_far (grown_far (gtrans h.gr (gofr _ hb)) hg (fun k hk => by have := hfr k hk; omega)) (grown_set _ _ _ _) (fun k hk => by simp at hk; omega)
theorem getD_app {rs : List RouteV} {t : RouteV} {i : Nat} (h : i < rs.length) : (rs ++ [t]).getD i RouteV.zero = rs.getD i RouteV.zero := by simp [List.getD, List.getElem?_append_left h]
theorem getD_end {rs : List RouteV} {t : RouteV} : (rs ++ [t]).getD rs.length RouteV.zero = t := by simp [List.getD]
/-- One route more. -/
theorem Pt.push {w0 wr w7 w9 : World} {cb pb : Nat} {B : Int} {vu vr v9 va vb : Value} {us : List Int} {vs : List (Value × Value)} {rs : List RouteV} {r : RouteV} (h : Pt w0 w7 cb pb B vu us vr vs rs) (h0 : w0.heap.size ≤ pb)
    (hR : RouteDr w7 (pb + 1) va vb r) (hok : routeOk us.length B r = true) (hb : Below w7.heap.size w7 wr)
    (ho : w9.ownsRow (pb + 1) 48 2 v9 (rs.length + 1) (flatV vs ++ [va, vb])) (hg : wr.grownBy w9 vr.ownBlock) : Pt w0 (w9.setCell ⟨pb, 2, none⟩ v9) cb pb B vu us v9 (vs ++ [(va, vb)]) (rs ++ [r]) := by
  have hB := h.below hb
  have hRB := hR.below hb
  have hfr := own_from h.row (Nat.le_refl _)
  have o1 := far_blk hg hB.out (fun j hj => by have := hfr j hj; omega)
  have keep : ∀ {va vb r}, RouteDr wr (pb + 1) va vb r → RouteDr (w9.setCell ⟨pb, 2, none⟩ v9) (pb + 1) va vb r := by
    intro va vb r hr
    have h1 := hr.off hg (fun k hk e => own_apart hr.needs hB.row (by decide) k hk e) (fun k hk e => own_apart hr.blocks hB.row (by decide) k hk e)
    exact h1.off (grown_set _ _ _ _) (fun k hk e => by have := own_from h1.needs (Nat.le_refl _) k hk; simp at e; omega) (fun k hk e => by have := own_from h1.blocks (Nat.le_refl _) k hk; simp at e; omega)
  have hl := h.len
  refine ⟨blk_set o1, ?_, ?_, by simp [hl], fun j hj => ?_, h.usB, fun q hq => ?_, ?_⟩
  · have u1 := own_far hB.own hg (fun k hk e => own_apart hB.own hB.row (by decide) k hk e)
    exact own_set u1 (fun k hk => by have := own_from u1 (Nat.le_refl _) k hk; omega)
  · rw [flatV_snoc, List.length_append]
    exact own_set ho (fun k hk => by have := own_from ho (Nat.le_refl _) k hk; omega)
  · by_cases hjl : j < vs.length
    · rw [List.getElem_append_left hjl, getD_app (by omega)]
      exact keep (hB.each j hjl)
    · obtain rfl : j = vs.length := by simp at hj; omega
      have e : (vs ++ [(va, vb)])[vs.length]'(by simp) = (va, vb) := by simp
      rw [e, hl, getD_end]
      exact keep hRB
  · rcases List.mem_append.1 hq with h1 | h1
    · exact h.ok q h1
    · rw [List.mem_singleton.1 h1]; exact hok
  · exact grown_far (grown_far (gtrans h.gr (gofr _ hb)) hg (fun k hk => by have := hfr k hk; omega)) (grown_set _ _ _ _) (fun k hk => by simp at hk; omega)

/-- The route that is being drawn, in block rb. -/
structure Rt (wS wr : World) (cb rb : Nat) (va : Value) (ns : List NeedV) (vb : Value) (bs : List Int) : Prop where
  out : wr.heap[rb]? = some (.cells #[va, vb] 48 (0, 0))
  own : RouteDr wr (rb + 1) va vb ⟨ns, bs⟩
  gr : wS.grownBy wr (some cb)
theorem Rt.below {wS wr w2 : World} {cb rb : Nat} {va vb : Value} {ns : List NeedV} {bs : List Int} (h : Rt wS wr cb rb va ns vb bs) (hb : Below wr.heap.size wr w2) : Rt wS w2 cb rb va ns vb bs :=
  ⟨blk_keep hb h.out, h.own.below hb, gtrans h.gr (gofr _ hb)⟩
theorem Rt.cur {wS wr w2 : World} {cb rb : Nat} {va vb : Value} {ns : List NeedV} {bs : List Int} (h : Rt wS wr cb rb va ns vb bs) (hcb : cb < rb) (hg : wr.grownBy w2 (some cb)) : Rt wS w2 cb rb va ns vb bs :=
  ⟨far_blk hg h.out (fun j hj => by simp at hj; omega), h.own.cur (by omega) hg, gtrans h.gr hg⟩
theorem flat_need (e : NeedV) : flatNeeds [e] = e.vs := by simp [flatNeeds]
/-- One need more. -/
theorem Rt.need {wS wr w7 w9 : World} {cb rb : Nat} {va vb v9 : Value} {ns : List NeedV} {bs : List Int} {e : NeedV} (h : Rt wS w7 cb rb va ns vb bs) (h0 : wS.heap.size ≤ rb) (hb : Below w7.heap.size w7 wr)
    (ho : w9.ownsRow (rb + 1) 74 2 v9 (ns.length + 1) (flatNeeds ns ++ e.vs)) (hg : wr.grownBy w9 va.ownBlock) : Rt wS (w9.setCell ⟨rb, 0, none⟩ v9) cb rb v9 (ns ++ [e]) vb bs := by
  have hB := h.below hb
  have hfr := own_from h.own.needs (Nat.le_refl _)
  have o1 := far_blk hg hB.out (fun j hj => by have := hfr j hj; omega)
  have u1 := own_far hB.own.blocks hg (fun k hk e => own_apart hB.own.blocks hB.own.needs (by decide) k hk e)
  refine ⟨blk_set o1, ⟨?_, own_set u1 (fun k hk => by have := own_from u1 (Nat.le_refl _) k hk; omega)⟩, ?_⟩
  · refine own_set ?_ (fun k hk => by have := own_from ho (Nat.le_refl _) k hk; omega)
    rw [flatNeeds_app, flat_need, List.length_append]; exact ho
  · exact grown_far (grown_far (gtrans h.gr (gofr _ hb)) hg (fun k hk => by have := hfr k hk; omega)) (grown_set _ _ _ _) (fun k hk => by simp at hk; omega)
/-- One block more. -/
theorem Rt.block {wS wr w7 w9 : World} {cb rb : Nat} {va vb v9 : Value} {ns : List NeedV} {bs : List Int} {x : Int} (h : Rt wS w7 cb rb va ns vb bs) (h0 : wS.heap.size ≤ rb) (hb : Below w7.heap.size w7 wr)
    (ho : w9.ownsRow (rb + 1) 3 1 v9 (bs.length + 1) (bs.map (.int .i64) ++ [.int .i64 x])) (hg : wr.grownBy w9 vb.ownBlock) : Rt wS (w9.setCell ⟨rb, 1, none⟩ v9) cb rb va ns v9 (bs ++ [x]) := by
  have hB := h.below hb
  have hfr := own_from h.own.blocks (Nat.le_refl _)
  have o1 := far_blk hg hB.out (fun j hj => by have := hfr j hj; omega)
  have u1 := own_far hB.own.needs hg (fun k hk e => own_apart hB.own.needs hB.own.blocks (by decide) k hk e)
  refine ⟨blk_set o1, ⟨own_set u1 (fun k hk => by have := own_from u1 (Nat.le_refl _) k hk; omega), ?_⟩, ?_⟩
  · refine own_set ?_ (fun k hk => by have := own_from ho (Nat.le_refl _) k hk; omega)
    rw [List.map_append, List.length_append]; exact ho
  · exact grown_far (grown_far (gtrans h.gr (gofr _ hb)) hg (fun k hk => by have := hfr k hk; omega)) (grown_set _ _ _ _) (fun k hk => by simp at hk; omega)

/-! The drawn plant, read. -/
theorem Pt.routes {w0 wr : World} {cb pb n c : Nat} {B : Int} {vu : Value} {b : Option Addr} {us : List Int} {vs : List (Value × Value)} {rs : List RouteV} (h : Pt w0 wr cb pb B vu us (.slice b n c) vs rs) : Routes wr b rs := by
  rcases h.row.2 with ⟨_, h0⟩ | ⟨gb, cap', cur, he, _⟩
  · exact .inl (List.length_eq_zero_iff.1 h0)
  · have hrow := h.row
    simp only [Value.slice.injEq] at he
    obtain ⟨rfl, hn, _⟩ := he
    refine .inr ⟨gb, 0, rfl, fun i hi => ?_⟩
    have hi' : i < vs.length := by have := h.len; omega
    obtain ⟨q1, q2⟩ := flatV_get vs i hi'
    subst hn
    refine ⟨_, _, ?_, ?_, (h.each i hi').read⟩
    · rw [Nat.zero_add, hrow.cellAt _ (by omega)]; exact q1
    · rw [Nat.zero_add, hrow.cellAt _ (by omega)]; exact q2
end Go.Proofs.Ytpgjllefhlanpaa
