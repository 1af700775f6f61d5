/- Walk and WayLen of the program: a walk along edges, its end and its length. -/
import Derived.Test.YtdjambejppanoaaSS
import Derived.Test.YtdjambejppanoaaCU
namespace Go.Proofs.Ytdjambejppanoaa
open Go.RowKit


/-- A step along the edge at place p: the node it leads to, and its length. -/
def stepF (es : List EdgeV) (x p : Int) : Option (Int × Int) :=
  if inB p 0 ((es.length : Int) - 1) = true then
    (if otherF (es.getD p.toNat EdgeV.zero) x < 0 then none else some (otherF (es.getD p.toNat EdgeV.zero) x, (es.getD p.toNat EdgeV.zero).l)) else none
/-- A walk: the node at the end and the sum of the lengths. -/
def wk (es : List EdgeV) (s : Int × Int) : List Int → Option (Int × Int)
  | [] => some s
  | p :: ps => match stepF es s.1 p with
    | none => none
    | some (b, l) => wk es (b, s.2 + l) ps

theorem wk_app (es : List EdgeV) (xs ys : List Int) : ∀ s, wk es s (xs ++ ys) = (wk es s xs).bind (fun s' => wk es s' ys) := by
  induction xs with
  | nil => intro s; rfl
  | cons p ps ih =>
    intro s
    simp only [List.cons_append, wk]
    cases stepF es s.1 p with
    | none => rfl
    | some q => exact ih _
theorem wk_step {es : List EdgeV} {f : Int} {zs : List Int} {k : Nat} {x t b l : Int} (hk : k < zs.length) (h : wk es (f, 0) (zs.take k) = some (x, t)) (g : stepF es x zs[k] = some (b, l)) : wk es (f, 0) (zs.take (k + 1)) = some (b, t + l) := by
  rw [List.take_succ_eq_append_getElem hk, wk_app, h]
  simp only [Option.bind_some, wk, g]
theorem wk_stop {es : List EdgeV} {f : Int} {zs : List Int} {k : Nat} {x t : Int} (hk : k < zs.length) (h : wk es (f, 0) (zs.take k) = some (x, t)) (g : stepF es x zs[k] = none) : wk es (f, 0) zs = none := by
  have e : zs = zs.take k ++ zs[k] :: zs.drop (k + 1) := by simp
  rw [e, wk_app, h]
  simp only [Option.bind_some, wk, g]

/-- What a walk from f along zs comes to in a net: none where it is no walk. -/
def walkB (n : Int) (es : List EdgeV) (f : Int) (zs : List Int) : Option (Int × Int) :=
  if netB n es = true ∧ nodeB n f = true ∧ zs.length ≤ 60 then wk es (f, 0) zs else none
def atOf : Option (Int × Int) → Int
  | some s => s.1
  | none => 0
theorem walkB_net {n : Int} {es : List EdgeV} {f : Int} {zs : List Int} (h : netB n es = false) : walkB n es f zs = none := if_neg (by rw [h]; rintro ⟨h, _⟩; cases h)
theorem walkB_node {n : Int} {es : List EdgeV} {f : Int} {zs : List Int} (h : nodeB n f = false) : walkB n es f zs = none := if_neg (by rw [h]; rintro ⟨_, h, _⟩; cases h)
theorem walkB_long {n : Int} {es : List EdgeV} {f : Int} {zs : List Int} (h : 60 < zs.length) : walkB n es f zs = none := if_neg (by rintro ⟨_, _, h'⟩; omega)
theorem walkB_in {n : Int} {es : List EdgeV} {f : Int} {zs : List Int} (h1 : netB n es = true) (h2 : nodeB n f = true) (h3 : zs.length ≤ 60) : walkB n es f zs = wk es (f, 0) zs := if_pos ⟨h1, h2, h3⟩

theorem net_edge {n : Int} {es : List EdgeV} (h : netB n es = true) {k : Nat} (hk : k < es.length) : edgeB n (es.getD k EdgeV.zero) = true := by
  simp only [netB, Bool.and_eq_true] at h
  exact goodTo_at h.2.2 hk
theorem edge_parts {n : Int} {e : EdgeV} (h : edgeB n e = true) : 0 ≤ e.a ∧ e.a ≤ n - 1 ∧ 0 ≤ e.b ∧ e.b ≤ n - 1 ∧ e.a ≠ e.b ∧ 1 ≤ e.l ∧ e.l ≤ 100000 := by
  simp only [edgeB, nodeB, Bool.and_eq_true, Bool.not_eq_true', decide_eq_false_iff_not] at h
  obtain ⟨h1, h2, h3, h4, _⟩ := h
  have := inB_true h1
  have := inB_true h2
  have := inB_true h4
  exact ⟨by omega, by omega, by omega, by omega, h3, by omega, by omega⟩

theorem tup {a b a' b' : Value} (h1 : a = a') (h2 : b = b') : Ending.returned (.tuple #[a, b]) = .returned (.tuple #[a', b']) := by rw [h1, h2]
theorem tup_none {o : Option (Int × Int)} (h : o = none) : Ending.returned (.tuple #[.int .i64 0, .bool false]) = .returned (.tuple #[.int .i64 (atOf o), .bool o.isSome]) := by rw [h]; rfl
theorem tup_some {o : Option (Int × Int)} {x t : Int} (h : o = some (x, t)) : Ending.returned (.tuple #[.int .i64 x, .bool true]) = .returned (.tuple #[.int .i64 (atOf o), .bool o.isSome]) := by rw [h]; rfl

theorem step_out {es : List EdgeV} {x p : Int} (h : inB p 0 ((es.length : Int) - 1) = false) : stepF es x p = none := if_neg (by rw [h]; simp)
theorem step_none {es : List EdgeV} {x p : Int} {q : Nat} (hp : p = q) (hq : q < es.length) (h : otherF es[q] x < 0) : stepF es x p = none := by
  subst hp
  have e : es.getD ((q : Int)).toNat EdgeV.zero = es[q] := by simp [List.getD, hq]
  unfold stepF
  rw [e, if_pos h]
  split <;> rfl
theorem step_some {es : List EdgeV} {x p : Int} {q : Nat} (hp : p = q) (hq : q < es.length) (h : ¬ otherF es[q] x < 0) : stepF es x p = some (otherF es[q] x, es[q].l) := by
  subst hp
  have e : es.getD ((q : Int)).toNat EdgeV.zero = es[q] := by simp [List.getD, hq]
  unfold stepF
  rw [e, if_neg h, if_pos (by simp [inB]; omega)]

theorem blk3w {w : World} {g : Nat} {c0 c1 c2 : Value} {t : TypeId} (h : w.heap[g]? = some (.cells #[c0, c1, c2] t (0, 0))) :
    (w.cell? ⟨g, 0, none⟩ = some c0 ∧ w.cell? ⟨g, 1, none⟩ = some c1 ∧ w.cell? ⟨g, 2, none⟩ = some c2) ∧ (w.frozen? ⟨g, 0, none⟩ = false ∧ w.frozen? ⟨g, 1, none⟩ = false ∧ w.frozen? ⟨g, 2, none⟩ = false) :=
  ⟨⟨Go.Joins.cell_of_block h 0, Go.Joins.cell_of_block h 1, Go.Joins.cell_of_block h 2⟩, ⟨Go.Joins.unfrozen_of_block h 0, Go.Joins.unfrozen_of_block h 1, Go.Joins.unfrozen_of_block h 2⟩⟩
def walkTV (o : Option (Int × Int)) : Value := match o with
  | some s => .agg #[.int .i64 s.1, .int .i64 s.2, .slice none 0 0]
  | none => .agg #[.int .i64 0, .int .i64 0, .slice none 0 0]

theorem trial_set {w2 w3 : World} {y t y' t' : Int} {o : Obj} (hb : Below w2.heap.size w2 w3) (hT : w3.heap[w2.heap.size]? = some (.cells #[.int .i64 y, .int .i64 t, .slice none 0 0] 59)) :
    Below w2.heap.size w2 (((w3.setCell ⟨w2.heap.size, 0, none⟩ (.int .i64 y')).setCell ⟨w2.heap.size, 1, none⟩ (.int .i64 t')).alloc o) ∧
    (((w3.setCell ⟨w2.heap.size, 0, none⟩ (.int .i64 y')).setCell ⟨w2.heap.size, 1, none⟩ (.int .i64 t')).alloc o).heap[w2.heap.size]? = some (.cells #[.int .i64 y', .int .i64 t', .slice none 0 0] 59) := by
  have B := below_set (o := 1) (v := .int .i64 t') (Nat.le_refl _) (below_set (o := 0) (v := .int .i64 y') (Nat.le_refl _) hb)
  have h1 := Go.Joins.block_setCell (i := 0) hT (.int .i64 y')
  have h2 := Go.Joins.block_setCell (i := 1) h1 (.int .i64 t')
  refine ⟨btrans B (balloc _ _), ?_⟩
  exact blk_below (by simpa using h2) (balloc _ _)
theorem wk_bound {n : Int} {es : List EdgeV} (hn : netB n es = true) (xs : List Int) : ∀ s t, wk es s xs = some t → s.2 ≤ t.2 ∧ t.2 ≤ s.2 + xs.length * 100000 := by
  induction xs with
  | nil => intro s t h; simp only [wk, Option.some.injEq] at h; subst h; simp
  | cons p ps ih =>
    intro s t h
    simp only [wk] at h
    unfold stepF at h
    by_cases hp : inB p 0 ((es.length : Int) - 1) = true
    · rw [if_pos hp] at h
      have hq := inB_true hp
      have he := edge_parts (net_edge hn (show p.toNat < es.length by omega))
      by_cases ho : otherF (es.getD p.toNat EdgeV.zero) s.1 < 0
      · rw [if_pos ho] at h; cases h
      · rw [if_neg ho] at h
        have := ih _ _ h
        simp only [List.length_cons] at this ⊢
        omega
    · rw [if_neg hp] at h; cases h

set_option maxHeartbeats 3200000 in
theorem cWalked (a a2 : Option Addr) (p p2 : Nat) (n f : Int) (es : List EdgeV) (zs : List Int) (w : World) (he : Edges w a es) (hz : Ints w a2 zs) (hl : es.length ≤ 1048576) (hl2 : zs.length ≤ 1048576) :
    Calls Try.prog 44 #[.agg #[.int .i64 n, .slice a es.length p], .int .i64 f, .slice a2 zs.length p2] w fun e w' => e = .returned (.tuple #[walkTV (walkB n es f zs), .bool (walkB n es f zs).isSome]) ∧ Below w.heap.size w w' := by
  have hW := btrans (balloc w (.cells #[.int .i64 n, .slice a es.length p] 26)) (balloc _ (.cells #[.int .i64 0, .int .i64 0, .slice none 0 0] 59))
  have X0 := (Bx2.new w (.int .i64 n) (.slice a es.length p) 26).below (balloc _ (.cells #[.int .i64 0, .int .i64 0, .slice none 0 0] 59))
  have K0 := blk_new1 w (.cells #[.int .i64 n, .slice a es.length p] 26) (.cells #[.int .i64 0, .int .i64 0, .slice none 0 0] 59)
  have E0 := he.below hW
  cases hn : netB n es
  · have R := hide (walkB_net (f := f) (zs := zs) hn)
    go_enter Try.func44, Try.ntmps44
    go_wp2_with fail
    refine (cNetI a p n es _ E0 hl).mono ?_
    rintro e w1 ⟨rfl, hb1⟩
    have HB1 := btrans hW hb1
    obtain ⟨⟨b0, b1, b2⟩, f0, f1, f2⟩ := blk3w (blk_below K0 hb1)
    rw [hn]
    clear hb1
    go_wp2
    refine bodyPost_ret (v := .tuple #[.agg #[.int .i64 0, .int .i64 0, .slice none 0 0], .bool false]) (by simp [results, Try.results44, go_sem, b0, b1, b2]) rfl ⟨by rw [R.out]; rfl, ?_⟩
    exact below_set (by omega) (below_set (by omega) (below_set (by omega) HB1))
  obtain ⟨hn1, hn2, hn3⟩ := net_n hn
  cases hf : nodeB n f
  · have R := hide (walkB_node (es := es) (zs := zs) (n := n) (f := f) hf)
    go_enter Try.func44, Try.ntmps44
    go_wp2_with fail
    refine (cNetI a p n es _ E0 hl).mono ?_
    rintro e w1 ⟨rfl, hb1⟩
    have HB1 := btrans hW hb1
    have K1 := blk_below K0 hb1
    have X1 := X0.below hb1
    obtain ⟨x0, x1⟩ := id X1
    rw [hn]
    clear hb1 X0 K0
    go_wp2_with fail
    clear x0 x1
    refine (cHasNode _ _ _ _).mono ?_
    rintro e w2 ⟨rfl, hb2⟩
    have HB2 := btrans HB1 hb2
    have K2 := blk_below K1 hb2
    have X2 := X1.below hb2
    clear hb2 K1 X1 HB1
    rw [hf]
    obtain ⟨⟨b0, b1, b2⟩, f0, f1, f2⟩ := blk3w K2
    go_wp2
    refine bodyPost_ret (v := .tuple #[.agg #[.int .i64 0, .int .i64 0, .slice none 0 0], .bool false]) (by simp [results, Try.results44, go_sem, b0, b1, b2]) rfl ⟨by rw [R.out]; rfl, ?_⟩
    exact below_set (by omega) (below_set (by omega) (below_set (by omega) HB2))
  by_cases h60 : 60 < zs.length
  · have R := hide (walkB_long (n := n) (es := es) (f := f) h60)
    go_enter Try.func44, Try.ntmps44
    go_wp2_with fail
    refine (cNetI a p n es _ E0 hl).mono ?_
    rintro e w1 ⟨rfl, hb1⟩
    have HB1 := btrans hW hb1
    have K1 := blk_below K0 hb1
    have X1 := X0.below hb1
    obtain ⟨x0, x1⟩ := id X1
    rw [hn]
    clear hb1 X0 K0
    go_wp2_with fail
    clear x0 x1
    refine (cHasNode _ _ _ _).mono ?_
    rintro e w2 ⟨rfl, hb2⟩
    have HB2 := btrans HB1 hb2
    have K2 := blk_below K1 hb2
    have X2 := X1.below hb2
    clear hb2 K1 X1 HB1
    rw [hf]
    obtain ⟨⟨b0, b1, b2⟩, f0, f1, f2⟩ := blk3w K2
    go_wp2
    refine bodyPost_ret (v := .tuple #[.agg #[.int .i64 0, .int .i64 0, .slice none 0 0], .bool false]) (by simp [results, Try.results44, go_sem, b0, b1, b2]) rfl ⟨by rw [R.out]; rfl, ?_⟩
    exact below_set (by omega) (below_set (by omega) (below_set (by omega) HB2))
  have R0 := hide (walkB_in (n := n) (es := es) (f := f) (zs := zs) hn hf (by omega))
  go_enter Try.func44, Try.ntmps44
  go_wp2_with fail
  refine (cNetI a p n es _ E0 hl).mono ?_
  rintro e w1 ⟨rfl, hb1⟩
  have HB1 := btrans hW hb1
  have K1 := blk_below K0 hb1
  have X1 := X0.below hb1
  obtain ⟨x0, x1⟩ := id X1
  rw [hn]
  clear hb1 X0 K0
  go_wp2_with fail
  clear x0 x1
  refine (cHasNode _ _ _ _).mono ?_
  rintro e w2 ⟨rfl, hb2⟩
  have HB2 := btrans HB1 hb2
  have K2 := blk_below K1 hb2
  have X2 := X1.below hb2
  clear hb2 K1 X1 HB1
  rw [hf]
  clear hW E0
  go_wp2
  go_loopw [10, 11, 31] (fun _ _ i wr => ∃ (k : Nat) (y t : Int), k ≤ zs.length ∧ i = .int .i64 k ∧ wk es (f, 0) (zs.take k) = some (y, t) ∧ Below w2.heap.size w2 wr ∧ wr.heap[w2.heap.size]? = some (.cells #[.int .i64 y, .int .i64 t, .slice none 0 0] 59)) (fun _ _ i _ => zs.length - (intOf i).toNat)
  case atStart => exact ⟨0, f, 0, Nat.zero_le _, rfl, rfl, balloc _ _, blk_new _ _⟩
  case round =>
    obtain ⟨k, y, t, hk, rfl, hwk, hb, hT⟩ := hrel
    have fin := btrans HB2 hb
    have X := X2.below hb
    have K := blk_below K2 hb
    obtain ⟨x0, x1⟩ := id X
    obtain ⟨⟨b0, b1, b2⟩, f0, f1, f2⟩ := blk3w K
    obtain ⟨⟨d0, d1, d2⟩, e0, e1, e2⟩ := blk3w hT
    by_cases hlt : k < zs.length
    · rcases hz with hz | ⟨b, off, rfl, hc⟩
      · simp [hz] at hlt
      have hck : wr.cell? ⟨b, off + k, none⟩ = some (.int .i64 zs[k]) := (ble fin (hc k hlt)).trans (by simp [List.getD, hlt])
      clear hc
      cases hp : placeB es.length zs[k]
      · have R := hide (R0.out.trans (wk_stop hlt hwk (step_out hp)))
        go_wp2_with fail
        clear x0 x1 b0 b1 b2 f0 f1 f2 d0 d1 d2 e0 e1 e2
        refine (cHasEdge _ _ _ _ _ _).mono ?_
        rintro e w3 ⟨rfl, hb3⟩
        have fin3 := btrans fin hb3
        have hb3' := btrans hb hb3
        have X3 := X.below hb3
        have K3 := blk_below K hb3
        have T3 := blk_below hT hb3
        obtain ⟨x0, x1⟩ := id X3
        obtain ⟨⟨b0, b1, b2⟩, f0, f1, f2⟩ := blk3w K3
        obtain ⟨⟨d0, d1, d2⟩, e0, e1, e2⟩ := blk3w T3
        have hT2 := lt_of_block T3
        have hK2 := lt_of_block K3
        have hX2 := cell_lt X3.1
        rw [hp]
        go_wp2
        refine bodyPost_ret (v := .tuple #[.agg #[.int .i64 0, .int .i64 0, .slice none 0 0], .bool false]) (by simp [results, Try.results44, go_sem, b0, b1, b2]) rfl ⟨by rw [R.out]; rfl, ?_⟩
        exact below_set (by omega) (below_set (by omega) (below_set (by omega) fin3))
      · obtain ⟨q, hq⟩ : ∃ q : Nat, zs[k] = q := ⟨zs[k].toNat, by have := (inB_true hp).1; omega⟩
        have hql : q < es.length := by have := (inB_true hp).2; omega
        have HQ := hide hq
        rw [hq] at hck hp
        clear hq
        go_wp2_with fail
        clear x0 x1 b0 b1 b2 f0 f1 f2 d0 d1 d2 e0 e1 e2
        refine (cHasEdge _ _ _ _ _ _).mono ?_
        rintro e w3 ⟨rfl, hb3⟩
        have fin3 := btrans fin hb3
        have hb3' := btrans hb hb3
        have X3 := X.below hb3
        have K3 := blk_below K hb3
        have T3 := blk_below hT hb3
        obtain ⟨x0, x1⟩ := id X3
        obtain ⟨⟨b0, b1, b2⟩, f0, f1, f2⟩ := blk3w K3
        obtain ⟨⟨d0, d1, d2⟩, e0, e1, e2⟩ := blk3w T3
        have hT2 := lt_of_block T3
        have hK2 := lt_of_block K3
        have hX2 := cell_lt X3.1
        rw [hp]
        have P := he.below fin3
        rcases P with P | ⟨b', off', rfl, hc'⟩
        · simp [P] at hql
        obtain ⟨p0, p1, p2, p3⟩ := hc' q hql
        have hbs := cell_lt p0
        have eg := edge_parts (net_edge hn hql)
        have E1 : es.getD q EdgeV.zero = es[q] := by simp [List.getD, hql]
        rw [E1] at eg p0 p1 p2 p3
        have bnd := wk_bound hn _ _ _ hwk
        have bl : (zs.take k).length = k := by simp; omega
        rw [bl] at bnd
        have stop := fun h => hide (R0.out.trans (wk_stop hlt hwk (step_none HQ.out hql h)))
        have go := fun h => wk_step hlt hwk (step_some HQ.out hql h)
        generalize hE : es[q] = E at p0 p1 p2 p3 eg stop go
        obtain ⟨ea, eb, el, em⟩ := E
        simp only at p0 p1 p2 p3 eg bnd
        obtain ⟨eg0, eg1, eg2, eg3, eg4, eg5, eg6⟩ := eg
        have hwt : IntKind.i64.wrap (t + el) = t + el := wrap_in _ (by omega) (by omega)
        clear hc' hE E1
        by_cases h1 : ea = y
        · have o : otherF ⟨ea, eb, el, em⟩ y = eb := if_pos h1
          have R := go (by rw [o]; omega)
          rw [o] at R
          clear stop go o hp HQ
          subst h1
          go_wp2
          exact ⟨⟨k + 1, eb, t + el, by omega, by go_num, R, trial_set hb3' T3⟩, by simp [intOf]; omega⟩
        · by_cases h2 : eb = y
          · have o : otherF ⟨ea, eb, el, em⟩ y = ea := (if_neg h1).trans (if_pos h2)
            have R := go (by rw [o]; omega)
            rw [o] at R
            have h1' : ¬ y = ea := fun e => h1 e.symm
            clear stop go o hp HQ h1
            subst h2
            go_wp2
            exact ⟨⟨k + 1, ea, t + el, by omega, by go_num, R, trial_set hb3' T3⟩, by simp [intOf]; omega⟩
          · have o : otherF ⟨ea, eb, el, em⟩ y = -1 := (if_neg h1).trans (if_neg h2)
            have R := stop (by rw [o]; omega)
            have h1' : ¬ y = ea := fun e => h1 e.symm
            have h2' : ¬ y = eb := fun e => h2 e.symm
            clear stop go o hp HQ h1 h2
            go_wp2
            refine bodyPost_ret (v := .tuple #[.agg #[.int .i64 0, .int .i64 0, .slice none 0 0], .bool false]) (by simp [results, Try.results44, go_sem, b0, b1, b2, hK2]) rfl ⟨by rw [R.out]; rfl, ?_⟩
            exact btrans (below_set (by omega) (below_set (by omega) (below_set (by omega) fin3))) (balloc _ _)
    · have hkk : k = zs.length := by omega
      subst hkk
      have R := hide (R0.out.trans (show wk es (f, 0) zs = some (y, t) by simpa using hwk))
      clear hz hb
      go_wp2
      refine bodyPost_ret (v := .tuple #[.agg #[.int .i64 y, .int .i64 t, .slice none 0 0], .bool true]) (by simp [results, Try.results44, go_sem, b0, b1, b2]) rfl ⟨by rw [R.out]; rfl, ?_⟩
      exact below_set (by omega) (below_set (by omega) (below_set (by omega) fin))


def lenOW : Option (Int × Int) → Int
  | some s => s.2
  | none => -1

set_option maxHeartbeats 800000 in
theorem cWalkI (a a2 : Option Addr) (p p2 : Nat) (n f : Int) (es : List EdgeV) (zs : List Int) (w : World) (he : Edges w a es) (hz : Ints w a2 zs) (hl : es.length ≤ 1048576) (hl2 : zs.length ≤ 1048576) :
    Calls Try.prog 17 #[.agg #[.int .i64 n, .slice a es.length p], .int .i64 f, .slice a2 zs.length p2] w fun e w' => e = .returned (.tuple #[.int .i64 (atOf (walkB n es f zs)), .bool (walkB n es f zs).isSome]) ∧ Below w.heap.size w w' := by
  have hW := balloc w (.cells #[.int .i64 n, .slice a es.length p] 26)
  have c := cWalked a a2 p p2 n f es zs _ (he.below hW) (hz.below hW) hl hl2
  cases ho : walkB n es f zs with
  | none =>
    rw [ho] at c
    go_enter Try.func17, Try.ntmps17
    go_wp2_with fail
    refine c.mono ?_
    rintro e w1 ⟨rfl, hb1⟩
    have HB1 := btrans hW hb1
    clear hb1 c
    unfold walkTV
    go_wp2
    go_ret2
    exact ⟨rfl, btrans HB1 (balloc _ _)⟩
  | some s =>
    obtain ⟨y, t⟩ := s
    rw [ho] at c
    go_enter Try.func17, Try.ntmps17
    go_wp2_with fail
    refine c.mono ?_
    rintro e w1 ⟨rfl, hb1⟩
    have HB1 := btrans hW hb1
    clear hb1 c
    unfold walkTV
    go_wp2
    go_ret2
    exact ⟨rfl, btrans HB1 (balloc _ _)⟩

set_option maxHeartbeats 800000 in
theorem cWayLenI (a a2 : Option Addr) (p p2 : Nat) (n f : Int) (es : List EdgeV) (zs : List Int) (w : World) (he : Edges w a es) (hz : Ints w a2 zs) (hl : es.length ≤ 1048576) (hl2 : zs.length ≤ 1048576) :
    Calls Try.prog 18 #[.agg #[.int .i64 n, .slice a es.length p], .int .i64 f, .slice a2 zs.length p2] w fun e w' => e = .returned (.int .i64 (lenOW (walkB n es f zs))) ∧ Below w.heap.size w w' := by
  have hW := balloc w (.cells #[.int .i64 n, .slice a es.length p] 26)
  have c := cWalked a a2 p p2 n f es zs _ (he.below hW) (hz.below hW) hl hl2
  cases ho : walkB n es f zs with
  | none =>
    rw [ho] at c
    go_enter Try.func18, Try.ntmps18
    go_wp2_with fail
    refine c.mono ?_
    rintro e w1 ⟨rfl, hb1⟩
    have HB1 := btrans hW hb1
    clear hb1 c
    unfold walkTV
    go_wp2
    go_ret
    exact ⟨rfl, btrans HB1 (balloc _ _)⟩
  | some s =>
    obtain ⟨y, t⟩ := s
    rw [ho] at c
    go_enter Try.func18, Try.ntmps18
    go_wp2_with fail
    refine c.mono ?_
    rintro e w1 ⟨rfl, hb1⟩
    have HB1 := btrans hW hb1
    clear hb1 c
    unfold walkTV
    go_wp2
    go_ret
    exact ⟨rfl, btrans HB1 (balloc _ _)⟩

end Go.Proofs.Ytdjambejppanoaa
