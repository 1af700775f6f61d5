/- Walks along edges: one function that both texts compute; the model's Walk. -/
import Derived.Test.YtengfldiiceieaaF
namespace Go.Proofs.Ytengfldiiceieaa
open Go.RowKit

/-- The other end of an edge from x; -1 where it is not at x. -/
def otherF (e : EdgeV) (x : Int) : Int := if e.a = x then e.b else if e.b = x then e.a else -1
/-- A step along the edge at place p: the node it leads to, and its length. -/
def stepF (es : List EdgeV) (x p : Int) : Option (Int × Int) :=
  if inB p 0 ((es.length : Int) - 1) = true then
    (if otherF (es.getD p.toNat EdgeV.zero) x < 0 then none else some (otherF (es.getD p.toNat EdgeV.zero) x, (es.getD p.toNat EdgeV.zero).l)) else none
/-- A walk: the node at the end and the sum of the lengths. -/
def wk (es : List EdgeV) (s : Int × Int) : List Int → Option (Int × Int)
  | [] => some s
  | p :: ps => match stepF es s.1 p with
    | none => none
    | some (b, l) => wk es (b, s.2 + l) ps

theorem wk_app (es : List EdgeV) (xs ys : List Int) : ∀ s, wk es s (xs ++ ys) = (wk es s xs).bind (fun s' => wk es s' ys) := by
  induction xs with
  | nil => intro s; rfl
  | cons p ps ih =>
    intro s
    simp only [List.cons_append, wk]
    cases stepF es s.1 p with
    | none => rfl
    | some q => exact ih _
theorem wk_step {es : List EdgeV} {f : Int} {zs : List Int} {k : Nat} {x t b l : Int} (hk : k < zs.length) (h : wk es (f, 0) (zs.take k) = some (x, t)) (g : stepF es x zs[k] = some (b, l)) : wk es (f, 0) (zs.take (k + 1)) = some (b, t + l) := by
  rw [List.take_succ_eq_append_getElem hk, wk_app, h]
  simp only [Option.bind_some, wk, g]
theorem wk_stop {es : List EdgeV} {f : Int} {zs : List Int} {k : Nat} {x t : Int} (hk : k < zs.length) (h : wk es (f, 0) (zs.take k) = some (x, t)) (g : stepF es x zs[k] = none) : wk es (f, 0) zs = none := by
  have e : zs = zs.take k ++ zs[k] :: zs.drop (k + 1) := by simp
  rw [e, wk_app, h]
  simp only [Option.bind_some, wk, g]

/-- What a walk from f along zs comes to in a net: none where it is no walk. -/
def walkB (n : Int) (es : List EdgeV) (f : Int) (zs : List Int) : Option (Int × Int) :=
  if netB n es = true ∧ nodeB n f = true ∧ zs.length ≤ 60 then wk es (f, 0) zs else none
def atOf : Option (Int × Int) → Int
  | some s => s.1
  | none => 0
theorem walkB_net {n : Int} {es : List EdgeV} {f : Int} {zs : List Int} (h : netB n es = false) : walkB n es f zs = none := if_neg (by rw [h]; rintro ⟨h, _⟩; cases h)
theorem walkB_node {n : Int} {es : List EdgeV} {f : Int} {zs : List Int} (h : nodeB n f = false) : walkB n es f zs = none := if_neg (by rw [h]; rintro ⟨_, h, _⟩; cases h)
theorem walkB_long {n : Int} {es : List EdgeV} {f : Int} {zs : List Int} (h : 60 < zs.length) : walkB n es f zs = none := if_neg (by rintro ⟨_, _, h'⟩; omega)
theorem walkB_in {n : Int} {es : List EdgeV} {f : Int} {zs : List Int} (h1 : netB n es = true) (h2 : nodeB n f = true) (h3 : zs.length ≤ 60) : walkB n es f zs = wk es (f, 0) zs := if_pos ⟨h1, h2, h3⟩

theorem net_edge {n : Int} {es : List EdgeV} (h : netB n es = true) {k : Nat} (hk : k < es.length) : edgeB n (es.getD k EdgeV.zero) = true := by
  simp only [netB, Bool.and_eq_true] at h
  exact goodTo_at h.2.2 hk
theorem net_n {n : Int} {es : List EdgeV} (h : netB n es = true) : 1 ≤ n ∧ n ≤ 30 ∧ es.length ≤ 60 := by
  simp only [netB, Bool.and_eq_true, decide_eq_true_eq] at h
  have := inB_true h.1
  exact ⟨this.1, this.2, h.2.1⟩
theorem edge_parts {n : Int} {e : EdgeV} (h : edgeB n e = true) : 0 ≤ e.a ∧ e.a ≤ n - 1 ∧ 0 ≤ e.b ∧ e.b ≤ n - 1 ∧ e.a ≠ e.b ∧ 1 ≤ e.l ∧ e.l ≤ 100000 := by
  simp only [edgeB, nodeB, Bool.and_eq_true, Bool.not_eq_true', decide_eq_false_iff_not] at h
  obtain ⟨h1, h2, h3, h4, _⟩ := h
  have := inB_true h1
  have := inB_true h2
  have := inB_true h4
  exact ⟨by omega, by omega, by omega, by omega, h3, by omega, by omega⟩

set_option maxHeartbeats 800000 in
theorem c52 (e : EdgeV) (x : Int) (w : World) : Calls Try.prog 52 #[e.val, .int .i64 x] w fun r w' => r = .returned (.int .i64 (otherF e x)) ∧ Below w.heap.size w w' := by
  obtain ⟨a, b, l, m⟩ := e
  unfold EdgeV.val
  have hW := balloc w (.cells #[.int .i64 a, .int .i64 b, .int .i64 l, .int .i64 m] 41)
  by_cases h1 : a = x
  · have R := hide (show otherF ⟨a, b, l, m⟩ x = b from if_pos h1)
    subst h1
    go_enter Try.func52, Try.ntmps52
    go_wp2
    go_ret
    exact ⟨ret_int R.out.symm, hW⟩
  · by_cases h2 : b = x
    · have R := hide (show otherF ⟨a, b, l, m⟩ x = a from (if_neg h1).trans (if_pos h2))
      subst h2
      go_enter Try.func52, Try.ntmps52
      go_wp2
      go_ret
      exact ⟨ret_int R.out.symm, hW⟩
    · have R := hide (show otherF ⟨a, b, l, m⟩ x = -1 from (if_neg h1).trans (if_neg h2))
      go_enter Try.func52, Try.ntmps52
      go_wp2
      go_ret
      exact ⟨ret_int R.out.symm, hW⟩

theorem bdraw {B : Nat} {a w : World} (h : Below B a w) (n : Nat) : Below B a (w.drewN n) := h.trans (Go.Joins.below_draws B w n)
theorem tup {a b a' b' : Value} (h1 : a = a') (h2 : b = b') : Ending.returned (.tuple #[a, b]) = .returned (.tuple #[a', b']) := by rw [h1, h2]
theorem tup_none {o : Option (Int × Int)} (h : o = none) : Ending.returned (.tuple #[.int .i64 0, .bool false]) = .returned (.tuple #[.int .i64 (atOf o), .bool o.isSome]) := by rw [h]; rfl
theorem tup_some {o : Option (Int × Int)} {x t : Int} (h : o = some (x, t)) : Ending.returned (.tuple #[.int .i64 x, .bool true]) = .returned (.tuple #[.int .i64 (atOf o), .bool o.isSome]) := by rw [h]; rfl

theorem step_out {es : List EdgeV} {x p : Int} (h : inB p 0 ((es.length : Int) - 1) = false) : stepF es x p = none := if_neg (by rw [h]; simp)
theorem step_none {es : List EdgeV} {x p : Int} {q : Nat} (hp : p = q) (hq : q < es.length) (h : otherF es[q] x < 0) : stepF es x p = none := by
  subst hp
  have e : es.getD ((q : Int)).toNat EdgeV.zero = es[q] := by simp [List.getD, hq]
  unfold stepF
  rw [e, if_pos h]
  split <;> rfl
theorem step_some {es : List EdgeV} {x p : Int} {q : Nat} (hp : p = q) (hq : q < es.length) (h : ¬ otherF es[q] x < 0) : stepF es x p = some (otherF es[q] x, es[q].l) := by
  subst hp
  have e : es.getD ((q : Int)).toNat EdgeV.zero = es[q] := by simp [List.getD, hq]
  unfold stepF
  rw [e, if_neg h, if_pos (by simp [inB]; omega)]

set_option maxHeartbeats 1600000 in
theorem c33 (a a2 : Option Addr) (p p2 : Nat) (n f : Int) (es : List EdgeV) (zs : List Int) (w : World) (he : Edges w a es) (hz : Ints w a2 zs) (hl : es.length ≤ 1048576) (hl2 : zs.length ≤ 1048576) :
    Calls Try.prog 33 #[.agg #[.int .i64 n, .slice a es.length p], .int .i64 f, .slice a2 zs.length p2] w fun e w' => e = .returned (.tuple #[.int .i64 (atOf (walkB n es f zs)), .bool (walkB n es f zs).isSome]) ∧ Below w.heap.size w w' := by
  have hW := balloc w (.cells #[.int .i64 n, .slice a es.length p] 26)
  have X0 := Bx2.new w (.int .i64 n) (.slice a es.length p) 26
  have E0 := he.below hW
  cases hn : netB n es
  · have R := hide (tup_none (walkB_net (f := f) (zs := zs) hn))
    go_enter Try.func33, Try.ntmps33
    go_wp2_with fail
    refine (c29 a p n es _ E0 hl).mono ?_
    rintro e w1 ⟨rfl, hb1⟩
    have HB1 := btrans hW hb1
    rw [hn]
    go_wp2
    go_ret2
    exact ⟨R.out, HB1⟩
  obtain ⟨hn1, hn2, hn3⟩ := net_n hn
  cases hf : inB f 0 (n - 1)
  · have R := hide (tup_none (walkB_node (es := es) (zs := zs) (n := n) (f := f) hf))
    go_enter Try.func33, Try.ntmps33
    go_wp2_with fail
    refine (c29 a p n es _ E0 hl).mono ?_
    rintro e w1 ⟨rfl, hb1⟩
    have HB1 := btrans hW hb1
    obtain ⟨x0, x1⟩ := X0.below hb1
    rw [hn]
    go_wp2_with (go_at_call 50; refine (c50 _ _ _ _).mono ?_; rintro e w1 ⟨rfl, rfl⟩)
    go_ret2
    exact ⟨R.out, HB1⟩
  by_cases h60 : 60 < zs.length
  · have R := hide (tup_none (walkB_long (n := n) (es := es) (f := f) h60))
    go_enter Try.func33, Try.ntmps33
    go_wp2_with fail
    refine (c29 a p n es _ E0 hl).mono ?_
    rintro e w1 ⟨rfl, hb1⟩
    have HB1 := btrans hW hb1
    obtain ⟨x0, x1⟩ := X0.below hb1
    rw [hn]
    go_wp2_with (go_at_call 50; refine (c50 _ _ _ _).mono ?_; rintro e w1 ⟨rfl, rfl⟩)
    go_ret2
    exact ⟨R.out, HB1⟩
  have R0 := hide (walkB_in (n := n) (es := es) (f := f) (zs := zs) hn hf (by omega))
  go_enter Try.func33, Try.ntmps33
  go_wp2_with fail
  refine (c29 a p n es _ E0 hl).mono ?_
  rintro e w1 ⟨rfl, hb1⟩
  have HB1 := btrans hW hb1
  have X1 := X0.below hb1
  obtain ⟨x0, x1⟩ := id X1
  rw [hn]
  clear hb1 X0 E0 hW
  go_wp2_with (go_at_call 50; refine (c50 _ _ _ _).mono ?_; rintro e w1 ⟨rfl, rfl⟩)
  clear x0 x1
  go_loopw [8, 9] (fun x i wr => ∃ (k : Nat) (y t : Int), k ≤ zs.length ∧ x = .int .i64 y ∧ i = .int .i64 k ∧ wk es (f, 0) (zs.take k) = some (y, t) ∧ Below w1.heap.size w1 wr) (fun _ i _ => zs.length - (intOf i).toNat)
  case atStart => exact ⟨0, f, 0, Nat.zero_le _, rfl, rfl, rfl, Below.refl _ _⟩
  case round =>
    obtain ⟨k, y, t, hk, rfl, rfl, hwk, hb⟩ := hrel
    have fin := btrans HB1 hb
    have X := X1.below hb
    obtain ⟨x0, x1⟩ := id X
    by_cases hlt : k < zs.length
    · rcases hz with hz | ⟨b, off, rfl, hc⟩
      · simp [hz] at hlt
      have hck : wr.cell? ⟨b, off + k, none⟩ = some (.int .i64 zs[k]) := (ble fin (hc k hlt)).trans (by simp [List.getD, hlt])
      clear hc
      cases hp : inB zs[k] 0 ((es.length : Int) - 1)
      · have R := hide (tup_none (R0.out.trans (wk_stop hlt hwk (step_out hp))))
        have fin' := fun n => fin.trans (Go.Joins.below_draws w.heap.size wr n)
        clear hb fin
        go_wp2
        go_quiet (first | (go_at_call 50; exact Calls.quiet_of_same (c50 _ _ _ _)))
        go_wp2
        go_ret2
        exact ⟨R.out, fin' _⟩
      · obtain ⟨q, hq⟩ : ∃ q : Nat, zs[k] = q := ⟨zs[k].toNat, by have := (inB_true hp).1; omega⟩
        have hql : q < es.length := by have := (inB_true hp).2; omega
        rcases he with he | ⟨b', off', rfl, hc'⟩
        · simp [he] at hql
        obtain ⟨q0, q1, q2, q3⟩ := hc' q hql
        have p0 := ble fin q0
        have p1 := ble fin q1
        have p2 := ble fin q2
        have p3 := ble fin q3
        clear hc' q0 q1 q2 q3
        have HQ := hide hq
        have hp' : inB q 0 ((es.length : Int) - 1) = true := by rw [← hq]; exact hp
        rw [hq] at hck
        clear hp hq
        by_cases ho : otherF es[q] y < 0
        · have R := hide (tup_none (R0.out.trans (wk_stop hlt hwk (step_none HQ.out hql ho))))
          go_wp2
          go_quiet (first | (go_at_call 50; exact Calls.quiet_of_same (c50 _ _ _ _)))
          go_wp2_with fail
          go_region_with (first | (go_at_call 52; refine (c52 es[q] _ _).mono ?_; rintro e w6 ⟨rfl, hb6⟩))
          all_goals go_wp2
          all_goals go_ret2
          all_goals exact ⟨R.out, btrans (bdraw fin _) (undrew hb6)⟩
        · have R := wk_step hlt hwk (step_some HQ.out hql ho)
          go_wp2
          go_quiet (first | (go_at_call 50; exact Calls.quiet_of_same (c50 _ _ _ _)))
          go_wp2_with fail
          go_region_with (first | (go_at_call 52; refine (c52 es[q] _ _).mono ?_; rintro e w6 ⟨rfl, hb6⟩))
          all_goals go_wp2
          all_goals go_roundw
          all_goals first | exact ⟨k + 1, _, _, by omega, rfl, by go_num, R, btrans (bdraw hb _) (undrew hb6)⟩ | (simp [intOf]; omega)
    · have hkk : k = zs.length := by omega
      subst hkk
      have R := hide (tup_some (R0.out.trans (by simpa using hwk)))
      clear hz hb
      go_wp2
      go_ret2
      exact ⟨R.out, fin⟩
end Go.Proofs.Ytengfldiiceieaa
