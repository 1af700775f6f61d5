/- What the cards make of a fare: the program's closures. -/
import Derived.Test.YtepdnaahhkkdeaaCC
import Derived.BigQuiet
import Derived.Maps.AppendAt
import Derived.Deep.RegionHeld3
namespace Go.Proofs.Ytepdnaahhkkdeaa
open Go.RowKit
/-- The least price over a list of cards that all count. -/
def pmin (r fare : Int) : List CardV → Int
  | [] => fare
  | c :: cs => min (priceC r fare c) (pmin r fare cs)
theorem cbest_filter (r fare m : Int) (cs : List CardV) : cbest r fare m cs = pmin r fare (cs.filter (cntB m)) := by
  induction cs with
  | nil => rfl
  | cons c cs ih =>
    simp only [cbest, List.filter_cons, ih]
    split <;> simp_all [pmin]
theorem pmin_app (r fare : Int) (xs : List CardV) (c : CardV) : pmin r fare (xs ++ [c]) = min (pmin r fare xs) (priceC r fare c) := by
  induction xs with
  | nil => simp only [List.nil_append, pmin, priceC]; omega
  | cons x xs ih => simp only [List.cons_append, pmin, ih]; omega
theorem pmin_take {r fare : Int} {cs : List CardV} {k : Nat} (hk : k < cs.length) : pmin r fare (cs.take (k + 1)) = min (pmin r fare (cs.take k)) (priceC r fare cs[k]) := by
  rw [List.take_succ_eq_append_getElem hk, pmin_app]
theorem priceC_in {r fare : Int} {v : CardV} (hv : Cd v) (hr : 1 ≤ r) (h0 : 0 ≤ fare) (h1 : fare ≤ 10000000) : 0 ≤ priceC r fare v ∧ priceC r fare v ≤ fare := by
  have := cut_in (r := r) hv hr h0 h1
  have := hv.l0
  unfold priceC
  omega
theorem pmin_in {r fare : Int} (hr : 1 ≤ r) (h0 : 0 ≤ fare) (h1 : fare ≤ 10000000) : ∀ {cs : List CardV}, (∀ c ∈ cs, Cd c) → 0 ≤ pmin r fare cs ∧ pmin r fare cs ≤ fare := by
  intro cs
  induction cs with
  | nil => intro _; exact ⟨h0, Int.le_refl _⟩
  | cons c cs ih =>
    intro h
    have i1 := ih fun x hx => h x (List.mem_cons_of_mem _ hx)
    have := priceC_in (r := r) (h c List.mem_cons_self) hr h0 h1
    simp only [pmin]
    omega
/-- A card in a block of its own. -/
def CdAt (w : World) (q : CardV × Nat) : Prop := Bx4 w q.2 (.int .i64 q.1.p) (.int .i64 q.1.l) (.int .i64 q.1.f) (.int .i64 q.1.t)
/-- What a card makes of a fare, as a function value. -/
def clo (tb : Nat) (q : CardV × Nat) : Value := .func (.func 64) #[] #[.pointer (some ⟨tb, 0, none⟩), .pointer (some ⟨q.2, 0, none⟩)]
/-- A row of such functions. -/
structure Prs (w : World) (B tb : Nat) (v : Value) (L : List (CardV × Nat)) : Prop where
  row : w.ownsRow B 59 1 v L.length (L.map (clo tb))
  cd : ∀ q ∈ L, CdAt w q
  far : ∀ q ∈ L, v.ownBlock ≠ some q.2
theorem Prs.below {w w1 : World} {B tb : Nat} {v : Value} {L : List (CardV × Nat)} (h : Prs w B tb v L) (hb : Below w.heap.size w w1) : Prs w1 B tb v L :=
  ⟨own_keep h.row hb, fun q hq => Bx4.below (h.cd q hq) hb, h.far⟩
theorem own_cells {w : World} {B e n c : Nat} {a : Option Addr} {xs : List Value} (h : w.ownsRow B e 1 (.slice a n c) n xs) (i : Nat) (hi : i < n) : ∃ g, a = some ⟨g, 0, none⟩ ∧ w.cell? ⟨g, i, none⟩ = xs[i]? := by
  rcases h.2 with ⟨_, h0⟩ | ⟨g, cap', cur, he, _⟩
  · omega
  · simp only [Value.slice.injEq] at he
    obtain ⟨rfl, _, rfl⟩ := he
    exact ⟨g, rfl, h.cellAt i (by omega)⟩

set_option maxHeartbeats 1600000 in
theorem cPrice (tb cb : Nat) (b s r fare : Int) (js : List Int) (a : Option Addr) (c : Nat) (v : CardV) (w : World) (hT : Bx4 w tb (.int .i64 b) (.int .i64 s) (.slice a js.length c) (.int .i64 r)) (hC : CdAt w (v, cb)) (hv : Cd v) (hr0 : 1 ≤ r) (hr1 : r ≤ 100) (h0 : 0 ≤ fare) (h1 : fare ≤ 10000000) :
    Calls Try.prog 64 #[.int .i64 fare, .pointer (some ⟨tb, 0, none⟩), .pointer (some ⟨cb, 0, none⟩)] w fun e w' => e = .returned (.int .i64 (priceC r fare v)) ∧ Below w.heap.size w w' := by
  obtain ⟨p, l, f, t⟩ := v
  obtain ⟨x0, x1, x2, x3⟩ := id hT
  obtain ⟨y0, y1, y2, y3⟩ := id hC
  dsimp only at y0 y1 y2 y3
  have ci := cut_in (r := r) hv hr0 h0 h1
  have p0 : 0 ≤ p := hv.p0
  have p1 : p ≤ 100 := hv.p1
  have l0 : 0 ≤ l := hv.l0
  have l1 : l ≤ 100000 := hv.l1
  unfold cut at ci
  dsimp only at ci
  have te : (fare * (100 - p)).tdiv 100 = fare * (100 - p) / 100 := Int.tdiv_eq_ediv_of_nonneg ci.1
  rw [te] at ci
  have PC := hide (show min fare (max (dn r (fare * (100 - p) / 100)) l) = priceC r fare ⟨p, l, f, t⟩ by unfold priceC cut; rw [← te])
  have CD := cDown b s r (fare * (100 - p) / 100) js a c w hr0 hr1 (by omega) (by omega)
  obtain ⟨ci0, ci1, ci2, ci3, ci4, ci5⟩ := ci
  have v1 : IntKind.i64.wrap (100 - p) = 100 - p := wrap_in _ (by omega) (by omega)
  have v2 : IntKind.i64.wrap (fare * (100 - p)) = fare * (100 - p) := wrap_in _ (by omega) (by omega)
  have v3 : IntKind.i64.wrap (fare * (100 - p) / 100) = fare * (100 - p) / 100 := wrap_in _ (by omega) (by omega)
  generalize dn r (fare * (100 - p) / 100) = P at *
  generalize priceC r fare ⟨p, l, f, t⟩ = Z at *
  have fin := fun w2 (h : Below w.heap.size w w2) => hC.below h
  rcases Int.lt_trichotomy P l with hP | hP | hP
  · rw [show max P l = l by omega] at PC
    rcases Int.lt_trichotomy fare l with hF | hF | hF
    · rw [show min fare l = fare by omega] at PC
      go_enter Try.func64, Try.ntmps64
      go_wp2_with (go_at_call 48; refine CD.mono ?_; rintro e w1 ⟨rfl, hb⟩; obtain ⟨z0, z1, z2, z3⟩ := fin _ hb; dsimp only at z0 z1 z2 z3)
      go_ret
      exact ⟨ret_int PC.out, hb⟩
    · rw [show min fare l = l by omega] at PC
      subst hF
      go_enter Try.func64, Try.ntmps64
      go_wp2_with (go_at_call 48; refine CD.mono ?_; rintro e w1 ⟨rfl, hb⟩; obtain ⟨z0, z1, z2, z3⟩ := fin _ hb; dsimp only at z0 z1 z2 z3)
      go_ret
      exact ⟨ret_int PC.out, hb⟩
    · rw [show min fare l = l by omega] at PC
      go_enter Try.func64, Try.ntmps64
      go_wp2_with (go_at_call 48; refine CD.mono ?_; rintro e w1 ⟨rfl, hb⟩; obtain ⟨z0, z1, z2, z3⟩ := fin _ hb; dsimp only at z0 z1 z2 z3)
      go_ret
      exact ⟨ret_int PC.out, hb⟩
  · subst hP
    rw [show max P P = P by omega, show min fare P = P by omega] at PC
    rcases Int.lt_or_eq_of_le ci5 with hF | hF
    · go_enter Try.func64, Try.ntmps64
      go_wp2_with (go_at_call 48; refine CD.mono ?_; rintro e w1 ⟨rfl, hb⟩; obtain ⟨z0, z1, z2, z3⟩ := fin _ hb; dsimp only at z0 z1 z2 z3)
      go_ret
      exact ⟨ret_int PC.out, hb⟩
    · subst hF
      go_enter Try.func64, Try.ntmps64
      go_wp2_with (go_at_call 48; refine CD.mono ?_; rintro e w1 ⟨rfl, hb⟩; obtain ⟨z0, z1, z2, z3⟩ := fin _ hb; dsimp only at z0 z1 z2 z3)
      go_ret
      exact ⟨ret_int PC.out, hb⟩
  · rw [show max P l = P by omega, show min fare P = P by omega] at PC
    rcases Int.lt_or_eq_of_le ci5 with hF | hF
    · go_enter Try.func64, Try.ntmps64
      go_wp2_with (go_at_call 48; refine CD.mono ?_; rintro e w1 ⟨rfl, hb⟩; obtain ⟨z0, z1, z2, z3⟩ := fin _ hb; dsimp only at z0 z1 z2 z3)
      go_ret
      exact ⟨ret_int PC.out, hb⟩
    · subst hF
      go_enter Try.func64, Try.ntmps64
      go_wp2_with (go_at_call 48; refine CD.mono ?_; rintro e w1 ⟨rfl, hb⟩; obtain ⟨z0, z1, z2, z3⟩ := fin _ hb; dsimp only at z0 z1 z2 z3)
      go_ret
      exact ⟨ret_int PC.out, hb⟩
end Go.Proofs.Ytepdnaahhkkdeaa
