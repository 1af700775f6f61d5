/- Shortest of the program. -/
import Derived.Test.YtdjambejppanoaaSHT
namespace Go.Proofs.Ytdjambejppanoaa
open Go.RowKit
/-- What Shortest tells: the list and the number. -/
def StW (n : Int) (es : List EdgeV) (f tz : Int) (xs : List Int) (r : Int) : Prop :=
  (netB n es = true ∧ nodeB n f = true ∧ nodeB n tz = true ∧ ∃ t : TrialV, StV es f tz t ∧ xs = nI t.way ∧ r = t.len) ∨ (¬ (netB n es = true ∧ nodeB n f = true ∧ nodeB n tz = true) ∧ xs = [] ∧ r = -1)
def PairAns (w : World) (V : List Int → Int → Prop) (e : Ending) (w' : World) : Prop :=
  ∃ ao cp xs r, e = .returned (.tuple #[.slice ao (List.length xs) cp, .int .i64 r]) ∧ V xs r ∧ w'.ownsRow w.heap.size 3 1 (.slice ao xs.length cp) xs.length (xs.map (.int .i64)) ∧ Below w.heap.size w w'
theorem PairAns.empty {w w' : World} {V : List Int → Int → Prop} (h : V [] (-1)) (hb : Below w.heap.size w w') : PairAns w V (.returned (.tuple #[.slice none 0 0, .int .i64 (-1)])) w' :=
  ⟨none, 0, [], -1, rfl, h, World.ownsRow_nil _ _ _ _, hb⟩
theorem StV.unique {es : List EdgeV} {f tz : Int} {t u : TrialV} (h : StV es f tz t) (g : StV es f tz u) : t.way = u.way ∧ t.len = u.len := by
  rcases h with h | ⟨h, h1, h2⟩ <;> rcases g with g | ⟨g, g1, g2⟩
  · exact ⟨(h.one g).2, (h.one g).1⟩
  · exact absurd ⟨_, _, h.1⟩ g
  · exact absurd ⟨_, _, g.1⟩ h
  · exact ⟨h1.trans g1.symm, h2.trans g2.symm⟩
theorem StW.unique {n : Int} {es : List EdgeV} {f tz : Int} {xs ys : List Int} {r s : Int} (h : StW n es f tz xs r) (g : StW n es f tz ys s) : xs = ys ∧ r = s := by
  rcases h with ⟨h1, h2, h3, t, ht, rfl, rfl⟩ | ⟨h0, rfl, rfl⟩ <;> rcases g with ⟨g1, g2, g3, u, hu, rfl, rfl⟩ | ⟨g0, rfl, rfl⟩
  · rw [(ht.unique hu).1, (ht.unique hu).2]; exact ⟨rfl, rfl⟩
  · exact absurd ⟨h1, h2, h3⟩ g0
  · exact absurd ⟨g1, g2, g3⟩ h0
  · exact ⟨rfl, rfl⟩
theorem StW.small {n : Int} {es : List EdgeV} {f tz : Int} {xs : List Int} {r : Int} (h : StW n es f tz xs r) : xs.length ≤ 1000 := by
  rcases h with ⟨h1, h2, h3, t, ht, rfl, rfl⟩ | ⟨h0, rfl, rfl⟩
  · rw [nI_len]
    obtain ⟨R, hN, -⟩ := net_rg h1
    obtain ⟨N, rfl⟩ : ∃ N : Nat, n = (N : Int) := ⟨n.toNat, by omega⟩
    have hf := inB_true h2
    rcases ht with h | ⟨-, h, -⟩
    · have := (h.small R (by omega)).1; omega
    · rw [h]; simp
  · simp
set_option maxRecDepth 20000 in
set_option maxHeartbeats 3200000 in
theorem cShortestI (a : Option Addr) (p : Nat) (n f tz : Int) (es : List EdgeV) (w : World) (he : Edges w a es) (hl : es.length ≤ 1048576) :
    Calls Try.prog 13 #[.agg #[.int .i64 n, .slice a es.length p], .int .i64 f, .int .i64 tz] w (PairAns w (StW n es f tz)) := by
  have HB := balloc w (.cells #[.int .i64 n, .slice a es.length p] 26)
  have X := Bx2.new w (.int .i64 n) (.slice a es.length p) 26
  obtain ⟨b0, b1⟩ := id X
  have CN := cNetI a p n es _ (he.below HB) hl
  go_enter Try.func13, Try.ntmps13
  cases q1 : netB n es
  · rw [q1] at CN
    have hV : Hid (StW n es f tz [] (-1)) := hide (.inr ⟨(fun h => by rw [q1] at h; cases h.1), rfl, rfl⟩)
    go_wp2_with fail
    refine CN.mono ?_
    rintro e w1 ⟨rfl, hb⟩
    have HB1 := btrans HB hb
    clear hb
    go_wp2
    go_ret2
    exact .empty hV.out HB1
  rw [q1] at CN
  go_wp2_with fail
  refine CN.mono ?_
  rintro e w1 ⟨rfl, hb⟩
  have HB1 := btrans HB hb
  replace X := X.below hb
  clear hb CN b0 b1
  obtain ⟨b0, b1⟩ := id X
  go_wp2_with fail
  refine (cHasNode n _ f _).mono ?_
  rintro e w2 ⟨rfl, hb⟩
  have HB2 := btrans HB1 hb
  replace X := X.below hb
  clear hb HB1 b0 b1
  obtain ⟨b0, b1⟩ := id X
  cases q2 : nodeB n f
  · have hV : Hid (StW n es f tz [] (-1)) := hide (.inr ⟨(fun h => by have := h.2.1; rw [q2] at this; cases this), rfl, rfl⟩)
    go_wp2
    go_ret2
    exact .empty hV.out HB2
  go_wp2_with fail
  refine (cHasNode n _ tz _).mono ?_
  rintro e w3 ⟨rfl, hb⟩
  have HB3 := btrans HB2 hb
  replace X := X.below hb
  clear hb HB2 b0 b1
  obtain ⟨b0, b1⟩ := id X
  cases q3 : nodeB n tz
  · have hV : Hid (StW n es f tz [] (-1)) := hide (.inr ⟨(fun h => by have := h.2.2; rw [q3] at this; cases this), rfl, rfl⟩)
    go_wp2
    go_ret2
    exact .empty hV.out HB3
  obtain ⟨R, hN, hE⟩ := net_rg q1
  have hf := inB_true q2
  have ht := inB_true q3
  obtain ⟨N, rfl⟩ : ∃ N : Nat, n = (N : Int) := ⟨n.toNat, by omega⟩
  obtain ⟨fn, rfl⟩ : ∃ t : Nat, f = (t : Int) := ⟨f.toNat, by omega⟩
  obtain ⟨tn, rfl⟩ : ∃ t : Nat, tz = (t : Int) := ⟨tz.toNat, by omega⟩
  have hRV := hide (fun t (h : StV es (fn : Int) (tn : Int) t) => (show StW (N : Int) es (fn : Int) (tn : Int) (nI t.way) t.len from .inl ⟨q1, q2, q3, t, h, rfl, rfl⟩))
  have hs3 := HB3.size
  clear HB q2 q3
  go_wp2_with fail
  refine (cLinesI a p N es _ (he.below HB3) q1).mono ?_
  rintro e w4 ⟨mb, m, rv, D, rfl, hm, L, hb⟩
  have HB4 := btrans HB3 hb
  clear hb b0 b1
  go_wp2_with fail
  refine (cShortI mb m N _ es rv D fn tn _ L R (by omega) hE (by omega)).mono ?_
  rintro e w5 ⟨⟨t, qa, qc⟩, rfl, hS, ho, hb⟩
  unfold PT.val
  dsimp only at *
  have HB5 := btrans HB4 hb
  have hV := hide (hRV.out t hS)
  have hs4 := HB4.size
  have hal := balloc w5 (.cells #[.int .i64 t.at_, .int .i64 t.len, .slice qa t.way.length qc] 59)
  obtain ⟨x0, x1, x2⟩ := blk3 (one_block' w5 (.cells #[.int .i64 t.at_, .int .i64 t.len, .slice qa t.way.length qc] 59))
  have ho6 := own_keep ho hal
  have HB6 := btrans HB5 hal
  clear hb hS hRV hal ho
  go_wp2
  go_quiet (fail)
  go_wp2
  go_ret2
  refine ⟨qa, qc, nI t.way, t.len, by rw [nI_len]; rfl, hV.out, ?_, bdraw HB6 _⟩
  rw [nI_len]
  exact own_base (own_keep ho6 (bdraw (Below.refl _ _) _)) (by omega)
end Go.Proofs.Ytdjambejppanoaa
