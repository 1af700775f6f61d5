/- Reached of the program. -/
import Derived.Test.YtdjambejppanoaaRD
namespace Go.Proofs.Ytdjambejppanoaa
open Go.RowKit
theorem RchV.small {n f : Int} {es : List EdgeV} {xs : List Int} (h : RchV n es f xs) : xs.length ≤ 1000 := by
  rcases h with ⟨h1, -, h⟩ | ⟨-, rfl⟩
  · obtain ⟨-, hN, -⟩ := net_rg h1
    obtain ⟨N, rfl⟩ : ∃ N : Nat, n = (N : Int) := ⟨n.toNat, by omega⟩
    have := pigeon N xs (h.1.imp (fun h => by omega)) (fun v hv => ((h.2 v).1 hv).1)
    omega
  · simp
set_option maxRecDepth 20000 in
set_option maxHeartbeats 1600000 in
theorem cReachI (a : Option Addr) (p : Nat) (n f : Int) (es : List EdgeV) (w : World) (he : Edges w a es) (hl : es.length ≤ 1048576) :
    Calls Try.prog 15 #[.agg #[.int .i64 n, .slice a es.length p], .int .i64 f] w (IntsAns w (RchV n es f)) := by
  have HB := balloc w (.cells #[.int .i64 n, .slice a es.length p] 26)
  have X := Bx2.new w (.int .i64 n) (.slice a es.length p) 26
  obtain ⟨b0, b1⟩ := id X
  have CN := cNetI a p n es _ (he.below HB) hl
  go_enter Try.func15, Try.ntmps15
  cases q1 : netB n es
  · rw [q1] at CN
    have hV : Hid (RchV n es f []) := hide (.inr ⟨(fun h => by rw [q1] at h; cases h.1), rfl⟩)
    go_wp2_with fail
    refine CN.mono ?_
    rintro e w1 ⟨rfl, hb⟩
    have HB1 := btrans HB hb
    clear hb
    go_wp2
    go_ret
    exact .empty hV.out HB1
  rw [q1] at CN
  go_wp2_with fail
  refine CN.mono ?_
  rintro e w1 ⟨rfl, hb⟩
  have HB1 := btrans HB hb
  replace X := X.below hb
  clear hb CN b0 b1
  obtain ⟨b0, b1⟩ := id X
  go_wp2_with fail
  refine (cHasNode n _ f _).mono ?_
  rintro e w2 ⟨rfl, hb⟩
  have HB2 := btrans HB1 hb
  replace X := X.below hb
  clear hb HB1 b0 b1
  obtain ⟨b0, b1⟩ := id X
  cases q2 : nodeB n f
  · have hV : Hid (RchV n es f []) := hide (.inr ⟨(fun h => by have := h.2; rw [q2] at this; cases this), rfl⟩)
    go_wp2
    go_ret
    exact .empty hV.out HB2
  obtain ⟨R, hN, hE⟩ := net_rg q1
  have hf := inB_true q2
  obtain ⟨N, rfl⟩ : ∃ N : Nat, n = (N : Int) := ⟨n.toNat, by omega⟩
  obtain ⟨t, rfl⟩ : ∃ t : Nat, f = (t : Int) := ⟨f.toNat, by omega⟩
  have hRV := hide (fun xs (h : IsRch (N : Int) es (t : Int) xs) => (show RchV (N : Int) es (t : Int) xs from .inl ⟨q1, q2, h⟩))
  have hs2 := HB2.size
  clear HB q2
  go_wp2_with fail
  refine (cLinesI a p N es _ (he.below HB2) q1).mono ?_
  rintro e w3 ⟨mb, m, rv, D, rfl, hm, L, hb⟩
  have HB3 := btrans HB2 hb
  clear hb b0 b1
  go_wp2_with fail
  refine (cReachedI mb m N _ es rv D t _ L R (by omega) hE (by omega)).mono ?_
  rintro e w4 ⟨ao, cp, xs, rfl, hI, ho, hb⟩
  have HB4 := btrans HB3 hb
  have hV := hide (hRV.out xs hI)
  have hs3 := HB3.size
  clear hb hI hRV
  go_wp2
  go_ret
  exact ⟨ao, cp, xs, rfl, hV.out, own_base ho hs3, HB4⟩
end Go.Proofs.Ytdjambejppanoaa
