/- Parts of a net: mathematics, and the model's. -/
import Derived.Test.YtdjambejppanoaaRI
import Derived.Maps.AppendAt
namespace Go.Proofs.Ytdjambejppanoaa
open Go.RowKit
/-- v is the least node that is reached from j. -/
def Prt (N : Int) (es : List EdgeV) (j v : Int) : Prop := ∃ rs, IsRch N es j rs ∧ v = rs.getD 0 0
theorem Prt.unique {N j u v : Int} {es : List EdgeV} (h : Prt N es j u) (g : Prt N es j v) : u = v := by
  obtain ⟨rs, h1, rfl⟩ := h
  obtain ⟨ss, g1, rfl⟩ := g
  rw [h1.unique g1]
theorem IsRch.self {N f : Int} {es : List EdgeV} {rs : List Int} (h : IsRch N es f rs) (hf : 0 ≤ f ∧ f < N) : f ∈ rs := (h.2 f).2 ⟨hf, [], 0, .nil _⟩
theorem IsRch.pos {N f : Int} {es : List EdgeV} {rs : List Int} (h : IsRch N es f rs) (hf : 0 ≤ f ∧ f < N) : 0 < rs.length := List.length_pos_of_mem (h.self hf)
/-- What Parts tells. -/
def PrtV (n : Int) (es : List EdgeV) (xs : List Int) : Prop := (netB n es = true ∧ (xs.length : Int) = n ∧ ∀ j : Nat, (j : Int) < n → Prt n es (j : Int) (xs.getD j 0)) ∨ (netB n es = false ∧ xs = [])
theorem PrtV.unique {n : Int} {es : List EdgeV} {xs ys : List Int} (h : PrtV n es xs) (g : PrtV n es ys) : xs = ys := by
  rcases h with ⟨h0, h1, h2⟩ | ⟨h0, h1⟩ <;> rcases g with ⟨g0, g1, g2⟩ | ⟨g0, g1⟩
  · apply List.ext_getElem (by omega)
    intro j a b
    have := (h2 j (by omega)).unique (g2 j (by omega))
    simpa [List.getD, a, b] using this
  · rw [h0] at g0; cases g0
  · rw [h0] at g0; cases g0
  · rw [h1, g1]
theorem PrtV.small {n : Int} {es : List EdgeV} {xs : List Int} (h : PrtV n es xs) : xs.length ≤ 1000 := by
  rcases h with ⟨h0, h1, -⟩ | ⟨-, rfl⟩
  · have := (net_rg h0).2.1; omega
  · simp
theorem get_snoc {xs : List Int} {x : Int} {j : Nat} (h : j < xs.length) : (xs ++ [x]).getD j 0 = xs.getD j 0 := by simp [List.getD, List.getElem?_append_left h]
theorem get_last {xs : List Int} {x : Int} : (xs ++ [x]).getD xs.length 0 = x := by simp [List.getD]
/-- A row of numbers, one longer. -/
theorem int_first {w : World} {B n c : Nat} {a : Option Addr} {xs : List Int} (h : w.ownsRow B 3 1 (.slice a n c) n (xs.map (.int .i64))) (hn : 0 < n) (hl : xs.length = n) : ∃ g, a = some ⟨g, 0, none⟩ ∧ B ≤ g ∧ w.cell? ⟨g, 0, none⟩ = some (.int .i64 (xs.getD 0 0)) := by
  rcases h.2 with ⟨e, h0⟩ | ⟨g, cap, cur, e, hB, _⟩
  · omega
  · simp only [Value.slice.injEq] at e
    obtain ⟨rfl, -, rfl⟩ := e
    refine ⟨g, rfl, hB, ?_⟩
    exact (int_at h (by omega)).1
set_option maxRecDepth 20000 in
set_option maxHeartbeats 3200000 in
theorem cPartsS (a : Option Addr) (p : Nat) (n : Int) (es : List EdgeV) (w : World) (he : Edges w a es) (hl : es.length ≤ 1048576) :
    Calls Try.prog 32 #[.agg #[.int .i64 n, .slice a es.length p]] w (IntsAns w (PrtV n es)) := by
  obtain ⟨i1, hi1, hy0, hy1, hy2⟩ := info_parts infoInts
  have hA1 := btrans (balloc w (.cells #[.int .i64 n, .slice a es.length p] 26)) (balloc _ (.cells #[] 3))
  have X := (Bx2.new w (.int .i64 n) (.slice a es.length p) 26).below (balloc _ (.cells #[] 3))
  have o1 := World.ownsRow_made (e := 3) (size := 1) (w.alloc (.cells #[.int .i64 n, .slice a es.length p] 26)) #[] 0 (Nat.le_refl _) (by omega) rfl
  rw [sz1] at o1
  obtain ⟨b0, b1⟩ := id X
  have CN := cNetS a p n es _ (he.below hA1) hl
  go_enter Try.func32, Try.ntmps32
  cases q1 : netB n es
  · rw [q1] at CN
    have hV : Hid (PrtV n es []) := hide (.inr ⟨q1, rfl⟩)
    go_wp2_with fail
    refine CN.mono ?_
    rintro e w1 ⟨rfl, hb⟩
    have HB1 := btrans hA1 hb
    clear hb
    go_wp2
    go_ret
    exact .empty hV.out HB1
  rw [q1] at CN
  obtain ⟨R, hN, hE⟩ := net_rg q1
  obtain ⟨N, rfl⟩ : ∃ N : Nat, n = (N : Int) := ⟨n.toNat, by omega⟩
  go_wp2_with fail
  refine CN.mono ?_
  rintro e w1 ⟨rfl, hb⟩
  have HB1 := btrans hA1 hb
  replace X := X.below hb
  replace o1 := own_keep o1 hb
  clear hb CN b0 b1 hA1
  have hq := hide q1
  clear q1
  go_wp2
  go_loopw [3, 4] (fun ov iv wr => ∃ (i : Nat) (xs : List Int) (ao : Option Addr) (cp : Nat), i ≤ N ∧ iv = .int .i64 i ∧ ov = .slice ao xs.length cp ∧ Hid (xs.length = i ∧ ∀ j : Nat, j < i → Prt (N : Int) es (j : Int) (xs.getD j 0)) ∧ wr.ownsRow (w.heap.size + 1) 3 1 (.slice ao xs.length cp) xs.length (xs.map (.int .i64)) ∧ Bx2 wr w.heap.size (.int .i64 (N : Int)) (.slice a es.length p) ∧ Below w.heap.size w wr) (fun _ iv _ => N - (intOf iv).toNat)
  case atStart => exact ⟨0, [], _, _, Nat.zero_le _, rfl, rfl, hide ⟨rfl, fun j hj => by omega⟩, o1, X, HB1⟩
  case round =>
    clear o1 X HB1
    obtain ⟨i, xs, ao, cp, hiN, rfl, rfl, hxs, ho, X, HB⟩ := hrel
    obtain ⟨b0, b1⟩ := id X
    have hxl : xs.length ≤ 30 := by have := hxs.out.1; omega
    by_cases hlt : i < N
    · have hlt' : (i : Int) < (N : Int) := by omega
      go_wp2_with fail
      refine (cReachS a p (N : Int) (i : Int) es _ (he.below HB) hl).mono ?_
      rintro e w3 ⟨a3, c3, rs, rfl, hV3, O3, hb⟩
      have hR : IsRch (N : Int) es (i : Int) rs := by
        rcases hV3 with ⟨-, -, h⟩ | ⟨h, -⟩
        · exact h
        · exact absurd ⟨hq.out, inB_yes (by omega) (by omega)⟩ h
      have hpos := hR.pos (by omega)
      obtain ⟨g3, rfl, -, f3⟩ := int_first O3 hpos rfl
      have hrl : rs.length ≤ 1000 := RchV.small (.inl ⟨hq.out, inB_yes (by omega) (by omega), hR⟩)
      have hP : Hid (Prt (N : Int) es (i : Int) (rs.getD 0 0)) := hide ⟨rs, hR, rfl⟩
      have HB3 := btrans HB hb
      have X3 := X.below hb
      have ho3 := own_keep ho hb
      have hob := own_from ho3 (Nat.le_refl _)
      clear hb hR hV3 O3 X ho HB b0 b1
      generalize rs.getD 0 0 = z at *
      have hz1 : (0 : Int) < (rs.length : Int) := by omega
      have hA := balloc w3 (.cells #[.int .i64 z] 3)
      have XA := X3.below hA
      have HA := btrans HB3 hA
      have hoA := own_keep ho3 hA
      have hws := cell_lt X3.1
      clear X3 HB3 ho3 hA
      go_wp2_with (at_builtin; refine wpList_append_own _ rfl _ _ 29 rfl (w.heap.size + 1) 3 i1 (.int .i64 0) 1 8 Try.underlying29 hi1 hy0 hy1 hy2 rfl (by decide) _ _ _ rfl hoA ⟨w3.heap.size, 0, none⟩ 1 1 [.int .i64 z] rfl rfl ?c1 ?c2 ?c3 ?c4 ?c5 ?_)
      case c1 => exact cell_one_new _ _ _
      case c2 => intro x hx; simp at hx; subst hx; rfl
      case c3 => unfold maxLen; omega
      case c4 => omega
      case c5 => simp; omega
      intro v5 w5 hown hgrow _
      obtain ⟨a5, c5, rfl⟩ := own_form hown
      have X5 := XA.far hgrow (fun e => by have := hob _ e.symm; omega)
      have HB5 := HA.grown hgrow HA.size (fun j e => by have := hob j e; omega)
      have ho5 : w5.ownsRow (w.heap.size + 1) 3 1 (.slice a5 (xs ++ [z]).length c5) (xs ++ [z]).length ((xs ++ [z]).map (.int .i64)) := by
        rw [List.length_append, List.map_append]; exact hown
      have hxs5 := hide (show (xs ++ [z]).length = i + 1 ∧ ∀ j : Nat, j < i + 1 → Prt (N : Int) es (j : Int) ((xs ++ [z]).getD j 0) from ⟨by have := hxs.out.1; simp; omega, fun j hj => by
        have h1 := hxs.out.1
        by_cases hji : j < i
        · rw [get_snoc (by omega)]; exact hxs.out.2 j hji
        · obtain rfl : j = i := by omega
          rw [← h1, get_last, h1]; exact hP.out⟩)
      clear hown hgrow hoA XA HA hxs hP
      go_wp2
      go_roundw
      case rel => exact ⟨i + 1, xs ++ [z], a5, c5, by omega, by go_num, by simp, hxs5, ho5, X5, HB5⟩
      case measure => simp [intOf]; omega
    · obtain rfl : i = N := by omega
      have hV := hide (show PrtV (i : Int) es xs from .inl ⟨hq.out, by have := hxs.out.1; omega, fun j hj => hxs.out.2 j (by omega)⟩)
      go_wp2
      go_ret
      exact ⟨ao, cp, xs, rfl, hV.out, own_base ho (by omega), HB⟩
end Go.Proofs.Ytdjambejppanoaa
