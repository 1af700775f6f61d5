/- What is reached: mathematics, and the model's list. -/
import Derived.Test.YtdjambejppanoaaHB
namespace Go.Proofs.Ytdjambejppanoaa
open Go.RowKit
theorem sorted_one : ∀ (xs ys : List Int), xs.Pairwise (· < ·) → ys.Pairwise (· < ·) → (∀ v, v ∈ xs ↔ v ∈ ys) → xs = ys
  | [], [], _, _, _ => rfl
  | [], y :: ys, _, _, h => by have := (h y).2 List.mem_cons_self; simp at this
  | x :: xs, [], _, _, h => by have := (h x).1 List.mem_cons_self; simp at this
  | x :: xs, y :: ys, hx, hy, h => by
    rw [List.pairwise_cons] at hx hy
    have e : x = y := by
      have h1 := (h x).1 List.mem_cons_self
      have h2 := (h y).2 List.mem_cons_self
      rcases List.mem_cons.1 h1 with e | h1
      · exact e
      · rcases List.mem_cons.1 h2 with e | h2
        · exact e.symm
        · have a := hy.1 x h1
          have b := hx.1 y h2
          omega
    subst e
    rw [sorted_one xs ys hx.2 hy.2 (fun v => ⟨fun hv => by
      rcases List.mem_cons.1 ((h v).1 (List.mem_cons_of_mem _ hv)) with e | g
      · have := hx.1 v hv; omega
      · exact g, fun hv => by
      rcases List.mem_cons.1 ((h v).2 (List.mem_cons_of_mem _ hv)) with e | g
      · have := hy.1 v hv; omega
      · exact g⟩)]
/-- xs are the nodes that are reached from f, in order. -/
def IsRch (N : Int) (es : List EdgeV) (f : Int) (xs : List Int) : Prop := xs.Pairwise (· < ·) ∧ ∀ v, v ∈ xs ↔ (0 ≤ v ∧ v < N) ∧ ∃ ps L, Way es f ps v L
theorem IsRch.unique {N f : Int} {es : List EdgeV} {xs ys : List Int} (h : IsRch N es f xs) (g : IsRch N es f ys) : xs = ys :=
  sorted_one xs ys h.1 g.1 (fun v => (h.2 v).trans (g.2 v).symm)
/-- What Reached tells. -/
def RchV (n : Int) (es : List EdgeV) (f : Int) (xs : List Int) : Prop := (netB n es = true ∧ nodeB n f = true ∧ IsRch n es f xs) ∨ (¬ (netB n es = true ∧ nodeB n f = true) ∧ xs = [])
theorem RchV.unique {n f : Int} {es : List EdgeV} {xs ys : List Int} (h : RchV n es f xs) (g : RchV n es f ys) : xs = ys := by
  rcases h with ⟨h1, h2, h⟩ | ⟨h1, h⟩ <;> rcases g with ⟨g1, g2, g⟩ | ⟨g1, g⟩
  · exact h.unique g
  · exact absurd ⟨h1, h2⟩ g1
  · exact absurd ⟨g1, g2⟩ h1
  · rw [h, g]
/-- The nodes below i that have a length. -/
def rchTo (ls : List Int) : Nat → List Int
  | 0 => []
  | i + 1 => rchTo ls i ++ (if 0 ≤ gI ls i then [(i : Int)] else [])
theorem rchTo_len (ls : List Int) : ∀ i, (rchTo ls i).length ≤ i
  | 0 => Nat.le_refl _
  | i + 1 => by
    have := rchTo_len ls i
    unfold rchTo
    rw [List.length_append]
    split <;> simp <;> omega
theorem rchTo_mem (ls : List Int) (v : Int) : ∀ i, v ∈ rchTo ls i ↔ (0 ≤ v ∧ v < (i : Int)) ∧ 0 ≤ gI ls v.toNat
  | 0 => by simp [rchTo]; omega
  | i + 1 => by
    have ih := rchTo_mem ls v i
    unfold rchTo
    rw [List.mem_append, ih]
    constructor
    · rintro (⟨h1, h2⟩ | h)
      · exact ⟨by omega, h2⟩
      · split at h
        · rename_i g
          simp only [List.mem_singleton] at h
          subst h
          exact ⟨by omega, by simpa using g⟩
        · simp at h
    · rintro ⟨h1, h2⟩
      by_cases h : v < (i : Int)
      · exact .inl ⟨by omega, h2⟩
      · have e : v = (i : Int) := by omega
        subst e
        rw [Int.toNat_natCast] at h2
        right; rw [if_pos h2]; simp
theorem rchTo_sorted (ls : List Int) : ∀ i, (rchTo ls i).Pairwise (· < ·)
  | 0 => by simp [rchTo]
  | i + 1 => by
    unfold rchTo
    rw [List.pairwise_append]
    refine ⟨rchTo_sorted ls i, by split <;> simp, fun a ha b hb => ?_⟩
    have := (rchTo_mem ls a i).1 ha
    split at hb
    · simp only [List.mem_singleton] at hb; omega
    · simp at hb
theorem Bst.rch {N : Nat} {es : List EdgeV} {f : Int} {ls cs : List Int} (h : Bst N es f ls cs) : IsRch (N : Int) es f (rchTo ls N) := by
  refine ⟨rchTo_sorted _ _, fun v => ?_⟩
  rw [rchTo_mem]
  constructor
  · rintro ⟨h1, h2⟩
    obtain ⟨ps, h3, _⟩ := h.sound v h1 h2
    exact ⟨h1, _, _, h3.flip⟩
  · rintro ⟨h1, ps, L, hw⟩
    exact ⟨h1, (h.least v _ _ h1 hw.flip).1⟩
def IntsAns (w : World) (V : List Int → Prop) (e : Ending) (w' : World) : Prop :=
  ∃ ao cp xs, e = .returned (.slice ao (List.length xs) cp) ∧ V xs ∧ w'.ownsRow w.heap.size 3 1 (.slice ao xs.length cp) xs.length (xs.map (.int .i64)) ∧ Below w.heap.size w w'
theorem IntsAns.empty {w w' : World} {V : List Int → Prop} (h : V []) (hb : Below w.heap.size w w') : IntsAns w V (.returned (.slice none 0 0)) w' :=
  ⟨none, 0, [], rfl, h, World.ownsRow_nil _ _ _ _, hb⟩
set_option maxRecDepth 20000 in
set_option maxHeartbeats 3200000 in
theorem cReachS (a : Option Addr) (p : Nat) (n f : Int) (es : List EdgeV) (w : World) (he : Edges w a es) (hl : es.length ≤ 1048576) :
    Calls Try.prog 31 #[.agg #[.int .i64 n, .slice a es.length p], .int .i64 f] w (IntsAns w (RchV n es f)) := by
  obtain ⟨i1, hi1, hy0, hy1, hy2⟩ := info_parts infoInts
  have HB := balloc w (.cells #[.int .i64 n, .slice a es.length p] 26)
  have X := Bx2.new w (.int .i64 n) (.slice a es.length p) 26
  obtain ⟨b0, b1⟩ := id X
  have CN := cNetS a p n es _ (he.below HB) hl
  go_enter Try.func31, Try.ntmps31
  cases q1 : netB n es
  · rw [q1] at CN
    have hV : Hid (RchV n es f []) := hide (.inr ⟨(fun h => by rw [q1] at h; cases h.1), rfl⟩)
    go_wp2_with fail
    refine CN.mono ?_
    rintro e w1 ⟨rfl, hb⟩
    have HB1 := btrans HB hb
    clear hb
    go_wp2
    go_ret
    exact .empty hV.out HB1
  rw [q1] at CN
  have hN0 := (net_rg q1).2.1
  have CI := fun W => cIn f 0 (n - 1) W
  have wn : IntKind.i64.wrap (n - 1) = n - 1 := wrap_in _ (by omega) (by omega)
  go_wp2_with fail
  refine CN.mono ?_
  rintro e w1 ⟨rfl, hb⟩
  have HB1 := btrans HB hb
  replace X := X.below hb
  clear hb CN b0 b1
  obtain ⟨b0, b1⟩ := id X
  go_wp2_with fail
  refine (CI _).mono ?_
  rintro e w2 ⟨rfl, hw⟩
  subst w2
  cases q2 : inB f 0 (n - 1)
  · have hV : Hid (RchV n es f []) := hide (.inr ⟨(fun h => by have := h.2; unfold nodeB at this; rw [q2] at this; cases this), rfl⟩)
    go_wp2
    go_ret
    exact .empty hV.out HB1
  clear hN0
  obtain ⟨R, hN, hE⟩ := net_rg q1
  have hf := inB_true q2
  obtain ⟨N, rfl⟩ : ∃ N : Nat, n = (N : Int) := ⟨n.toNat, by omega⟩
  obtain ⟨t, rfl⟩ : ∃ t : Nat, f = (t : Int) := ⟨f.toNat, by omega⟩
  have hRV := hide (fun xs (h : IsRch (N : Int) es (t : Int) xs) => (show RchV (N : Int) es (t : Int) xs from .inl ⟨q1, q2, h⟩))
  clear HB CI wn q2
  go_wp2_with fail
  refine (cBestS a p N es t _ (he.below HB1) q1 (by omega)).mono ?_
  rintro e w3 ⟨gC, cC, gK, cK, ls, cs, rfl, hB, T, hb⟩
  have HB3 := btrans HB1 hb
  have X3 := X.below hb
  have hgC := own_blk_lt T.c gC rfl
  have hgK := own_blk_lt T.k gK rfl
  have hws := cell_lt X.1
  have h13 := hb.size
  clear hb X HB1 b0 b1 q1 R he
  have hal := balloc w3 (.cells #[] 3)
  have o1 := World.ownsRow_made (e := 3) (size := 1) w3 #[] 0 (Nat.le_refl _) (by omega) rfl
  have X4 := X3.below hal
  have T4 := T.below hal
  have HB4 := btrans HB3 hal
  have hsz3 := HB3.size
  clear hal X3 T
  go_wp2
  go_loopw [7, 8] (fun ov iv wr => ∃ (i : Nat) (xs : List Int) (ao : Option Addr) (cp : Nat), i ≤ N ∧ iv = .int .i64 i ∧ ov = .slice ao xs.length cp ∧ Hid (xs = rchTo ls i) ∧ wr.ownsRow w3.heap.size 3 1 (.slice ao xs.length cp) xs.length (xs.map (.int .i64)) ∧ Tw w1.heap.size N wr gC cC gK cK ls cs ∧ Bx2 wr w.heap.size (.int .i64 (N : Int)) (.slice a es.length p) ∧ Below w.heap.size w wr ∧ w3.heap.size ≤ wr.heap.size) (fun _ iv _ => N - (intOf iv).toNat)
  case atStart => exact ⟨0, [], _, _, Nat.zero_le _, rfl, rfl, hide rfl, o1, T4, X4, HB4, by simp⟩
  case round =>
    clear o1 T4 X4 HB4
    obtain ⟨i, xs, ao, cp, hiN, rfl, rfl, hxs, ho, T, X, HB, hs3⟩ := hrel
    obtain ⟨b0, b1⟩ := id X
    by_cases hlt : i < N
    · obtain ⟨y0, f0⟩ := T.atC (i := i) hlt
      have hxl : xs.length ≤ i := by rw [hxs.out]; exact rchTo_len _ _
      have hi9 : i < 1000 := by omega
      have hlt' : (i : Int) < (N : Int) := by omega
      by_cases hg : 0 ≤ gI ls i
      · have hxs2 := hide (show xs ++ [(i : Int)] = rchTo ls (i + 1) by unfold rchTo; rw [if_pos hg, hxs.out])
        have hob := own_from ho (Nat.le_refl _)
        have hA := balloc wr (.cells #[.int .i64 (i : Int)] 3)
        have XA := X.below hA
        have TA := T.below hA
        have HA := btrans HB hA
        have hoA := own_keep ho hA
        have hsz := HB.size
        generalize gI ls i = z at *
        clear hxs X T HB hA ho f0
        go_wp2_with (at_builtin; refine wpList_append_own _ rfl _ _ 29 rfl w3.heap.size 3 i1 (.int .i64 0) 1 8 Try.underlying29 hi1 hy0 hy1 hy2 rfl (by decide) _ _ _ rfl hoA ⟨wr.heap.size, 0, none⟩ 1 1 [.int .i64 (i : Int)] rfl rfl ?c1 ?c2 ?c3 ?c4 ?c5 ?_)
        case c1 => exact cell_one_new _ _ _
        case c2 => intro x hx; simp at hx; subst hx; rfl
        case c3 => unfold maxLen; omega
        case c4 => omega
        case c5 => simp; omega
        intro v2 w8 hown hgrow _
        obtain ⟨a2, c2, rfl⟩ := own_form hown
        have T8 := TA.far hgrow (fun e => by have := hob gC e.symm; omega) (fun e => by have := hob gK e.symm; omega)
        have X8 := XA.far hgrow (fun e => by have := hob _ e.symm; omega)
        have HB8 := HA.grown hgrow HA.size (fun j e => by have := hob j e; omega)
        have hs8 : w3.heap.size ≤ w8.heap.size := by have := hgrow.size; simp at this; omega
        have ho8 : w8.ownsRow w3.heap.size 3 1 (.slice a2 (xs ++ [(i : Int)]).length c2) (xs ++ [(i : Int)]).length ((xs ++ [(i : Int)]).map (.int .i64)) := by
          rw [List.length_append, List.map_append]; exact hown
        clear hown hgrow hoA TA XA HA y0
        go_wp2
        go_roundw
        case rel => exact ⟨i + 1, xs ++ [(i : Int)], a2, c2, by omega, by go_num, by simp, hxs2, ho8, T8, X8, HB8, hs8⟩
        case measure => simp [intOf]; omega
      · have hxs2 := hide (show xs = rchTo ls (i + 1) by unfold rchTo; rw [if_neg hg, List.append_nil, hxs.out])
        have hg' : gI ls i < 0 := by omega
        generalize gI ls i = z at *
        clear hxs f0 hg
        go_wp2
        go_roundw
        case rel => exact ⟨i + 1, xs, ao, cp, by omega, by go_num, rfl, hxs2, ho, T, X, HB, hs3⟩
        case measure => simp [intOf]; omega
    · obtain rfl : i = N := by omega
      have hV := hide (hRV.out xs (by rw [hxs.out]; exact hB.rch))
      go_wp2
      go_ret
      exact ⟨ao, cp, xs, rfl, hV.out, own_base ho (by omega), HB⟩
end Go.Proofs.Ytdjambejppanoaa
