/- No wagon twice: sorted and compacted. -/
import Derived.Test.YtjbecnflpfjicaaGreats18CN
namespace Go.Proofs.YtjbecnflpfjicaaGreat.s18
open Go.RowKit Go.Sort Go.Lib
theorem comp_up {d : Array Int} (hs : ∀ i j, i < j → j < d.size → d[i]! ≤ d[j]!) : ∀ m, m ≤ d.size → (compactUpTo d m).Pairwise (· < ·) ∧ (∀ x, x ∈ compactUpTo d m ↔ ∃ j, j < m ∧ d[j]! = x) ∧ ∀ x ∈ compactUpTo d m, 0 < m → x ≤ d[m - 1]! := by
  intro m
  induction m with
  | zero => intro _; exact ⟨by simp [compactUpTo], by simp [compactUpTo], by simp [compactUpTo]⟩
  | succ m ih =>
    intro hm
    obtain ⟨h1, h2, h3⟩ := ih (by omega)
    rw [compactUpTo_succ]
    by_cases hk : keeps d m = true
    · rw [if_pos hk]
      have hlt : ∀ x ∈ compactUpTo d m, x < d[m]! := fun x hx => by
        have h0 : 0 < m := by obtain ⟨j, hj, _⟩ := (h2 x).1 hx; omega
        have a := h3 x hx h0
        have b := hs (m - 1) m (by omega) (by omega)
        simp only [keeps, decide_eq_true_eq] at hk
        rcases hk with hk | hk
        · omega
        · omega
      refine ⟨List.pairwise_append.2 ⟨h1, by simp, fun x hx y hy => by rw [List.mem_singleton.1 hy]; exact hlt x hx⟩, fun x => ?_, fun x hx _ => ?_⟩
      · rw [List.mem_append, h2, List.mem_singleton]
        constructor
        · rintro (⟨j, hj, e⟩ | e)
          · exact ⟨j, by omega, e⟩
          · exact ⟨m, by omega, e.symm⟩
        · rintro ⟨j, hj, e⟩
          by_cases ej : j = m
          · subst ej; exact .inr e.symm
          · exact .inl ⟨j, by omega, e⟩
      · rw [show m + 1 - 1 = m by omega]
        rcases List.mem_append.1 hx with hx | hx
        · exact Int.le_of_lt (hlt x hx)
        · rw [List.mem_singleton.1 hx]; exact Int.le_refl _
    · rw [if_neg hk, List.append_nil]
      simp only [keeps, decide_eq_true_eq, not_or, Decidable.not_not] at hk
      refine ⟨h1, fun x => ?_, fun x hx _ => ?_⟩
      · rw [h2]
        constructor
        · rintro ⟨j, hj, e⟩; exact ⟨j, by omega, e⟩
        · rintro ⟨j, hj, e⟩
          by_cases ej : j = m
          · subst ej; exact ⟨j - 1, by omega, by rw [← hk.2]; exact e⟩
          · exact ⟨j, by omega, e⟩
      · rw [show m + 1 - 1 = m by omega]
        have := h3 x hx (by omega)
        rw [hk.2]; exact this
theorem comp_sorted (zs : List Int) : (compact (zs.mergeSort fun x y => decide (x ≤ y))).Pairwise (· < ·) ∧ ∀ x, x ∈ compact (zs.mergeSort fun x y => decide (x ≤ y)) ↔ x ∈ zs := by
  have hp : (zs.mergeSort fun x y => decide (x ≤ y)).Pairwise (fun x y => decide (x ≤ y) = true) := List.pairwise_mergeSort (by intro a b c; simp; omega) (by intro a b; simp; omega) zs
  generalize hS : (zs.mergeSort fun x y => decide (x ≤ y)) = ss at *
  have hm : ∀ x, x ∈ ss ↔ x ∈ zs := fun x => by rw [← hS]; exact List.mem_mergeSort
  have hs : ∀ i j, i < j → j < ss.toArray.size → ss.toArray[i]! ≤ ss.toArray[j]! := fun i j hij hj => by
    have hj' : j < ss.length := by simpa using hj
    have := (List.pairwise_iff_getElem.1 hp) i j (by omega) hj' hij
    simpa [getElem!_pos, hj', show i < ss.length by omega] using this
  obtain ⟨h1, h2, _⟩ := comp_up hs ss.length (by simp)
  refine ⟨h1, fun x => ?_⟩
  unfold compact
  rw [h2, ← hm]
  constructor
  · rintro ⟨j, hj, e⟩
    have hj' : j < ss.length := hj
    rw [← e]
    simp [getElem!_pos, hj']
  · intro hx
    obtain ⟨j, hj, e⟩ := List.mem_iff_getElem.1 hx
    exact ⟨j, hj, by simp [getElem!_pos, hj, e]⟩
theorem grown_sorted {w : World} {g n : Nat} {os : Array Obj} (d : Array Int) : w.grownBy (grow (putRow (Value.int .i64) (Sort.ahead w n) g 0 d) os) (some g) := by
  refine ⟨rfl, rfl, rfl, by simp [grow], fun k hk hne => ?_⟩
  rw [heap_grow_old _ _ (by simpa using hk)]
  have : g ≠ k := fun e => hne (by rw [e])
  simp [putRow, mapBlock, Sort.ahead, Array.getElem?_modify, this]

theorem sub_len : ∀ {l1 l2 : List Int}, l1.Nodup → (∀ x ∈ l1, x ∈ l2) → l1.length ≤ l2.length
  | [], _, _, _ => Nat.zero_le _
  | a :: t, l2, hn, hs => by
    have ha : a ∈ l2 := hs a (List.mem_cons_self ..)
    have hn' := List.nodup_cons.1 hn
    have := sub_len (l1 := t) (l2 := l2.erase a) hn'.2 (fun x hx => (List.mem_erase_of_ne (fun e => hn'.1 (by rw [← e]; exact hx))).2 (hs x (List.mem_cons_of_mem _ hx)))
    rw [List.length_erase_of_mem ha] at this
    have := List.length_pos_of_mem ha
    simp only [List.length_cons]; omega
theorem nodup_of_len : ∀ {zs L : List Int}, L.Nodup → (∀ x ∈ L, x ∈ zs) → zs.length ≤ L.length → zs.Nodup
  | [], _, _, _, _ => List.nodup_nil
  | a :: t, L, hn, hs, hl => by
    rw [List.length_cons] at hl
    have far : (∀ x ∈ L, x ∈ t) → False := fun h => by have := sub_len hn h; omega
    by_cases ha : a ∈ L
    · refine List.nodup_cons.2 ⟨fun hat => far (fun x hx => ?_), ?_⟩
      · rcases List.mem_cons.1 (hs x hx) with rfl | h
        · exact hat
        · exact h
      · refine nodup_of_len (hn.erase a) (fun x hx => ?_) (by rw [List.length_erase_of_mem ha]; omega)
        have h1 := (hn.mem_erase_iff).1 hx
        rcases List.mem_cons.1 (hs x h1.2) with h | h
        · exact absurd h h1.1
        · exact h
    · exact absurd (fun x hx => by
        rcases List.mem_cons.1 (hs x hx) with rfl | h
        · exact absurd hx ha
        · exact h) far
theorem comp_len (zs : List Int) : ((compact (zs.mergeSort fun x y => decide (x ≤ y))).length = zs.length) ↔ zs.Nodup := by
  obtain ⟨h1, h2⟩ := comp_sorted zs
  have hn : (compact (zs.mergeSort fun x y => decide (x ≤ y))).Nodup := h1.imp (fun h => by omega)
  constructor
  · intro h; exact nodup_of_len hn (fun x hx => (h2 x).1 hx) (by omega)
  · intro h
    have a1 := sub_len hn (fun x hx => (h2 x).1 hx)
    have a2 := sub_len h (fun x hx => (h2 x).2 hx)
    omega

set_option maxRecDepth 20000 in
set_option maxHeartbeats 3200000 in
theorem cNone (a : Option Addr) (cap : Nat) (vs : List Value) (rows : List (List Int)) (w : World) (hR : RowsW w a vs rows) (h6 : rows.length ≤ 6) (h40 : ∀ i, i < rows.length → (rwA rows i).length ≤ 40) :
    Calls Tryz.prog 50 #[.slice a rows.length cap] w fun e w' => e = .returned (.bool (decide rows.flatten.Nodup)) ∧ Below w.heap.size w w' := by
  have CC := cConcat a cap vs rows w hR h6 h40
  have hle := flat_take_le rows.length (Nat.le_refl _) h40
  rw [List.take_length] at hle
  generalize rows.flatten = zs at *
  go_enter Tryz.func50, Tryz.ntmps50
  go_wp2_with fail
  refine CC.mono ?_
  rintro e w1 ⟨v, rfl, ho, hnil, hb⟩
  clear CC
  by_cases h0 : zs = []
  · subst h0
    obtain rfl := hnil rfl
    have hcon := Any.slices_Sort_int_none { Tryz.sortI with } none 0 w1
    change Calls Tryz.prog 71 _ _ _ at hcon
    have hcon2 := Any.slices_Compact_int_empty { Tryz.compI with } none 0 w1
    change Calls Tryz.prog 72 _ _ _ at hcon2
    clear ho hnil
    go_wp2_with fail
    refine hcon.mono ?_
    rintro e w2 ⟨rfl, hw⟩
    subst w2
    go_wp2_with fail
    refine hcon2.mono ?_
    rintro e w2 ⟨rfl, hw⟩
    subst w2
    go_wp2
    go_ret
    exact ⟨ret_bool (by decide), hb⟩
  have hpos : 0 < zs.length := List.length_pos_iff.2 h0
  obtain ⟨g, vc, hv, hgB, hglt, hgn, hgm, hzl, hHo⟩ := holds_of_ownsRow ho (by intro e; subst e; rcases ho.2 with ⟨_, h1⟩ | ⟨_, _, _, h1, _⟩; (omega); (cases h1))
  subst hv
  have hcon := Any.slices_Sort_int { Tryz.sortI with } g 0 vc zs w1 hHo hglt (by omega)
  change Calls Tryz.prog 71 _ _ _ at hcon
  have R := hide (comp_len zs)
  have hsl : (zs.mergeSort fun x y => decide (x ≤ y)).length = zs.length := by simp
  obtain ⟨cur, hcur, hcs⟩ : ∃ cur, w1.heap[g]? = some (.cells cur 3 (0, 0)) ∧ cur.size = vc * 1 := by
    rcases ho.2 with ⟨e, _⟩ | ⟨g', c', cur, e, _, hh, _, _, hsz, _⟩
    · cases e
    · simp only [Value.slice.injEq, Option.some.injEq, Addr.mk.injEq, and_true, true_and] at e
      obtain ⟨rfl, rfl⟩ := e
      exact ⟨cur, hh, hsz⟩
  clear hnil h0 hzl
  go_wp2_with fail
  refine hcon.mono ?_
  rintro e w3 ⟨rfl, n3, os3, rfl⟩
  have G3 := grown_sorted (w := w1) (g := g) (n := n3) (os := os3) (zs.mergeSort fun x y => decide (x ≤ y)).toArray
  have O3 := ownsRow_sortedI (w := w1) (n := n3) (os := os3) (base := w.heap.size) (cap := vc) (ss := zs) (ts := zs.mergeSort fun x y => decide (x ≤ y)) hsl hgB hcur hgn hgm hcs
  have hb3 : Below w.heap.size w (grow (putRow (Value.int .i64) (Sort.ahead w1 n3) g 0 (zs.mergeSort fun x y => decide (x ≤ y)).toArray) os3) := hb.grown G3 hb.size (fun j e => by cases e; exact hgB)
  clear hcon hHo ho hcur hcs G3
  generalize grow (putRow (Value.int .i64) (Sort.ahead w1 n3) g 0 (zs.mergeSort fun x y => decide (x ≤ y)).toArray) os3 = w4 at *
  generalize (zs.mergeSort fun x y => decide (x ≤ y)) = ss at *
  obtain ⟨g', gc', hv, -, hglt4, -, -, hssl, hHo4⟩ := holds_of_ownsRow O3 (by intro e; cases e)
  simp only [Value.slice.injEq, Option.some.injEq, Addr.mk.injEq, and_true, true_and] at hv
  obtain ⟨rfl, rfl⟩ := hv
  have hcon2 := Any.slices_Compact_int { Tryz.compI with } g 0 vc ss w4 hHo4 (by omega) (by omega)
  change Calls Tryz.prog 72 _ _ _ at hcon2
  rw [hssl] at hcon2
  clear hHo4 hsl hssl
  generalize hQ : (compact ss).length = Q at *
  replace hQ := hide hQ
  go_wp2_with fail
  refine hcon2.mono ?_
  rintro e w5 ⟨rfl, q5, rfl⟩
  have hb5 := below_putRow (enc := Value.int .i64) (q := q5) (d := (compact ss ++ List.replicate (zs.length - Q) 0).toArray) hb3 hgB
  rw [hQ.out] at *
  have hR2 : Hid (((Q : Int) == (zs.length : Int)) = decide zs.Nodup) := hide (by
    rw [Bool.eq_iff_iff]
    simp only [beq_iff_eq, decide_eq_true_eq]
    exact Int.ofNat_inj.trans R.out)
  clear hcon2 O3 R
  generalize putRow (Value.int .i64) (Sort.ahead w4 q5) g 0 (compact ss ++ List.replicate (zs.length - Q) 0).toArray = w6 at *
  go_wp2
  go_ret
  exact ⟨ret_bool hR2.out, hb5⟩
end Go.Proofs.YtjbecnflpfjicaaGreat.s18
