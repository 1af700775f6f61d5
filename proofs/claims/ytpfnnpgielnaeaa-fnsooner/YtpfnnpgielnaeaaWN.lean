/- Which nodes are within reach, of both. -/
import Derived.Test.YtpfnnpgielnaeaaFT
import Derived.Test.YtpfnnpgielnaeaaShelfb
import Derived.Sort.OwnSortedInts
import Derived.Lib.OwnBridge
import Derived.Lib.RowBridge
import Derived.Maps.AppendAt
namespace Go.Proofs.Ytpfnnpgielnaeaa
open Go.RowKit Go.Sort Go.Lib

theorem asc_uniq : ∀ {L L' : List Int}, L.Pairwise (· < ·) → L'.Pairwise (· < ·) → (∀ x, x ∈ L ↔ x ∈ L') → L = L'
  | [], [], _, _, _ => rfl
  | [], y :: ys, _, _, h => absurd ((h y).2 List.mem_cons_self) (by simp)
  | x :: xs, [], _, _, h => absurd ((h x).1 List.mem_cons_self) (by simp)
  | x :: xs, y :: ys, h1, h2, h => by
    rw [List.pairwise_cons] at h1 h2
    have e : x = y := by
      have a := (h x).1 List.mem_cons_self
      have b := (h y).2 List.mem_cons_self
      rcases List.mem_cons.1 a with a | a
      · exact a
      · rcases List.mem_cons.1 b with b | b
        · exact b.symm
        · have := h2.1 _ a; have := h1.1 _ b; omega
    subst e
    rw [asc_uniq h1.2 h2.2 (fun z => ⟨fun hz => by
        rcases List.mem_cons.1 ((h z).1 (List.mem_cons_of_mem _ hz)) with e | e
        · have := h1.1 _ hz; omega
        · exact e, fun hz => by
        rcases List.mem_cons.1 ((h z).2 (List.mem_cons_of_mem _ hz)) with e | e
        · have := h2.1 _ hz; omega
        · exact e⟩)]
theorem comp_up {d : Array Int} (hs : ∀ i j, i < j → j < d.size → d[i]! ≤ d[j]!) : ∀ m, m ≤ d.size → (compactUpTo d m).Pairwise (· < ·) ∧ (∀ x, x ∈ compactUpTo d m ↔ ∃ j, j < m ∧ d[j]! = x) ∧ ∀ x ∈ compactUpTo d m, 0 < m → x ≤ d[m - 1]! := by
  intro m
  induction m with
  | zero => intro _; exact ⟨by simp [compactUpTo], by simp [compactUpTo], by simp [compactUpTo]⟩
  | succ m ih =>
    intro hm
    obtain ⟨h1, h2, h3⟩ := ih (by omega)
    rw [compactUpTo_succ]
    by_cases hk : keeps d m = true
    · rw [if_pos hk]
      have hlt : ∀ x ∈ compactUpTo d m, x < d[m]! := fun x hx => by
        have h0 : 0 < m := by obtain ⟨j, hj, _⟩ := (h2 x).1 hx; omega
        have a := h3 x hx h0
        have b := hs (m - 1) m (by omega) (by omega)
        simp only [keeps, decide_eq_true_eq] at hk
        rcases hk with hk | hk
        · omega
        · omega
      refine ⟨List.pairwise_append.2 ⟨h1, by simp, fun x hx y hy => by rw [List.mem_singleton.1 hy]; exact hlt x hx⟩, fun x => ?_, fun x hx _ => ?_⟩
      · rw [List.mem_append, h2, List.mem_singleton]
        constructor
        · rintro (⟨j, hj, e⟩ | e)
          · exact ⟨j, by omega, e⟩
          · exact ⟨m, by omega, e.symm⟩
        · rintro ⟨j, hj, e⟩
          by_cases ej : j = m
          · subst ej; exact .inr e.symm
          · exact .inl ⟨j, by omega, e⟩
      · rw [show m + 1 - 1 = m by omega]
        rcases List.mem_append.1 hx with hx | hx
        · exact Int.le_of_lt (hlt x hx)
        · rw [List.mem_singleton.1 hx]; exact Int.le_refl _
    · rw [if_neg hk, List.append_nil]
      simp only [keeps, decide_eq_true_eq, not_or, Decidable.not_not] at hk
      refine ⟨h1, fun x => ?_, fun x hx _ => ?_⟩
      · rw [h2]
        constructor
        · rintro ⟨j, hj, e⟩; exact ⟨j, by omega, e⟩
        · rintro ⟨j, hj, e⟩
          by_cases ej : j = m
          · subst ej; exact ⟨j - 1, by omega, by rw [← hk.2]; exact e⟩
          · exact ⟨j, by omega, e⟩
      · rw [show m + 1 - 1 = m by omega]
        have := h3 x hx (by omega)
        rw [hk.2]; exact this
theorem comp_sorted (zs : List Int) : (compact (zs.mergeSort fun x y => decide (x ≤ y))).Pairwise (· < ·) ∧ ∀ x, x ∈ compact (zs.mergeSort fun x y => decide (x ≤ y)) ↔ x ∈ zs := by
  have hp : (zs.mergeSort fun x y => decide (x ≤ y)).Pairwise (fun x y => decide (x ≤ y) = true) := List.pairwise_mergeSort (by intro a b c; simp; omega) (by intro a b; simp; omega) zs
  generalize hS : (zs.mergeSort fun x y => decide (x ≤ y)) = ss at *
  have hm : ∀ x, x ∈ ss ↔ x ∈ zs := fun x => by rw [← hS]; exact List.mem_mergeSort
  have hs : ∀ i j, i < j → j < ss.toArray.size → ss.toArray[i]! ≤ ss.toArray[j]! := fun i j hij hj => by
    have hj' : j < ss.length := by simpa using hj
    have := (List.pairwise_iff_getElem.1 hp) i j (by omega) hj' hij
    simpa [getElem!_pos, hj', show i < ss.length by omega] using this
  obtain ⟨h1, h2, _⟩ := comp_up hs ss.length (by simp)
  refine ⟨h1, fun x => ?_⟩
  unfold compact
  rw [h2, ← hm]
  constructor
  · rintro ⟨j, hj, e⟩
    have hj' : j < ss.length := hj
    rw [← e]
    simp [getElem!_pos, hj']
  · intro hx
    obtain ⟨j, hj, e⟩ := List.mem_iff_getElem.1 hx
    exact ⟨j, hj, by simp [getElem!_pos, hj, e]⟩
/-- What Within tells. -/
def WithL (ts : List TripV) (f m ch h : Int) (L : List Int) : Prop := (¬ AskP ts f f m ch h ∧ L = []) ∨ (AskP ts f f m ch h ∧ L.length ≤ 1000 ∧ L.Pairwise (· < ·) ∧ ∀ x, x ∈ L ↔ ∃ y, Jr ts ⟨f, m⟩ ch h.toNat ⟨x, y⟩)
theorem WithL.uniq {ts : List TripV} {f m ch h : Int} {L L' : List Int} (a : WithL ts f m ch h L) (b : WithL ts f m ch h L') : L = L' := by
  rcases a with ⟨a1, a2⟩ | ⟨a1, _, a2, a3⟩ <;> rcases b with ⟨b1, b2⟩ | ⟨b1, _, b2, b3⟩
  · rw [a2, b2]
  · exact absurd b1 a1
  · exact absurd a1 b1
  · exact asc_uniq a2 b2 (fun x => (a3 x).trans (b3 x).symm)
theorem WithL.small {ts : List TripV} {f m ch h : Int} {L : List Int} (a : WithL ts f m ch h L) : L.length ≤ 1000 := by
  rcases a with ⟨_, a2⟩ | ⟨_, a2, _⟩
  · rw [a2]; simp
  · exact a2
theorem grown_sorted {w : World} {g n : Nat} {os : Array Obj} (d : Array Int) : w.grownBy (grow (putRow (Value.int .i64) (Sort.ahead w n) g 0 d) os) (some g) := by
  refine ⟨rfl, rfl, rfl, by simp [grow], fun k hk hne => ?_⟩
  rw [heap_grow_old _ _ (by simpa using hk)]
  have : g ≠ k := fun e => hne (by rw [e])
  simp [putRow, mapBlock, Sort.ahead, Array.getElem?_modify, this]

set_option maxRecDepth 20000 in
set_option maxHeartbeats 3200000 in
theorem cWithI (a : Option Addr) (cap : Nat) (ts : List TripV) (f m ch h : Int) (w : World) (hz : Trips w a ts) (hS : Small ts) :
    Calls Try.prog 17 #[.slice a ts.length cap, .int .i64 f, .int .i64 m, .int .i64 ch, .int .i64 h] w (RowAns w (WithL ts f m ch h)) := by
  obtain ⟨i0, hi, hz0, hz1, hz2⟩ := info_parts infoInts
  go_enter Try.func17, Try.ntmps17
  go_wp2_with fail
  refine (cAskI a cap ts f f m ch h _ hz hS).mono ?_
  rintro e w1 ⟨r, rfl, hr, hb⟩
  cases r
  · have hF : WithL ts f m ch h [] := .inl ⟨fun q => absurd (hr.2 q) (by decide), rfl⟩
    clear hr
    go_wp2
    go_ret
    exact ⟨_, rfl, [], hF, World.ownsRow_nil _ _ _ _, hb⟩
  have q := hide (hr.1 rfl)
  clear hr
  obtain ⟨hg, hf, ht, hm, hc, hh⟩ := q.out.parts
  obtain ⟨H, rfl⟩ : ∃ H : Nat, h = H := ⟨h.toNat, by omega⟩
  have CS := cSearched a cap ts f m ch H w1 (hz.below hb) hg hf.1 hf.2 hm.1 hm.2 hc.1 hc.2 (by omega)
  go_wp2_with fail
  refine CS.mono ?_
  rintro e w2 ⟨gr, c, bks, R, rfl, hBf, -, T, hb2⟩
  have HB := btrans hb hb2
  have hR : R.length ≤ 289 := hBf.short hg
  have hpos := hBf.pos
  have hAll := hide hBf.all
  clear CS hb hb2 hBf hg hf ht hm hc hh
  go_wp2
  go_loopw [11, 29] (fun v ii wr => ∃ (i : Nat) (L : List Int), i ≤ R.length ∧ ii = .int .i64 i ∧ Hid (L = (R.take i).map Rec.n) ∧ wr.ownsRow w2.heap.size 3 1 v i (L.map (.int .i64)) ∧ Below w2.heap.size w2 wr) (fun _ ii _ => R.length - (intOf ii).toNat)
  case atStart => exact ⟨0, [], Nat.zero_le _, rfl, hide rfl, World.ownsRow_nil _ _ _ _, Below.refl _ _⟩
  case round =>
    obtain ⟨i, L, hil, rfl, hLe, ho, hbr⟩ := hrel
    obtain ⟨va, vc, rfl⟩ := own_form ho
    by_cases hlt : i < R.length
    · have hlt' : (i : Int) < (R.length : Int) := by omega
      have Tr := T.below hbr
      have t0 := Tr.row i hlt
      have hst := Tr.st i hlt
      obtain ⟨-, -, -, y3, -, -⟩ := six_cells (by unfold recCells at hst; exact hst)
      have e0 : R.getD i Rec.zero = R[i] := by simp [List.getD, hlt]
      have hst2 := hide (show L ++ [(R.getD i Rec.zero).n] = (R.take (i + 1)).map Rec.n by rw [hLe.out, List.take_succ_eq_append_getElem hlt, List.map_append, e0]; rfl)
      generalize (R.getD i Rec.zero).n = qn at *
      generalize bks.getD i 0 = g at *
      have hsz := hbr.size
      clear hst Tr e0
      go_wp2_with (at_builtin; refine wpList_append_own _ rfl _ _ 27 rfl w2.heap.size 3 i0 (.int .i64 0) 1 8 Try.underlying27 hi hz0 hz1 hz2 rfl (by decide) _ _ _ rfl (ho.alloc _) ⟨wr.heap.size, 0, none⟩ 1 1 [.int .i64 qn] rfl rfl ?c1 ?c2 ?c3 ?c4 ?c5 ?_)
      case c1 =>
        intro j x hj
        match j, hj with
        | 0, hj => simp at hj; subst hj; simp [Addr.add]
      case c2 => intro x hx; simp at hx; subst hx; rfl
      case c3 => unfold maxLen; omega
      case c4 => omega
      case c5 => simp; omega
      intro v5 w5 hown5 hgrow5 _
      have hfrom := own_from ho (Nat.le_refl _)
      have hb5 : Below w2.heap.size w2 w5 := (hbr.alloc hsz _).grown hgrow5 (by simp; omega) (fun j e => by have := hfrom j e; omega)
      have ho5 : w5.ownsRow w2.heap.size 3 1 v5 (i + 1) ((L ++ [qn]).map (.int .i64)) := by rw [List.map_append]; exact hown5
      clear hown5 hgrow5 hfrom ho hsz t0 y3 hLe
      go_wp2
      go_roundw
      case rel => exact ⟨i + 1, L ++ [qn], by omega, by go_num, hst2, ho5, hb5⟩
      case measure => simp [intOf]; omega
    · have hlt' : ¬ (i : Int) < (R.length : Int) := by omega
      have hii : i = R.length := by omega
      have ho2 : wr.ownsRow w2.heap.size 3 1 (.slice va i vc) i ((R.map Rec.n).map (.int .i64)) := by rw [hLe.out, hii, List.take_length] at ho; rw [hii]; exact ho
      obtain ⟨g, gc, hv, hgB, hglt, hgn, hgm, hzl, hHo⟩ := holds_of_ownsRow ho2 (by intro e; simp only [Value.slice.injEq] at e; omega)
      simp only [Value.slice.injEq, true_and] at hv
      obtain ⟨rfl, rfl⟩ := hv
      have hcon := Any.slices_Sort_int { Try.sortI with } g 0 vc (R.map Rec.n) wr hHo hglt (by simp; omega)
      change Calls Try.prog 46 _ _ _ at hcon
      rw [hzl] at hcon
      have hi0 : 0 < i := by omega
      have hi289 : i ≤ 289 := by omega
      replace hzl := hide hzl
      replace hii := hide hii
      clear ho hlt
      go_wp2_with fail
      clear hlt'
      refine hcon.mono ?_
      rintro e w3 ⟨rfl, n3, os3, rfl⟩
      have G3 := grown_sorted (w := wr) (g := g) (n := n3) (os := os3) ((R.map Rec.n).mergeSort fun x y => decide (x ≤ y)).toArray
      obtain ⟨cur, hcur, hcs⟩ : ∃ cur, wr.heap[g]? = some (.cells cur 3 (0, 0)) ∧ cur.size = vc * 1 := by
        rcases ho2.2 with ⟨e, _⟩ | ⟨g', c', cur, e, _, hh, _, _, hsz, _⟩
        · cases e
        · simp only [Value.slice.injEq, Option.some.injEq, Addr.mk.injEq, and_true, true_and] at e
          obtain ⟨rfl, rfl⟩ := e
          exact ⟨cur, hh, hsz⟩
      have hsl : ((R.map Rec.n).mergeSort fun x y => decide (x ≤ y)).length = (R.map Rec.n).length := by simp
      have O3 := ownsRow_sortedI (w := wr) (n := n3) (os := os3) (base := w2.heap.size) (cap := vc) (ss := R.map Rec.n) (ts := (R.map Rec.n).mergeSort fun x y => decide (x ≤ y)) hsl hgB hcur (by rw [hzl.out]; exact hgn) hgm hcs
      rw [hzl.out] at O3
      have hsp := comp_sorted (R.map Rec.n)
      have hb3 : Below w2.heap.size w2 (grow (putRow (Value.int .i64) (Sort.ahead wr n3) g 0 ((R.map Rec.n).mergeSort fun x y => decide (x ≤ y)).toArray) os3) := hbr.grown G3 hbr.size (fun j e => by cases e; exact hgB)
      clear hcon hHo ho2 hcur hcs G3
      generalize grow (putRow (Value.int .i64) (Sort.ahead wr n3) g 0 ((R.map Rec.n).mergeSort fun x y => decide (x ≤ y)).toArray) os3 = w4 at *
      generalize ((R.map Rec.n).mergeSort fun x y => decide (x ≤ y)) = ss at *
      obtain ⟨g', gc', hv, -, hglt4, -, -, hssl, hHo4⟩ := holds_of_ownsRow O3 (by intro e; simp only [Value.slice.injEq] at e; omega)
      simp only [Value.slice.injEq, Option.some.injEq, Addr.mk.injEq, and_true, true_and] at hv
      obtain ⟨rfl, rfl⟩ := hv
      have hcon2 := Any.slices_Compact_int { Try.compI with } g 0 vc ss w4 hHo4 (by omega) (by omega)
      change Calls Try.prog 47 _ _ _ at hcon2
      rw [hssl] at hcon2
      have hcl : (compact ss).length ≤ i := by rw [← hssl]; exact compact_length_le ss
      go_wp2_with fail
      refine hcon2.mono ?_
      rintro e w5 ⟨rfl, q5, rfl⟩
      have O5 := ownsRow_putRow (q := q5) (ys := compact ss ++ List.replicate (i - (compact ss).length) 0) (k := (compact ss).length) O3 (by simp; omega) hcl
      rw [List.take_left] at O5
      have hb5 := below_putRow (enc := Value.int .i64) (q := q5) (d := (compact ss ++ List.replicate (i - (compact ss).length) 0).toArray) hb3 hgB
      have HB5 := btrans HB hb5
      have hszw := HB.size
      have hF : WithL ts f m ch H (compact ss) := .inr ⟨q.out, by omega, hsp.1, fun x => by
        rw [hsp.2, List.mem_map]
        constructor
        · rintro ⟨r, hr, rfl⟩; exact ⟨r.m, (hAll.out ⟨r.n, r.m⟩).1 ⟨r, hr, rfl⟩⟩
        · rintro ⟨y, hy⟩
          obtain ⟨r, hr, e⟩ := (hAll.out _).2 hy
          exact ⟨r, hr, congrArg Qn.n e⟩⟩
      have hG : RowAns w (WithL ts f m ch H) (.returned (.slice (some ⟨g, 0, none⟩) (compact ss).length vc)) (putRow (Value.int .i64) (Sort.ahead w4 q5) g 0 (compact ss ++ List.replicate (i - (compact ss).length) 0).toArray) := ⟨_, rfl, compact ss, hF, own_base O5 hszw, HB5⟩
      clear hcon2 O3 O5 hHo4 hF hsp HB5 hb5
      generalize putRow (Value.int .i64) (Sort.ahead w4 q5) g 0 (compact ss ++ List.replicate (i - (compact ss).length) 0).toArray = w6 at *
      go_wp2
      go_ret
      exact hG
end Go.Proofs.Ytpfnnpgielnaeaa
