/- What a step of the program's search holds: boxes, departures, legs. -/
import Derived.Test.YtajeiiebddnchaaGreatDoorSC
import Derived.Test.YtajeiiebddnchaaGreatDoorSD
import Derived.Deep.CutRange
namespace Go.Proofs.YtajeiiebddnchaaGreatDoor
open Go.RowKit Go.Maps

/-- A node and a minute in boxes of their own. -/
def GotNR (W : World) (n r : Int) (sv cv : Value) (wc : World) : Prop := ∃ p q, sv = .pointer (some ⟨p, 0, none⟩) ∧ cv = .pointer (some ⟨q, 0, none⟩) ∧ wc.heap[p]? = some (.cells #[.int .i64 n] 3 (0, 0)) ∧ wc.heap[q]? = some (.cells #[.int .i64 r] 3 (0, 0)) ∧ Below W.heap.size W wc

theorem two_blocks (w : World) (o1 o2 : Obj) : ((w.alloc o1).alloc o2).heap[w.heap.size]? = some o1 ∧ ((w.alloc o1).alloc o2).heap[w.heap.size + 1]? = some o2 := by
  refine ⟨?_, ?_⟩
  · show ((w.heap.push o1).push o2)[w.heap.size]? = _
    rw [Array.getElem?_push, if_neg (by simp), Array.getElem?_push, if_pos rfl]
  · show ((w.heap.push o1).push o2)[w.heap.size + 1]? = _
    rw [Array.getElem?_push, if_pos (by simp)]

theorem gA {w w1 : World} (hB : Below w.heap.size w w1) (n r : Int) : GotNR w n r (.pointer (some ⟨w1.heap.size, 0, none⟩)) (.pointer (some ⟨w1.heap.size + 1, 0, none⟩)) ((w1.alloc (.cells #[.int .i64 n] 3)).alloc (.cells #[.int .i64 r] 3)) :=
  ⟨_, _, rfl, rfl, (two_blocks w1 _ _).1, (two_blocks w1 _ _).2, btrans hB (btrans (balloc _ _) (balloc _ _))⟩
theorem gB {w w1 : World} (hB : Below w.heap.size w w1) (n r : Int) : GotNR w n r (.pointer (some ⟨w1.heap.size + 1, 0, none⟩)) (.pointer (some ⟨w1.heap.size, 0, none⟩)) ((w1.alloc (.cells #[.int .i64 r] 3)).alloc (.cells #[.int .i64 n] 3)) :=
  ⟨_, _, rfl, rfl, (two_blocks w1 _ _).2, (two_blocks w1 _ _).1, btrans hB (btrans (balloc _ _) (balloc _ _))⟩
theorem set_one {w1 : World} {b : Nat} {x u : Value} {t : TypeId} (h : w1.heap[b]? = some (.cells #[x] t (0, 0))) : (w1.setCell ⟨b, 0, none⟩ u).heap[b]? = some (.cells #[u] t (0, 0)) := by
  have := blk_set (i := 0) (v := u) h
  simpa using this
theorem gC {w w1 : World} {x : Value} (hB : Below w.heap.size w w1) (K : w1.heap[w.heap.size]? = some (.cells #[x] 3 (0, 0))) (n r : Int) : GotNR w n r (.pointer (some ⟨w.heap.size, 0, none⟩)) (.pointer (some ⟨w1.heap.size, 0, none⟩)) ((w1.setCell ⟨w.heap.size, 0, none⟩ (.int .i64 n)).alloc (.cells #[.int .i64 r] 3)) :=
  ⟨_, _, rfl, rfl, keep_blk (balloc _ _) (set_one K), by have := one_block (w1.setCell ⟨w.heap.size, 0, none⟩ (.int .i64 n)) (.cells #[.int .i64 r] 3); simpa using this, btrans (below_set (Nat.le_refl _) hB) (balloc _ _)⟩
theorem gE {w w1 : World} {x : Value} (hB : Below w.heap.size w w1) (K : w1.heap[w.heap.size]? = some (.cells #[x] 3 (0, 0))) (n r : Int) : GotNR w n r (.pointer (some ⟨w1.heap.size, 0, none⟩)) (.pointer (some ⟨w.heap.size, 0, none⟩)) ((w1.setCell ⟨w.heap.size, 0, none⟩ (.int .i64 r)).alloc (.cells #[.int .i64 n] 3)) :=
  ⟨_, _, rfl, rfl, by have := one_block (w1.setCell ⟨w.heap.size, 0, none⟩ (.int .i64 r)) (.cells #[.int .i64 n] 3); simpa using this, keep_blk (balloc _ _) (set_one K), btrans (below_set (Nat.le_refl _) hB) (balloc _ _)⟩
theorem set_far {w1 : World} {b c o : Nat} {u : Value} {x : Obj} (h : w1.heap[b]? = some x) (hne : b ≠ c) : (w1.setCell ⟨c, o, none⟩ u).heap[b]? = some x := (Below.heap_setCell _ _ _ _ hne).trans h
theorem gD {w w1 : World} {x y : Value} (hB : Below w.heap.size w w1) (K : w1.heap[w.heap.size]? = some (.cells #[x] 3 (0, 0))) (K2 : w1.heap[w.heap.size + 1]? = some (.cells #[y] 3 (0, 0))) (n r : Int) : GotNR w n r (.pointer (some ⟨w.heap.size, 0, none⟩)) (.pointer (some ⟨w.heap.size + 1, 0, none⟩)) ((w1.setCell ⟨w.heap.size, 0, none⟩ (.int .i64 n)).setCell ⟨w.heap.size + 1, 0, none⟩ (.int .i64 r)) :=
  ⟨_, _, rfl, rfl, set_far (set_one K) (by omega), set_one (set_far K2 (by omega)), below_set (by omega) (below_set (Nat.le_refl _) hB)⟩
theorem gF {w w1 : World} {x y : Value} (hB : Below w.heap.size w w1) (K : w1.heap[w.heap.size]? = some (.cells #[x] 3 (0, 0))) (K2 : w1.heap[w.heap.size + 1]? = some (.cells #[y] 3 (0, 0))) (n r : Int) : GotNR w n r (.pointer (some ⟨w.heap.size + 1, 0, none⟩)) (.pointer (some ⟨w.heap.size, 0, none⟩)) ((w1.setCell ⟨w.heap.size + 1, 0, none⟩ (.int .i64 n)).setCell ⟨w.heap.size, 0, none⟩ (.int .i64 r)) :=
  ⟨_, _, rfl, rfl, set_far (set_one K2) (by omega), set_one (set_far K (by omega)), below_set (Nat.le_refl _) (below_set (by omega) hB)⟩
/-- The departures, as they lie behind a slice's address. -/
def Drow (w : World) (b off : Nat) (va : Option Addr) (ds : List (Nat × Nat)) : Prop :=
  ds = [] ∨ ∃ gd cur, va = some ⟨gd, 0, none⟩ ∧ w.heap[gd]? = some (.cells cur 115 (0, 0)) ∧ ∀ x, x < ds.length → cur[x * 3]? = some (.pointer (some ⟨b, off + (ds.getD x (0, 0)).1 * 2, none⟩)) ∧ cur[x * 3 + 1]? = some (.int .i64 (ds.getD x (0, 0)).1) ∧ cur[x * 3 + 2]? = some (.int .i64 (ds.getD x (0, 0)).2)
theorem flatD_get (b off : Nat) (ds : List (Nat × Nat)) : ∀ x, x < ds.length → (flatD b off ds)[x * 3]? = some (.pointer (some ⟨b, off + (ds.getD x (0, 0)).1 * 2, none⟩)) ∧ (flatD b off ds)[x * 3 + 1]? = some (.int .i64 (ds.getD x (0, 0)).1) ∧ (flatD b off ds)[x * 3 + 2]? = some (.int .i64 (ds.getD x (0, 0)).2) := by
  induction ds with
  | nil => intro x hx; simp at hx
  | cons d ds ih =>
    intro x hx
    have e : flatD b off (d :: ds) = .pointer (some ⟨b, off + d.1 * 2, none⟩) :: .int .i64 d.1 :: .int .i64 d.2 :: flatD b off ds := rfl
    rw [e]
    cases x with
    | zero => simp
    | succ x =>
      have h := ih x (by simpa using hx)
      have e1 : (x + 1) * 3 = x * 3 + 1 + 1 + 1 := by omega
      rw [e1]
      simpa using h
theorem Drow.of_own {w : World} {B b off c : Nat} {va : Option Addr} {ds : List (Nat × Nat)} (h : w.ownsRow B 115 3 (.slice va ds.length c) ds.length (flatD b off ds)) : Drow w b off va ds := by
  rcases h.2 with ⟨_, h0⟩ | ⟨g, cap', cur, he, _, hh, h1, h2, h3, h4⟩
  · exact .inl (List.length_eq_zero_iff.1 h0)
  · simp only [Value.slice.injEq] at he
    obtain ⟨rfl, -, rfl⟩ := he
    refine .inr ⟨g, cur, rfl, hh, fun x hx => ?_⟩
    have key : ∀ i, i < ds.length * 3 → cur[i]? = (flatD b off ds)[i]? := fun i hi => by
      rw [← h4, List.getElem?_take, if_pos hi]
      simp
    obtain ⟨f0, f1, f2⟩ := flatD_get b off ds x hx
    exact ⟨(key _ (by omega)).trans f0, (key _ (by omega)).trans f1, (key _ (by omega)).trans f2⟩
theorem Drow.kp {w w' : World} {b off : Nat} {va : Option Addr} {ds : List (Nat × Nat)} (h : Drow w b off va ds) (hk : Kp w w') : Drow w' b off va ds := by
  rcases h with h | ⟨gd, cur, h1, h2, h3⟩
  · exact .inl h
  · exact .inr ⟨gd, cur, h1, hk _ _ _ _ h2 (by decide) (by decide), h3⟩
def GoPost (w0 : World) (bs bm : Nat) (lv : Value) (ch : Int) (bks : List Nat) (R : List Rec) (e : Ending) (w' : World) : Prop :=
  e = .returned (.tuple #[]) ∧ ∃ v' bks' D', Stt w' bs bm w0.heap.size lv ch v' bks' R D' ∧ (∃ l, bks' = bks ++ l) ∧ Below w0.heap.size w0 w'
/-- A call in a box of its own. -/
def GotC (W : World) (c : HaltV) (cv : Value) (wc : World) : Prop := ∃ q, cv = .pointer (some ⟨q, 0, none⟩) ∧ wc.heap[q]? = some (.cells #[.int .i64 c.n, .int .i64 c.a, .int .i64 c.d] 33 (0, 0)) ∧ Below W.heap.size W wc
theorem gotC1 {w w1 : World} (hB : Below w.heap.size w w1) (c : HaltV) : GotC w c (.pointer (some ⟨w1.heap.size, 0, none⟩)) (w1.alloc (.cells #[.int .i64 c.n, .int .i64 c.a, .int .i64 c.d] 33)) :=
  ⟨_, rfl, one_block _ _, btrans hB (balloc _ _)⟩
theorem gotC2 {w w1 : World} {x y z : Value} (hB : Below w.heap.size w w1) (K : w1.heap[w.heap.size]? = some (.cells #[x, y, z] 33 (0, 0))) (c : HaltV) :
    GotC w c (.pointer (some ⟨w.heap.size, 0, none⟩)) (((w1.setCell ⟨w.heap.size, 0, none⟩ (.int .i64 c.n)).setCell ⟨w.heap.size, 1, none⟩ (.int .i64 c.a)).setCell ⟨w.heap.size, 2, none⟩ (.int .i64 c.d)) :=
  ⟨_, rfl, by have := blk_set (i := 2) (v := .int .i64 c.d) (blk_set (i := 1) (v := .int .i64 c.a) (blk_set (i := 0) (v := .int .i64 c.n) K)); simpa using this,
    below_set (Nat.le_refl _) (below_set (Nat.le_refl _) (below_set (Nat.le_refl _) hB))⟩
theorem three_cells {w : World} {b : Nat} {c0 c1 c2 : Value} {t : TypeId} (h : w.heap[b]? = some (.cells #[c0, c1, c2] t (0, 0))) :
    w.cell? ⟨b, 0, none⟩ = some c0 ∧ w.cell? ⟨b, 1, none⟩ = some c1 ∧ w.cell? ⟨b, 2, none⟩ = some c2 := ⟨cell_of_blk h rfl, cell_of_blk h rfl, cell_of_blk h rfl⟩
theorem addF_mono (ts : List TripV) (lv par : Nat) (pa : List (Nat × Nat × Nat)) (R : List Rec) (xs ys : List (Nat × Nat × Nat)) : (addF ts lv par pa R xs).length ≤ (addF ts lv par pa R (xs ++ ys)).length := by
  rw [addF_app]
  obtain ⟨N, e, _⟩ := addF_spec ts lv par pa ys (addF ts lv par pa R xs)
  rw [e]; simp
theorem addF_pos (ts : List TripV) (lv par : Nat) (pa : List (Nat × Nat × Nat)) (R : List Rec) (xs : List (Nat × Nat × Nat)) : R.length ≤ (addF ts lv par pa R xs).length := by
  obtain ⟨N, e, _⟩ := addF_spec ts lv par pa xs R
  rw [e]; simp
/-- The legs of the first x departures, and of the next one those up to l. -/
def upTo (ts : List TripV) (ds : List (Nat × Nat)) (x l : Nat) : List (Nat × Nat × Nat) := legsF ts (ds.take x) ++ (legAll ts (ds.getD x (0, 0)).1 (ds.getD x (0, 0)).2).take (l - ((ds.getD x (0, 0)).2 + 1))
theorem upTo_start (ts : List TripV) (ds : List (Nat × Nat)) (x : Nat) : upTo ts ds x ((ds.getD x (0, 0)).2 + 1) = legsF ts (ds.take x) := by simp [upTo]
theorem legAll_len (ts : List TripV) (i k : Nat) : (legAll ts i k).length = ncA ts i - (k + 1) := by simp [legAll]
theorem legAll_get {ts : List TripV} {i k l : Nat} (h1 : k < l) (h2 : l < ncA ts i) : (legAll ts i k)[l - (k + 1)]? = some (i, k, l) := by
  unfold legAll
  rw [List.getElem?_map, List.getElem?_range' (by omega)]
  simp
  omega
theorem upTo_next {ts : List TripV} {ds : List (Nat × Nat)} {x l : Nat} (h1 : (ds.getD x (0, 0)).2 < l) (h2 : l < ncA ts (ds.getD x (0, 0)).1) : upTo ts ds x (l + 1) = upTo ts ds x l ++ [((ds.getD x (0, 0)).1, (ds.getD x (0, 0)).2, l)] := by
  unfold upTo
  have e : l + 1 - ((ds.getD x (0, 0)).2 + 1) = l - ((ds.getD x (0, 0)).2 + 1) + 1 := by omega
  rw [e, List.take_add_one, legAll_get h1 h2, ← List.append_assoc]
  rfl
theorem upTo_end {ts : List TripV} {ds : List (Nat × Nat)} {x : Nat} (hx : x < ds.length) : upTo ts ds x (ncA ts (ds.getD x (0, 0)).1) = legsF ts (ds.take (x + 1)) := by
  have e : ds.getD x (0, 0) = ds[x] := by simp [List.getD, hx]
  have e2 : (legAll ts ds[x].1 ds[x].2).take (ncA ts ds[x].1 - (ds[x].2 + 1)) = legAll ts ds[x].1 ds[x].2 := List.take_of_length_le (by rw [legAll_len]; exact Nat.le_refl _)
  unfold upTo legsF
  rw [e, e2, List.take_succ_eq_append_getElem hx, List.flatMap_append]
  simp
theorem legsF_split {ts : List TripV} {ds : List (Nat × Nat)} {x l : Nat} (hx : x < ds.length) : ∃ ys, legsF ts ds = upTo ts ds x l ++ ys := by
  have e : ds.getD x (0, 0) = ds[x] := by simp [List.getD, hx]
  refine ⟨(legAll ts (ds.getD x (0, 0)).1 (ds.getD x (0, 0)).2).drop (l - ((ds.getD x (0, 0)).2 + 1)) ++ legsF ts (ds.drop (x + 1)), ?_⟩
  unfold upTo
  have h1 : ds = ds.take x ++ (ds.getD x (0, 0) :: ds.drop (x + 1)) := by rw [e, ← List.drop_eq_getElem_cons hx, List.take_append_drop]
  have h2 : legsF ts ds = legsF ts (ds.take x) ++ (legAll ts (ds.getD x (0, 0)).1 (ds.getD x (0, 0)).2 ++ legsF ts (ds.drop (x + 1))) := by
    conv => lhs; rw [h1]
    simp [legsF]
  rw [h2, List.append_assoc]
  congr 1
  rw [← List.append_assoc, List.take_append_drop]

end Go.Proofs.YtajeiiebddnchaaGreatDoor
