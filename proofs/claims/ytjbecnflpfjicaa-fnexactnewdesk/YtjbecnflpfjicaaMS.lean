/- The mathematics of sidings: right ones, a shunt, its code, shunts one after the other. -/
import Derived.Test.YtjbecnflpfjicaaMH
import Derived.Test.YtjbecnflpfjicaaSL
namespace Go.Proofs.Ytjbecnflpfjicaa
open Go.RowKit

def rwA (rows : List (List Int)) (i : Nat) : List Int := rows.getD i []
def rowB (r : Int) (xs : List Int) : Bool := inB r 1 40 && (decide ((xs.length : Int) ≤ r) && xs.all wagB)
structure SidP (room : List Int) (rows : List (List Int)) : Prop where
  n1 : 1 ≤ rows.length
  n6 : rows.length ≤ 6
  len : room.length = rows.length
  row : ∀ i, i < rows.length → rowB (room.getD i 0) (rwA rows i) = true
  nodup : rows.flatten.Nodup
open Classical in
noncomputable def sidB (room : List Int) (rows : List (List Int)) : Bool := decide (SidP room rows)
theorem sidB_iff {room : List Int} {rows : List (List Int)} : sidB room rows = true ↔ SidP room rows := by simp [sidB]
theorem sidB_not {room : List Int} {rows : List (List Int)} (h : ¬ SidP room rows) : sidB room rows = false := by simp [sidB, h]
theorem rowB_iff {r : Int} {xs : List Int} : rowB r xs = true ↔ 1 ≤ r ∧ r ≤ 40 ∧ (xs.length : Int) ≤ r ∧ ∀ x ∈ xs, 1 ≤ x ∧ x ≤ 9999 := by
  simp only [rowB, wagB, inB, Bool.and_eq_true, decide_eq_true_eq, List.all_eq_true]
  constructor
  · rintro ⟨⟨h1, h2⟩, h3, h4⟩; exact ⟨h1, h2, h3, h4⟩
  · rintro ⟨h1, h2, h3, h4⟩; exact ⟨⟨h1, h2⟩, h3, h4⟩
theorem rwA_mem {rows : List (List Int)} {i : Nat} (h : i < rows.length) : rwA rows i ∈ rows := by
  rw [rwA, show rows.getD i [] = rows[i] by simp [List.getD, h]]; exact List.getElem_mem h
theorem SidP.len40 {room : List Int} {rows : List (List Int)} (h : SidP room rows) {i : Nat} (hi : i < rows.length) : (rwA rows i).length ≤ 40 := by
  have := rowB_iff.1 (h.row i hi); omega
/-- What a row's place is given. -/
def setR (rows : List (List Int)) (i : Nat) (x : List Int) : List (List Int) := rows.set i x
theorem setR_len (rows : List (List Int)) (i : Nat) (x : List Int) : (setR rows i x).length = rows.length := by simp [setR]
theorem rwA_set {rows : List (List Int)} {i j : Nat} {x : List Int} (hi : i < rows.length) : rwA (setR rows i x) j = if j = i then x else rwA rows j := by
  unfold rwA setR
  simp only [List.getD, List.getElem?_set]
  by_cases h : i = j
  · subst h; simp [hi]
  · rw [if_neg h, if_neg (fun e => h e.symm)]
theorem rows_ext {r s : List (List Int)} (hl : r.length = s.length) (h : ∀ i, i < r.length → rwA r i = rwA s i) : r = s := by
  refine List.ext_getElem hl fun i h1 h2 => ?_
  have := h i h1
  simp only [rwA, List.getD, List.getElem?_eq_getElem h1, List.getElem?_eq_getElem h2, Option.getD_some] at this
  exact this
theorem set_count (a : Int) : ∀ (rows : List (List Int)) (i : Nat) (x : List Int), i < rows.length → (setR rows i x).flatten.count a + (rwA rows i).count a = rows.flatten.count a + x.count a
  | [], i, x, h => by simp at h
  | r :: rs, 0, x, h => by simp [setR, rwA]; omega
  | r :: rs, i + 1, x, h => by
    have := set_count a rs i x (by simpa using h)
    simp only [setR, rwA, List.getD_eq_getElem?_getD] at *
    simp
    omega
/-- The last m of row f go behind those of row t. -/
def moveR (rows : List (List Int)) (f t m : Nat) : List (List Int) :=
  setR (setR rows t (rwA rows t ++ (rwA rows f).drop ((rwA rows f).length - m))) f ((rwA rows f).take ((rwA rows f).length - m))
theorem moveR_len (rows : List (List Int)) (f t m : Nat) : (moveR rows f t m).length = rows.length := by simp [moveR, setR_len]
theorem moveR_at {rows : List (List Int)} {f t m : Nat} (hf : f < rows.length) (ht : t < rows.length) (j : Nat) :
    rwA (moveR rows f t m) j = if j = f then (rwA rows f).take ((rwA rows f).length - m) else if j = t then rwA rows t ++ (rwA rows f).drop ((rwA rows f).length - m) else rwA rows j := by
  rw [moveR, rwA_set (by rw [setR_len]; exact hf), rwA_set ht]
theorem moveR_perm {rows : List (List Int)} {f t m : Nat} (hf : f < rows.length) (ht : t < rows.length) (hne : f ≠ t) : (moveR rows f t m).flatten.Perm rows.flatten := by
  rw [List.perm_iff_count]
  intro a
  have h1 := set_count a rows t (rwA rows t ++ (rwA rows f).drop ((rwA rows f).length - m)) ht
  have h2 := set_count a (setR rows t (rwA rows t ++ (rwA rows f).drop ((rwA rows f).length - m))) f ((rwA rows f).take ((rwA rows f).length - m)) (by rw [setR_len]; exact hf)
  rw [rwA_set ht, if_neg hne] at h2
  have h3 : ((rwA rows f).take ((rwA rows f).length - m)).count a + ((rwA rows f).drop ((rwA rows f).length - m)).count a = (rwA rows f).count a := by
    rw [← List.count_append, List.take_append_drop]
  rw [List.count_append] at h1
  unfold moveR
  omega
/-- The code of a shunt of right sidings. -/
def codeS (room : List Int) (rows : List (List Int)) (x : ShV) : Int :=
  if inB x.f 0 ((rows.length : Int) - 1) = true ∧ inB x.t 0 ((rows.length : Int) - 1) = true ∧ x.f ≠ x.t ∧ 1 ≤ x.m then
    if ((rwA rows x.f.toNat).length : Int) < x.m then 2
    else if room.getD x.t.toNat 0 < (rwA rows x.t.toNat).length + x.m then 3 else 0
  else 1
/-- What a shunt of right sidings leaves. -/
def leftS (room : List Int) (rows : List (List Int)) (x : ShV) : List (List Int) :=
  if codeS room rows x = 0 then moveR rows x.f.toNat x.t.toNat x.m.toNat else rows
structure DoneS (room : List Int) (rows : List (List Int)) (x : ShV) : Prop where
  f0 : 0 ≤ x.f
  f1 : x.f < rows.length
  t0 : 0 ≤ x.t
  t1 : x.t < rows.length
  ne : x.f ≠ x.t
  m1 : 1 ≤ x.m
  few : x.m ≤ (rwA rows x.f.toNat).length
  full : (rwA rows x.t.toNat).length + x.m ≤ room.getD x.t.toNat 0
theorem code_zero {room : List Int} {rows : List (List Int)} {x : ShV} : codeS room rows x = 0 ↔ DoneS room rows x := by
  unfold codeS
  simp only [inB, decide_eq_true_eq]
  constructor
  · intro h
    split at h
    · rename_i h1
      obtain ⟨⟨a1, a2⟩, ⟨a3, a4⟩, a5, a6⟩ := h1
      split at h
      · omega
      · split at h
        · omega
        · exact ⟨a1, by omega, a3, by omega, a5, a6, by omega, by omega⟩
    · omega
  · intro h
    obtain ⟨h1, h2, h3, h4, h5, h6, h7, h8⟩ := h
    rw [if_pos ⟨⟨h1, by omega⟩, ⟨h3, by omega⟩, h5, h6⟩, if_neg (by omega), if_neg (by omega)]
theorem DoneS.nf {room : List Int} {rows : List (List Int)} {x : ShV} (h : DoneS room rows x) : x.f.toNat < rows.length ∧ x.t.toNat < rows.length ∧ x.f.toNat ≠ x.t.toNat := by
  obtain ⟨h1, h2, h3, h4, h5, h6, h7, h8⟩ := h
  omega
theorem leftS_len {room : List Int} {rows : List (List Int)} {x : ShV} : (leftS room rows x).length = rows.length := by
  unfold leftS; split
  · exact moveR_len ..
  · rfl
theorem leftS_perm {room : List Int} {rows : List (List Int)} {x : ShV} : (leftS room rows x).flatten.Perm rows.flatten := by
  unfold leftS
  split
  · rename_i h
    obtain ⟨h1, h2, h3⟩ := (code_zero.1 h).nf
    exact moveR_perm h1 h2 h3
  · exact List.Perm.refl _
theorem SidP.left {room : List Int} {rows : List (List Int)} (h : SidP room rows) (x : ShV) : SidP room (leftS room rows x) := by
  refine ⟨by rw [leftS_len]; exact h.n1, by rw [leftS_len]; exact h.n6, by rw [leftS_len]; exact h.len, fun i hi => ?_, (leftS_perm.nodup_iff).2 h.nodup⟩
  rw [leftS_len] at hi
  unfold leftS
  split
  · rename_i hc
    have hd := code_zero.1 hc
    obtain ⟨h1, h2, h3⟩ := hd.nf
    have q1 := rowB_iff.1 (h.row _ h1)
    have q2 := rowB_iff.1 (h.row _ h2)
    rw [moveR_at h1 h2]
    split
    · rename_i e
      subst e
      refine rowB_iff.2 ⟨q1.1, q1.2.1, ?_, fun y hy => q1.2.2.2 y (List.mem_of_mem_take hy)⟩
      rw [List.length_take]; omega
    · split
      · rename_i e
        subst e
        refine rowB_iff.2 ⟨q2.1, q2.2.1, ?_, fun y hy => ?_⟩
        · have := hd.full; have := hd.few; have := hd.m1
          rw [List.length_append, List.length_drop]; omega
        · rcases List.mem_append.1 hy with hy | hy
          · exact q2.2.2.2 y hy
          · exact q1.2.2.2 y (List.mem_of_mem_drop hy)
      · exact h.row i hi
  · exact h.row i hi
/-- Shunts one after the other. -/
def playR (room : List Int) (rows : List (List Int)) : List ShV → List (List Int)
  | [] => rows
  | x :: xs => playR room (leftS room rows x) xs
def playC (room : List Int) (rows : List (List Int)) : List ShV → List Int
  | [] => []
  | x :: xs => codeS room rows x :: playC room (leftS room rows x) xs
theorem playR_snoc {room : List Int} (x : ShV) : ∀ {xs : List ShV} {rows : List (List Int)}, playR room rows (xs ++ [x]) = leftS room (playR room rows xs) x
  | [], rows => rfl
  | y :: ys, rows => by rw [List.cons_append, playR, playR_snoc x (xs := ys)]; rfl
theorem playC_snoc {room : List Int} (x : ShV) : ∀ {xs : List ShV} {rows : List (List Int)}, playC room rows (xs ++ [x]) = playC room rows xs ++ [codeS room (playR room rows xs) x]
  | [], rows => rfl
  | y :: ys, rows => by rw [List.cons_append, playC, playC_snoc x (xs := ys)]; rfl
theorem playC_len {room : List Int} : ∀ {xs : List ShV} {rows : List (List Int)}, (playC room rows xs).length = xs.length
  | [], rows => rfl
  | y :: ys, rows => by rw [playC, List.length_cons, playC_len]; rfl
theorem playR_len {room : List Int} : ∀ {xs : List ShV} {rows : List (List Int)}, (playR room rows xs).length = rows.length
  | [], rows => rfl
  | y :: ys, rows => by rw [playR, playR_len, leftS_len]
theorem SidP.play {room : List Int} : ∀ {xs : List ShV} {rows : List (List Int)}, SidP room rows → SidP room (playR room rows xs)
  | [], rows, h => h
  | y :: ys, rows, h => by rw [playR]; exact SidP.play (h.left y)
theorem playR_perm {room : List Int} : ∀ {xs : List ShV} {rows : List (List Int)}, (playR room rows xs).flatten.Perm rows.flatten
  | [], rows => List.Perm.refl _
  | y :: ys, rows => by rw [playR]; exact playR_perm.trans leftS_perm
/-! Undone. -/
def undoS (x : ShV) : ShV := ⟨x.t, x.f, x.m⟩
theorem undo_done {room : List Int} {rows : List (List Int)} {x : ShV} (h : SidP room rows) (hc : codeS room rows x = 0) :
    codeS room (leftS room rows x) (undoS x) = 0 ∧ leftS room (leftS room rows x) (undoS x) = rows ∧ leftS room rows x ≠ rows := by
  have hd := code_zero.1 hc
  obtain ⟨h1, h2, h3⟩ := hd.nf
  have e0 : leftS room rows x = moveR rows x.f.toNat x.t.toNat x.m.toNat := by unfold leftS; rw [if_pos hc]
  have q1 := rowB_iff.1 (h.row _ h1)
  obtain ⟨d1, d2, d3, d4, d5, d6, d7, d8⟩ := hd
  have ef : rwA (leftS room rows x) x.f.toNat = (rwA rows x.f.toNat).take ((rwA rows x.f.toNat).length - x.m.toNat) := by rw [e0, moveR_at h1 h2, if_pos rfl]
  have et : rwA (leftS room rows x) x.t.toNat = rwA rows x.t.toNat ++ (rwA rows x.f.toNat).drop ((rwA rows x.f.toNat).length - x.m.toNat) := by rw [e0, moveR_at h1 h2, if_neg (fun e => h3 e.symm), if_pos rfl]
  have lt : (rwA (leftS room rows x) x.t.toNat).length = (rwA rows x.t.toNat).length + x.m.toNat := by rw [et, List.length_append, List.length_drop]; omega
  have lf : (rwA (leftS room rows x) x.f.toNat).length = (rwA rows x.f.toNat).length - x.m.toNat := by rw [ef, List.length_take]; omega
  have c0 : codeS room (leftS room rows x) (undoS x) = 0 := by
    rw [code_zero]
    refine ⟨d3, by rw [leftS_len]; exact d4, d1, by rw [leftS_len]; exact d2, fun e => d5 e.symm, d6, ?_, ?_⟩
    · show x.m ≤ ((rwA (leftS room rows x) x.t.toNat).length : Int)
      rw [lt]; omega
    · show ((rwA (leftS room rows x) x.f.toNat).length : Int) + x.m ≤ room.getD x.f.toNat 0
      rw [lf]; omega
  refine ⟨c0, ?_, fun e => ?_⟩
  · refine rows_ext (by rw [leftS_len, leftS_len]) fun i hi => ?_
    have gen : ∀ (r : List (List Int)) (y : ShV), codeS room r y = 0 → leftS room r y = moveR r y.f.toNat y.t.toNat y.m.toNat := fun r y hy => by unfold leftS; rw [if_pos hy]
    have eu : leftS room (leftS room rows x) (undoS x) = moveR (leftS room rows x) x.t.toNat x.f.toNat x.m.toNat := gen _ _ c0
    rw [eu, moveR_at (by rw [leftS_len]; exact h2) (by rw [leftS_len]; exact h1), lt, ef, et]
    have hk : (rwA rows x.t.toNat).length + x.m.toNat - x.m.toNat = (rwA rows x.t.toNat).length := by omega
    rw [hk]
    split
    · rename_i e; subst e; rw [List.take_left]
    · split
      · rename_i e; subst e; rw [List.drop_left, List.take_append_drop]
      · rename_i n1 n2
        rw [e0, moveR_at h1 h2, if_neg n2, if_neg n1]
  · rw [e] at lf; omega
/-! What is said of all rows together. -/
theorem flat_len {rows : List (List Int)} : rows.flatten.length = (rows.map List.length).sum := by simp [List.length_flatten]
/-- In how many of the first rows a wagon is. -/
def inRows (rows : List (List Int)) (a : Int) : Nat := rows.countP (fun r => decide (a ∈ r))
theorem inRows_one (a : Int) : ∀ {rows : List (List Int)}, rows.flatten.Nodup → a ∈ rows.flatten → inRows rows a = 1
  | [], _, h => by simp at h
  | r :: rs, hn, h => by
    rw [List.flatten_cons, List.nodup_append] at hn
    obtain ⟨h1, h2, h3⟩ := hn
    unfold inRows
    rw [List.countP_cons]
    by_cases ha : a ∈ r
    · have : rs.countP (fun r => decide (a ∈ r)) = 0 := by
        rw [List.countP_eq_zero]
        intro q hq
        simp only [decide_eq_true_eq]
        intro hqa
        exact h3 a ha a (List.mem_flatten.2 ⟨q, hq, hqa⟩) rfl
      rw [this]; simp [ha]
    · have hm : a ∈ rs.flatten := by
        rw [List.flatten_cons] at h
        rcases List.mem_append.1 h with h | h
        · exact absurd h ha
        · exact h
      have := inRows_one a h2 hm
      unfold inRows at this
      rw [this]; simp [ha]
end Go.Proofs.Ytjbecnflpfjicaa
