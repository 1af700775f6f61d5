/- The program's journey: the chain of stretches turned round. -/
import Derived.Test.YtpfnnpgielnaeaaSI
namespace Go.Proofs.Ytpfnnpgielnaeaa
open Go.RowKit Go.Maps
/-- A stretch in its block. -/
structure Nd where
  b : Nat
  t : Int
  k : Int
  l : Int
  n : Int
  m : Int
def hdN : List Nd → Option Addr
  | [] => none
  | x :: _ => some ⟨x.b, 0, none⟩
def ndObj (x : Nd) (p : Option Addr) : Obj := .cells #[.int .i64 x.t, .int .i64 x.k, .int .i64 x.l, .int .i64 x.n, .int .i64 x.m, .pointer p] 65 (0, 0)
/-- Each stretch is linked to the one behind it in the list. -/
def Ln (w : World) : List Nd → Prop
  | [] => True
  | x :: r => w.heap[x.b]? = some (ndObj x (hdN r)) ∧ Ln w r
theorem Ln.keep {w w' : World} : ∀ {xs : List Nd}, Ln w xs → (∀ x ∈ xs, w'.heap[x.b]? = w.heap[x.b]?) → Ln w' xs
  | [], _, _ => trivial
  | x :: _, ⟨h1, h2⟩, h => ⟨(h x List.mem_cons_self).trans h1, h2.keep (fun y hy => h y (List.mem_cons_of_mem _ hy))⟩
theorem Ln.lt {w : World} : ∀ {xs : List Nd}, Ln w xs → ∀ x ∈ xs, x.b < w.heap.size
  | [], _, _, h => absurd h (by simp)
  | y :: _, ⟨h1, h2⟩, x, h => by
    rcases List.mem_cons.1 h with rfl | h
    · exact lt_of_block h1
    · exact h2.lt x h
theorem Ln.below {w w' : World} {xs : List Nd} (h : Ln w xs) (hb : Below w.heap.size w w') : Ln w' xs :=
  h.keep (fun x hx => hb.block x.b (h.lt x hx))
/-- How far a stretch is from the list's end. -/
def mea : List Nd → Option Addr → Nat
  | _, none => 0
  | [], some _ => 0
  | x :: r, some a => if a.block = x.b then r.length + 1 else mea r (some a)
theorem mea_drop : ∀ (xs : List Nd) (i : Nat), (xs.map Nd.b).Nodup → mea xs (hdN (xs.drop i)) = (xs.drop i).length
  | [], i, _ => by simp [hdN, mea]
  | x :: r, 0, _ => by simp [hdN, mea]
  | x :: r, i + 1, h => by
    rw [List.map_cons, List.nodup_cons] at h
    have ih := mea_drop r i h.2
    rw [List.drop_succ_cons]
    cases hd : r.drop i with
    | nil => simp [hdN, mea]
    | cons y s =>
      rw [hd] at ih
      have hy : y ∈ r := List.mem_of_mem_drop (by rw [hd]; exact List.mem_cons_self)
      have hne : y.b ≠ x.b := fun e => h.1 (by rw [← e]; exact List.mem_map_of_mem hy)
      have e : hdN (y :: s) = some ⟨y.b, 0, none⟩ := rfl
      rw [e] at ih ⊢
      show (if y.b = x.b then r.length + 1 else mea r (some ⟨y.b, 0, none⟩)) = _
      rw [if_neg hne]
      exact ih
def ptrA : Value → Option Addr
  | .pointer p => p
  | _ => none
theorem drop_at {xs : List Nd} {i : Nat} (h : i < xs.length) : ∃ x, xs.drop i = x :: xs.drop (i + 1) ∧ xs.take (i + 1) = xs.take i ++ [x] :=
  ⟨xs[i], List.drop_eq_getElem_cons h, by rw [List.take_succ_eq_append_getElem h]⟩

set_option maxHeartbeats 1600000 in
theorem cTurned (B : Nat) (xs : List Nd) (w : World) (hL : Ln w xs) (hnd : (xs.map Nd.b).Nodup) (hB : ∀ x ∈ xs, B ≤ x.b) :
    Calls Try.prog 68 #[.pointer (hdN xs)] w fun e w' => e = .returned (.pointer (hdN xs.reverse)) ∧ Ln w' xs.reverse ∧ Below B w w' := by
  have hM := hide (fun i => mea_drop xs i hnd)
  have hN : Hid (∀ i x, xs.drop i = x :: xs.drop (i + 1) → (∀ y ∈ xs.drop (i + 1), y.b ≠ x.b) ∧ (∀ y ∈ xs.take i, y.b ≠ x.b) ∧ B ≤ x.b) := fun i x hx => by
    have hs : xs = xs.take i ++ x :: xs.drop (i + 1) := by rw [← hx, List.take_append_drop]
    rw [hs, List.map_append, List.map_cons] at hnd
    obtain ⟨_, h2, h3⟩ := List.nodup_append.1 hnd
    rw [List.nodup_cons] at h2
    refine ⟨fun y hy e => h2.1 (by rw [← e]; exact List.mem_map_of_mem hy), fun y hy e => ?_, hB x (by rw [hs]; simp)⟩
    exact h3 y.b (List.mem_map_of_mem hy) x.b List.mem_cons_self e
  have hI0 : ∃ i, i ≤ xs.length ∧ Value.pointer (hdN xs) = .pointer (hdN (xs.drop i)) ∧ Value.pointer none = .pointer (hdN (xs.take i).reverse) ∧ Ln w (xs.drop i) ∧ Ln w (xs.take i).reverse ∧ Below B w w := ⟨0, Nat.zero_le _, rfl, rfl, hL, trivial, Below.refl _ _⟩
  have hI := hide hI0
  clear hI0 hL hnd hB
  go_enter Try.func68, Try.ntmps68
  go_wp2
  go_loopw [0, 3] (fun la fi wr => ∃ i, i ≤ xs.length ∧ la = .pointer (hdN (xs.drop i)) ∧ fi = .pointer (hdN (xs.take i).reverse) ∧ Ln wr (xs.drop i) ∧ Ln wr (xs.take i).reverse ∧ Below B w wr) (fun la _ _ => mea xs (ptrA la))
  case atStart => exact hI.out
  case round =>
    clear hI
    obtain ⟨i, hi, rfl, rfl, hX, hY, hb⟩ := hrel
    by_cases hlt : i < xs.length
    · obtain ⟨x, hx, htk⟩ := drop_at hlt
      obtain ⟨n1, n2, n3⟩ := hN.out i x hx
      have hm1 := hM.out i
      have hm2 := hM.out (i + 1)
      have hdl : (xs.drop i).length = (xs.drop (i + 1)).length + 1 := by rw [hx]; rfl
      have hys : (xs.take (i + 1)).reverse = x :: (xs.take i).reverse := by rw [htk]; simp
      rw [hx] at hX hm1
      have hX1 := hX.1
      have hX2 := hX.2
      obtain ⟨-, -, -, -, -, u5⟩ := six_cells (by unfold ndObj at hX1; exact hX1)
      have f5 := frozen_of_blk (i := 5) (by unfold ndObj at hX1; exact hX1)
      have hfin : Hid (Ln (wr.setCell ⟨x.b, 5, none⟩ (.pointer (hdN (xs.take i).reverse))) (xs.drop (i + 1)) ∧ Ln (wr.setCell ⟨x.b, 5, none⟩ (.pointer (hdN (xs.take i).reverse))) (x :: (xs.take i).reverse) ∧ Below B w (wr.setCell ⟨x.b, 5, none⟩ (.pointer (hdN (xs.take i).reverse)))) := by
        refine ⟨hX2.keep (fun y hy => Below.heap_setCell _ _ _ _ (n1 y hy)), ⟨?_, hY.keep (fun y hy => Below.heap_setCell _ _ _ _ (n2 y (List.mem_reverse.1 hy)))⟩, below_set n3 hb⟩
        rw [blk_set (by unfold ndObj at hX1; exact hX1)]
        rfl
      have hend : Hid (∃ j, j ≤ xs.length ∧ Value.pointer (hdN (xs.drop (i + 1))) = .pointer (hdN (xs.drop j)) ∧ Value.pointer (some ⟨x.b, 0, none⟩) = .pointer (hdN (xs.take j).reverse) ∧ Ln (wr.setCell ⟨x.b, 5, none⟩ (.pointer (hdN (xs.take i).reverse))) (xs.drop j) ∧ Ln (wr.setCell ⟨x.b, 5, none⟩ (.pointer (hdN (xs.take i).reverse))) (xs.take j).reverse ∧ Below B w (wr.setCell ⟨x.b, 5, none⟩ (.pointer (hdN (xs.take i).reverse)))) :=
        ⟨i + 1, by omega, rfl, by rw [hys]; rfl, hfin.out.1, by rw [hys]; exact hfin.out.2.1, hfin.out.2.2⟩
      have hmes : Hid (mea xs (hdN (xs.drop (i + 1))) < mea xs (some ⟨x.b, 0, none⟩)) := by
        have e1 : mea xs (some ⟨x.b, 0, none⟩) = (x :: xs.drop (i + 1)).length := hm1
        show _ < _
        rw [hm2, e1]
        simp
      rw [hx]
      have ehd : hdN (x :: xs.drop (i + 1)) = some ⟨x.b, 0, none⟩ := rfl
      rw [ehd]
      have zb := lt_of_block hX1
      generalize hdN (xs.drop (i + 1)) = pr at *
      generalize hdN (xs.take i).reverse = py at *
      clear hfin hX hX1 hX2 hY hb n1 n2 n3 hm1 hm2 hdl hys hx htk ehd hN hM
      go_wp2
      go_roundw
      case rel => exact hend.out
      case measure => exact hmes.out
    · have hdr : xs.drop i = [] := List.drop_eq_nil_of_le (by omega)
      have htk : xs.take i = xs := List.take_of_length_le (by omega)
      rw [htk] at hY ⊢
      rw [hdr]
      have ehd : hdN [] = none := rfl
      rw [ehd]
      clear hX hdr htk hM hN
      go_wp2
      go_ret
      exact ⟨rfl, hY, hb⟩
end Go.Proofs.Ytpfnnpgielnaeaa
