/- The text of a formation: the program's. -/
import Derived.Test.YtnddhpdhbmbikaaDoorTT
import Derived.Test.YtnddhpdhbmbikaaDoorCC
import Derived.Deep.RegionHeld3
import Derived.Deep.AppendLies
namespace Go.Proofs.YtnddhpdhbmbikaaDoor
open Go.RowKit
/-- What is told of a unit. -/
def unitL (u : UV) : List UInt8 := UInt8.ofNat (64 + u.c.toNat) :: (Lib.decDigits u.i.toNat ++ (47 :: (Lib.decDigits u.m.toNat ++ [if u.b then 60 else 62])))
theorem unitL_le {u : UV} (h : uOk u = true) : (unitL u).length ≤ 30 := by
  simp only [uOk, inB, Bool.and_eq_true, decide_eq_true_eq] at h
  have e1 := dec_le u.i.toNat (by omega)
  have e2 := dec_le u.m.toNat (by omega)
  simp [unitL]; omega
def joinL : List UV → List UInt8
  | [] => []
  | u :: us => unitL u ++ us.flatMap (fun v => 43 :: unitL v)
theorem joinL_snoc (l : List UV) (u : UV) (h : l ≠ []) : joinL (l ++ [u]) = joinL l ++ (43 :: unitL u) := by
  cases l with
  | nil => exact absurd rfl h
  | cons v l => simp [joinL]
def stockL (l : List UV) : List UInt8 := if formB l then (if l = [] then [45] else (if (joinL l).length ≤ 120 then joinL l else [])) else []
theorem stock_no {l : List UV} (h : formB l = false) : stockL l = [] := by simp [stockL, h]
theorem stock_nil : stockL [] = [45] := by decide
theorem stock_yes {l : List UV} (h : formB l = true) (h0 : l ≠ []) (hl : (joinL l).length ≤ 120) : stockL l = joinL l := by simp [stockL, h, h0, hl]
theorem stock_long {l : List UV} (h : formB l = true) (h0 : l ≠ []) (hl : 120 < (joinL l).length) : stockL l = [] := by
  have : ¬ (joinL l).length ≤ 120 := by omega
  simp [stockL, h, h0, this]
theorem flat_le (l : List UV) (h : ∀ u, u ∈ l → uOk u = true) : (l.flatMap (fun v => 43 :: unitL v)).length ≤ 31 * l.length := by
  induction l with
  | nil => simp
  | cons u l ih =>
    have h1 := ih (fun v hv => h v (List.mem_cons_of_mem _ hv))
    have h2 := unitL_le (h u List.mem_cons_self)
    rw [List.flatMap_cons, List.length_append, List.length_cons, List.length_cons]; omega
theorem joinL_le {l : List UV} (h : ∀ u, u ∈ l → uOk u = true) : (joinL l).length ≤ 31 * l.length := by
  cases l with
  | nil => simp [joinL]
  | cons u l =>
    have h1 := flat_le l (fun v hv => h v (List.mem_cons_of_mem _ hv))
    have h2 := unitL_le (h u List.mem_cons_self)
    rw [joinL, List.length_append, List.length_cons]; omega
theorem joinL_take_le {l : List UV} (h : formB l = true) (k : Nat) : (joinL (l.take k)).length ≤ 1000 := by
  obtain ⟨h1, h2, -⟩ := form_mem.1 h
  have := joinL_le (l := l.take k) (fun u hu => h2 u (List.mem_of_mem_take hu))
  have hl : (l.take k).length ≤ 30 := by rw [List.length_take]; omega
  omega
theorem form_u {l : List UV} (h : formB l = true) {k : Nat} (hk : k < l.length) : uOk (l.getD k UV.zero) = true := ((formB_iff.1 h).2 k hk).1
theorem letter_of (k : Nat) (hk : k < 9) : (⟨#[65, 66, 67, 68, 69, 70, 71, 72, 73]⟩ : ByteArray).extract k (k + 1) = ⟨[UInt8.ofNat (64 + (k + 1))].toArray⟩ := by
  match k, hk with
  | 0, _ => rfl
  | 1, _ => rfl
  | 2, _ => rfl
  | 3, _ => rfl
  | 4, _ => rfl
  | 5, _ => rfl
  | 6, _ => rfl
  | 7, _ => rfl
  | 8, _ => rfl
theorem text4 (p : UInt8) (a b : List UInt8) (q : UInt8) : ((((⟨[p].toArray⟩ : ByteArray) ++ ⟨a.toArray⟩) ++ ⟨#[47]⟩) ++ ⟨b.toArray⟩) ++ ⟨#[q]⟩ = ⟨(p :: (a ++ (47 :: (b ++ [q])))).toArray⟩ := by
  rw [show (⟨#[47]⟩ : ByteArray) = ⟨[47].toArray⟩ from rfl, show (⟨#[q]⟩ : ByteArray) = ⟨[q].toArray⟩ from rfl, str_append, str_append, str_append, str_append]
  simp

set_option maxRecDepth 100000 in
set_option maxHeartbeats 3200000 in
theorem cText (u : UV) (w : World) (ht : Tab w) (hu : uOk u = true) :
    Calls Tryd.prog 33 #[u.val] w fun e w' => e = .returned (S (unitL u)) ∧ Below w.heap.size w w' := by
  obtain ⟨i, c, m, bk⟩ := u
  simp only [uOk, inB, Bool.and_eq_true, decide_eq_true_eq] at hu
  obtain ⟨⟨⟨i0, i1⟩, c0, c1⟩, m0, m1⟩ := hu
  obtain ⟨x, rfl⟩ : ∃ x : Nat, i = x := ⟨i.toNat, by omega⟩
  obtain ⟨y, rfl⟩ : ∃ y : Nat, m = y := ⟨m.toNat, by omega⟩
  obtain ⟨k, rfl⟩ : ∃ k : Nat, c = (k : Int) + 1 := ⟨(c - 1).toNat, by omega⟩
  have E : Hid (unitL ⟨x, (k : Int) + 1, y, bk⟩ = UInt8.ofNat (64 + (k + 1)) :: (Lib.decDigits x ++ (47 :: (Lib.decDigits y ++ [if bk then 60 else 62])))) := hide (by
    have e1 : ((k : Int) + 1).toNat = k + 1 := by omega
    simp [unitL, e1])
  unfold UV.val
  dsimp only
  have hb := balloc w (.cells #[.int .i64 x, .int .i64 ((k : Int) + 1), .int .i64 y, .bool bk] 34)
  have A0 := one_block' w (.cells #[.int .i64 x, .int .i64 ((k : Int) + 1), .int .i64 y, .bool bk] 34)
  have CI := fun w ht => cItoa x w ht (by omega)
  have CJ := fun w ht => cItoa y w ht (by omega)
  have l1 := dec_le x (by omega)
  have l2 := dec_le y (by omega)
  have k9 : k < 9 := by omega
  have LO := letter_of k k9
  generalize unitL ⟨x, (k : Int) + 1, y, bk⟩ = R at *
  generalize Lib.decDigits x = A at *
  generalize Lib.decDigits y = B at *
  generalize UInt8.ofNat (64 + (k + 1)) = pp at *
  have U62 : Utf8.encode 62 = ⟨#[62]⟩ := by rfl
  have U60 : Utf8.encode 60 = ⟨#[60]⟩ := by rfl
  have w1 : IntKind.i64.wrap (k : Int) = (k : Int) := wrap_in _ (by omega) (by omega)
  have k1 : (k : Int) ≤ (k : Int) + 1 := by omega
  have k2 : (k : Int) + 1 ≤ 9 := by omega
  have k3 : (0 : Int) ≤ (k : Int) + 1 := by omega
  have k4 : ((k : Int) + 1).toNat = k + 1 := by omega
  cases bk
  · go_enter Tryd.func33, Tryd.ntmps33
    go_wp2_with fail
    have x0 : (w.alloc (.cells #[.int .i64 x, .int .i64 ((k : Int) + 1), .int .i64 y, .bool false] 34)).cell? ⟨w.heap.size, 0, none⟩ = some (.int .i64 x) := blk_cell A0 0
    have x1 : (w.alloc (.cells #[.int .i64 x, .int .i64 ((k : Int) + 1), .int .i64 y, .bool false] 34)).cell? ⟨w.heap.size, 1, none⟩ = some (.int .i64 ((k : Int) + 1)) := blk_cell A0 1
    have x2 : (w.alloc (.cells #[.int .i64 x, .int .i64 ((k : Int) + 1), .int .i64 y, .bool false] 34)).cell? ⟨w.heap.size, 2, none⟩ = some (.int .i64 y) := blk_cell A0 2
    clear A0
    generalize (w.alloc (.cells #[.int .i64 x, .int .i64 ((k : Int) + 1), .int .i64 y, .bool false] 34)) = V at *
    have htV := ht.below hb
    have htd : Tab V.drew := htV.below (bdraw (Below.refl _ _) 1)
    have n1 : ¬ 9223372036854775807 < 1 + A.length := by omega
    have n2 : ¬ 9223372036854775807 < 1 + A.length + 1 := by omega
    have n3 : ¬ 9223372036854775807 < 1 + A.length + 1 + B.length := by omega
    have n4 : ¬ 9223372036854775807 < 1 + A.length + 1 + B.length + 1 := by omega
    go_region_held3 (fun w' => w'.cell? ⟨w.heap.size, 0, none⟩ = some (.int .i64 x) ∧ w'.cell? ⟨w.heap.size, 1, none⟩ = some (.int .i64 ((k : Int) + 1)) ∧ w'.cell? ⟨w.heap.size, 2, none⟩ = some (.int .i64 y)) (go_keep) (first
      | (go_at_call 47; with_reducible refine (CJ _ (htV.below Ba)).mono ?_; rintro e wb ⟨rfl, hbb⟩; have Bb := btrans Ba hbb; have z0 := ble Bb x0; have z1 := ble Bb x1; have z2 := ble Bb x2)
      | (go_at_call 47; with_reducible refine (CI _ htd).mono ?_; rintro e wa ⟨rfl, hba⟩; have Ba := undrew hba; have y0 := ble Ba x0; have y1 := ble Ba x1; have y2 := ble Ba x2))
    go_wp2
    go_ret
    exact ⟨by rw [E.out]; exact congrArg (fun b => Ending.returned (.string b)) (text4 _ A B 62), btrans hb Bb⟩
  · go_enter Tryd.func33, Tryd.ntmps33
    go_wp2_with fail
    have x0 : (w.alloc (.cells #[.int .i64 x, .int .i64 ((k : Int) + 1), .int .i64 y, .bool true] 34)).cell? ⟨w.heap.size, 0, none⟩ = some (.int .i64 x) := blk_cell A0 0
    have x1 : (w.alloc (.cells #[.int .i64 x, .int .i64 ((k : Int) + 1), .int .i64 y, .bool true] 34)).cell? ⟨w.heap.size, 1, none⟩ = some (.int .i64 ((k : Int) + 1)) := blk_cell A0 1
    have x2 : (w.alloc (.cells #[.int .i64 x, .int .i64 ((k : Int) + 1), .int .i64 y, .bool true] 34)).cell? ⟨w.heap.size, 2, none⟩ = some (.int .i64 y) := blk_cell A0 2
    clear A0
    generalize (w.alloc (.cells #[.int .i64 x, .int .i64 ((k : Int) + 1), .int .i64 y, .bool true] 34)) = V at *
    have htV := ht.below hb
    have htd : Tab V.drew := htV.below (bdraw (Below.refl _ _) 1)
    have n1 : ¬ 9223372036854775807 < 1 + A.length := by omega
    have n2 : ¬ 9223372036854775807 < 1 + A.length + 1 := by omega
    have n3 : ¬ 9223372036854775807 < 1 + A.length + 1 + B.length := by omega
    have n4 : ¬ 9223372036854775807 < 1 + A.length + 1 + B.length + 1 := by omega
    go_region_held3 (fun w' => w'.cell? ⟨w.heap.size, 0, none⟩ = some (.int .i64 x) ∧ w'.cell? ⟨w.heap.size, 1, none⟩ = some (.int .i64 ((k : Int) + 1)) ∧ w'.cell? ⟨w.heap.size, 2, none⟩ = some (.int .i64 y)) (go_keep) (first
      | (go_at_call 47; with_reducible refine (CJ _ (htV.below Ba)).mono ?_; rintro e wb ⟨rfl, hbb⟩; have Bb := btrans Ba hbb; have z0 := ble Bb x0; have z1 := ble Bb x1; have z2 := ble Bb x2)
      | (go_at_call 47; with_reducible refine (CI _ htd).mono ?_; rintro e wa ⟨rfl, hba⟩; have Ba := undrew hba; have y0 := ble Ba x0; have y1 := ble Ba x1; have y2 := ble Ba x2))
    go_wp2
    go_ret
    exact ⟨by rw [E.out]; exact congrArg (fun b => Ending.returned (.string b)) (text4 _ A B 60), btrans hb Bb⟩
end Go.Proofs.YtnddhpdhbmbikaaDoor
