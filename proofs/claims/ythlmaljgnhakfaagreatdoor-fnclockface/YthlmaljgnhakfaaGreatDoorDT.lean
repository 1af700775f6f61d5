/- A drawn name, and a drawn way of a net without edges. -/
import Derived.Test.YthlmaljgnhakfaaGreatDoorDN
import Derived.Test.YthlmaljgnhakfaaGreatDoorJ
import Derived.Test.YthlmaljgnhakfaaGreatDoorP
namespace Go.Proofs.YthlmaljgnhakfaaGreatDoor
open Go.RowKit
theorem dec_ok (x : Nat) (hx : x < 100) : (Lib.decDigits x).all okB = true ∧ 1 ≤ (Lib.decDigits x).length ∧ (Lib.decDigits x).length ≤ 2 := by
  have key : ∀ y : Fin 100, (Lib.decDigits y.val).all okB = true ∧ 1 ≤ (Lib.decDigits y.val).length ∧ (Lib.decDigits y.val).length ≤ 2 := by
    intro y
    have one : ∀ d : Fin 10, okB (UInt8.ofNat (48 + d.val)) = true := by decide
    by_cases h : y.val < 10
    · rw [Lib.decDigits_one h]
      have := one ⟨y.val, h⟩
      simp at this ⊢
      simpa using this
    · rw [Lib.decDigits, dif_neg h, Lib.decDigits_one (by omega)]
      have h1 := one ⟨y.val / 10, by omega⟩
      have h2 := one ⟨y.val % 10, by omega⟩
      simp at h1 h2 ⊢
      exact ⟨h1, h2⟩
  exact key ⟨x, hx⟩

set_option maxHeartbeats 800000 in
theorem cBelow0 (cb : Nat) (w : World) : Calls Tryz.prog 26 #[.pointer (some ⟨cb, 0, none⟩), .int .i64 0] w fun e w' => e = .returned (.int .i64 0) ∧ w' = w := by
  go_enter Tryz.func26, Tryz.ntmps26
  go_wp2
  go_ret
  exact ⟨rfl, rfl⟩

set_option maxHeartbeats 800000 in
theorem cPick (cb cap g : Nat) (a : Option Addr) (zs : List Int) (ss : List ByteArray) (w : World) (hc : Cur w cb a cap zs) (hl : zs.length ≤ 1048576) (h1 : 1 ≤ ss.length) (h2 : ss.length ≤ 256)
    (hs : ∀ i, i < ss.length → w.cell? ⟨g, i, none⟩ = some (.string (ss.getD i ⟨#[]⟩))) (hne : g ≠ cb) :
    Calls Tryz.prog 42 #[.pointer (some ⟨cb, 0, none⟩), .slice (some ⟨g, 0, none⟩) ss.length ss.length] w fun e w' => ∃ r, r < ss.length ∧ e = .returned (.string (ss.getD r ⟨#[]⟩)) ∧ Cur w' cb a cap zs ∧ w.grownBy w' (some cb) := by
  go_enter Tryz.func42, Tryz.ntmps42
  go_wp2_with fail
  refine (cbelow cb cap a zs ss.length _ hc hl (by omega) (by omega)).mono ?_
  rintro e w1 ⟨r, rfl, hr0, hr1, hcur, hgr⟩
  obtain ⟨q, rfl⟩ : ∃ q : Nat, r = q := ⟨r.toNat, by omega⟩
  have hq : q < ss.length := by omega
  have hcell := (World.cell?_of_block (a := ⟨g, q, none⟩) (hgr.block g (cell_lt (hs q hq)) (fun e => hne (by simpa using e)))).trans (hs q hq)
  have hS : Hid (ss.getD q ⟨#[]⟩ = ss.getD q ⟨#[]⟩) := rfl
  generalize hT : ss.getD q ⟨#[]⟩ = s at hcell
  replace hT := hide hT
  clear hs hc hS
  go_wp2
  go_ret
  exact ⟨q, hq, by rw [hT.out]; rfl, hcur, hgr⟩

def texts : List ByteArray := [⟨#[97]⟩, ⟨#[105, 99]⟩, ⟨#[114, 101]⟩, ⟨#[115]⟩, ⟨#[120]⟩]
theorem texts_ok (r : Nat) (h : r < 5) : (texts.getD r ⟨#[]⟩).data.toList.all okB = true ∧ 1 ≤ (texts.getD r ⟨#[]⟩).data.toList.length ∧ (texts.getD r ⟨#[]⟩).data.toList.length ≤ 2 := by
  have key : ∀ y : Fin 5, (texts.getD y.val ⟨#[]⟩).data.toList.all okB = true ∧ 1 ≤ (texts.getD y.val ⟨#[]⟩).data.toList.length ∧ (texts.getD y.val ⟨#[]⟩).data.toList.length ≤ 2 := by decide
  exact key ⟨r, h⟩
theorem name_of (s : ByteArray) (l : List UInt8) (h1 : s.data.toList.all okB = true) (h2 : 1 ≤ s.data.toList.length) (h3 : s.data.toList.length ≤ 2) (g1 : l.all okB = true) (g3 : l.length ≤ 2) : nameB (s ++ ⟨l.toArray⟩) = true := by
  obtain ⟨⟨x⟩⟩ := s
  rw [str_append x l]
  have h2' : 1 ≤ x.length := h2
  have h3' : x.length ≤ 2 := h3
  unfold nameB
  rw [Bool.and_eq_true]
  constructor
  · simpa [g1] using h1
  · refine inB_yes ?_ ?_ <;> simp [ByteArray.size] <;> omega

set_option maxRecDepth 100000 in
set_option maxHeartbeats 1600000 in
theorem cDrawName (cb cap : Nat) (a : Option Addr) (zs : List Int) (w : World) (hc : Cur w cb a cap zs) (hl : zs.length ≤ 1048576) (hcb : cb < w.heap.size) :
    Calls Tryz.prog 25 #[.pointer (some ⟨cb, 0, none⟩)] w fun e w' => ∃ s, e = .returned (.string s) ∧ (nameB s = true ∧ s.size ≤ 4) ∧ Cur w' cb a cap zs ∧ w.grownBy w' (some cb) := by
  have hb := balloc w (.cells #[.string ⟨#[97]⟩, .string ⟨#[105, 99]⟩, .string ⟨#[114, 101]⟩, .string ⟨#[115]⟩, .string ⟨#[120]⟩] 9)
  have hN := one_block w (.cells #[.string ⟨#[97]⟩, .string ⟨#[105, 99]⟩, .string ⟨#[114, 101]⟩, .string ⟨#[115]⟩, .string ⟨#[120]⟩] 9)
  have hs : ∀ i, i < texts.length → (w.alloc (.cells #[.string ⟨#[97]⟩, .string ⟨#[105, 99]⟩, .string ⟨#[114, 101]⟩, .string ⟨#[115]⟩, .string ⟨#[120]⟩] 9)).cell? ⟨w.heap.size, i, none⟩ = some (.string (texts.getD i ⟨#[]⟩)) := by
    intro i hi
    match i, hi with
    | 0, _ => exact Go.Joins.cell_of_block hN 0
    | 1, _ => exact Go.Joins.cell_of_block hN 1
    | 2, _ => exact Go.Joins.cell_of_block hN 2
    | 3, _ => exact Go.Joins.cell_of_block hN 3
    | 4, _ => exact Go.Joins.cell_of_block hN 4
  have CP := cPick cb cap w.heap.size a zs texts _ (hc.below hb) hl (by decide) (by decide) hs (by omega)
  change Calls Tryz.prog 42 #[.pointer (some ⟨cb, 0, none⟩), .slice (some ⟨w.heap.size, 0, none⟩) 5 5] _ _ at CP
  clear hs hN
  go_enter Tryz.func25, Tryz.ntmps25
  go_wp2_with fail
  refine CP.mono ?_
  rintro e w1 ⟨r, hr, rfl, hc1, hg1⟩
  obtain ⟨t1, t2, t3⟩ := texts_ok r hr
  have G1 := gtrans (gofr (some cb) hb) hg1
  generalize texts.getD r ⟨#[]⟩ = t at *
  clear CP hb hg1 hc
  go_wp2_with fail
  refine (cbelow cb cap a zs 90 _ hc1 hl (by omega) (by omega)).mono ?_
  rintro e w2 ⟨q, rfl, hq0, hq1, hc2, hg2⟩
  have G2 := gtrans G1 hg2
  obtain ⟨x, rfl⟩ : ∃ x : Nat, q = x := ⟨q.toNat, by omega⟩
  obtain ⟨d1, d2, d3⟩ := dec_ok x (by omega)
  clear hg2 G1 hc1
  go_wp2_with fail
  refine (cNum x _ (by omega)).mono ?_
  rintro e w3 ⟨rfl, hb3⟩
  have hnm := hide (name_of t (Lib.decDigits x) t1 t2 t3 d1 d3)
  generalize Lib.decDigits x = l at *
  have hc3 := hc2.below hb3
  have G3 := gtrans G2 (gofr (some cb) hb3)
  have ht : t.size ≤ 2 := by rw [← size_list]; exact t3
  have htl : t.size + l.length ≤ 4 := by omega
  have hsz4 := hide (show (t ++ ⟨l.toArray⟩ : ByteArray).size ≤ 4 by rw [ByteArray.size_append]; show t.size + l.toArray.size ≤ 4; simpa using htl)
  clear hb3 G2 hc2
  go_wp2
  go_ret
  exact ⟨t ++ ⟨l.toArray⟩, rfl, ⟨hnm.out, hsz4.out⟩, hc3, G3⟩

set_option maxHeartbeats 1600000 in
theorem cDrawWay (cb : Nat) (at_ : Int) (w : World) :
    Calls Tryz.prog 27 #[.pointer (some ⟨cb, 0, none⟩), .agg #[.int .i64 6, .slice none 0 0], .int .i64 at_, .int .i64 1] w fun e w' => (∃ v c, e = .returned (.slice v 0 c)) ∧ Below w.heap.size w w' := by
  have hb := btrans (balloc w (.cells #[.int .i64 6, .slice none 0 0] 43)) (balloc _ (.cells #[] 3))
  have A0 := blk_keep (balloc _ (.cells #[] 3)) (one_block w (.cells #[.int .i64 6, .slice none 0 0] 43))
  go_enter Tryz.func27, Tryz.ntmps27
  go_wp2
  obtain ⟨⟨x0, x1⟩, -⟩ := blk2 A0
  generalize ((w.alloc (.cells #[.int .i64 6, .slice none 0 0] 43)).alloc (.cells #[] 3)) = W at *
  clear A0
  go_loopw [9, 11, 12, 13] (fun v i _ _ wr => ∃ k : Nat, k ≤ 1 ∧ i = .int .i64 k ∧ v = .slice (some ⟨w.heap.size + 1, 0, none⟩) 0 0 ∧ wr = W) (fun _ i _ _ _ => 1 - (intOf i).toNat)
  case atStart => exact ⟨0, by omega, rfl, rfl, rfl⟩
  case round =>
    obtain ⟨k, hk, rfl, rfl, hw⟩ := hrel
    subst wr
    by_cases h0 : k = 0
    · subst h0
      go_wp2_with fail
      refine (cBelow0 cb _).mono ?_
      rintro e w1 ⟨rfl, hw⟩
      subst w1
      go_wp2
      go_loopw [9, 13] (fun v i wr => v = .slice (some ⟨w.heap.size + 1, 0, none⟩) 0 0 ∧ i = .int .i64 0 ∧ wr = W) (fun _ _ _ => 0)
      case atStart => exact ⟨rfl, rfl, rfl⟩
      case round =>
        obtain ⟨rfl, rfl, hw⟩ := hrel
        subst wr
        go_wp2
        go_roundw
        case rel => exact ⟨1, by omega, by go_num, by trivial⟩
        case measure => simp [intOf]
    · obtain rfl : k = 1 := by omega
      go_wp2
      go_ret
      exact ⟨⟨_, _, rfl⟩, hb⟩
end Go.Proofs.YthlmaljgnhakfaaGreatDoor
