/- The program: slices.Repeat of one number, Spread. -/
import Derived.Test.YtgnlcehpajbnoaaCK
import Derived.Deep.RegionHeld3
import Derived.Deep.AppendLies
namespace Go.Proofs.Ytgnlcehpajbnoaa
open Go.RowKit Go.Lib
set_option maxHeartbeats 1600000 in
theorem cMul64 (k : Nat) (h1 : 1 ≤ k) (h2 : k ≤ 11) (w : World) : Calls Try.prog 97 #[.int .u64 1, .int .u64 k] w fun e w' => e = .returned (.tuple #[.int .u64 0, .int .u64 k]) ∧ w' = w := by
  match k, h1, h2 with
  | 1, _, _ =>
    go_enter Try.func97, Try.ntmps97
    go_wp2
    go_ret2
    exact ⟨rfl, rfl⟩
  | 2, _, _ =>
    go_enter Try.func97, Try.ntmps97
    go_wp2
    go_ret2
    exact ⟨rfl, rfl⟩
  | 3, _, _ =>
    go_enter Try.func97, Try.ntmps97
    go_wp2
    go_ret2
    exact ⟨rfl, rfl⟩
  | 4, _, _ =>
    go_enter Try.func97, Try.ntmps97
    go_wp2
    go_ret2
    exact ⟨rfl, rfl⟩
  | 5, _, _ =>
    go_enter Try.func97, Try.ntmps97
    go_wp2
    go_ret2
    exact ⟨rfl, rfl⟩
  | 6, _, _ =>
    go_enter Try.func97, Try.ntmps97
    go_wp2
    go_ret2
    exact ⟨rfl, rfl⟩
  | 7, _, _ =>
    go_enter Try.func97, Try.ntmps97
    go_wp2
    go_ret2
    exact ⟨rfl, rfl⟩
  | 8, _, _ =>
    go_enter Try.func97, Try.ntmps97
    go_wp2
    go_ret2
    exact ⟨rfl, rfl⟩
  | 9, _, _ =>
    go_enter Try.func97, Try.ntmps97
    go_wp2
    go_ret2
    exact ⟨rfl, rfl⟩
  | 10, _, _ =>
    go_enter Try.func97, Try.ntmps97
    go_wp2
    go_ret2
    exact ⟨rfl, rfl⟩
  | 11, _, _ =>
    go_enter Try.func97, Try.ntmps97
    go_wp2
    go_ret2
    exact ⟨rfl, rfl⟩

set_option maxHeartbeats 800000 in
theorem cMul (k : Nat) (h1 : 1 ≤ k) (h2 : k ≤ 11) (w : World) : Calls Try.prog 85 #[.int .u64 1, .int .u64 k] w fun e w' => e = .returned (.tuple #[.int .u64 0, .int .u64 k]) ∧ w' = w := by
  go_enter Try.func85, Try.ntmps85
  go_wp2_with fail
  refine (cMul64 k h1 h2 _).mono ?_
  rintro e w1 ⟨rfl, rfl⟩
  go_wp2
  go_ret2
  exact ⟨rfl, rfl⟩
theorem size_int : (Try.prog.info? 3).map (·.size) = some 1 := by kernel_rfl
/-- n times a number, then others. -/
theorem rep_row (v : Value) (k n m : Nat) (cur : List Value) (hl : cur.length = k) (hn : cur.take n = List.replicate n v) (hm : m ≤ n) (hnm : n + m ≤ k) :
    (cur.take n ++ (cur.take m) ++ cur.drop (n + m)).length = k ∧ (cur.take n ++ (cur.take m) ++ cur.drop (n + m)).take (n + m) = List.replicate (n + m) v := by
  have e : cur.take m = List.replicate m v := by
    have : cur.take m = (cur.take n).take m := by rw [List.take_take, Nat.min_eq_left hm]
    rw [this, hn, List.take_replicate, Nat.min_eq_left hm]
  rw [e, hn]
  constructor
  · simp [hl]; omega
  · rw [List.replicate_append_replicate, List.take_append_of_le_length (by simp), List.take_of_length_le (by simp)]

theorem made_int {w : World} {B g k : Nat} (h : w.ownsRow B 3 1 (.slice (some ⟨g, 0, none⟩) k k) k (madeCells (Value.int .i64 0).cells (k * 1)).toList) : ∃ cur : List Value, w.heap[g]? = some (.cells cur.toArray 3 (0, 0)) ∧ cur.length = k := by
  rcases h.2 with ⟨h0, _⟩ | ⟨g', cap, cur, he, _, hh, _, _, hcs, hx⟩
  · cases h0
  simp only [Value.slice.injEq, Option.some.injEq, Addr.mk.injEq] at he
  obtain ⟨⟨rfl, _⟩, _, rfl⟩ := he
  exact ⟨cur.toList, by simpa using hh, by simp [hcs]⟩
theorem grow_none {w w' : World} (h : w.grownBy w' none) : Below w.heap.size w w' := ⟨h.os, h.tape, h.output, h.size, fun k hk => h.block k hk (fun e => by cases e)⟩
theorem copy_one (w : World) (g ab k : Nat) (v : Int) (cur : List Value) (ty : TypeId) (hr : w.heap[g]? = some (.cells cur.toArray 3 (0, 0))) (hl : cur.length = k) (h1 : 1 ≤ k) (hc : w.cell? ⟨ab, 0, none⟩ = some (.int .i64 v)) :
    (Builtin.copy_ #[30, 30] ty #[.slice (some ⟨g, 0, none⟩) k k, .slice (some ⟨ab, 0, none⟩) 1 1]).run Try.prog w = .ok (goInt (1 : Nat)) (w.setRow g (Value.int .i64 v :: cur.tail).toArray) := by
  have := run_copy_s (P := Try.prog) w 30 3 ty 1 Try.underlying30 size_int g 0 k k ⟨ab, 0, none⟩ 1 1 1 cur.toArray 3 [Value.int .i64 v] hr (Nat.min_eq_left h1) rfl (by simp [hl]; omega)
    (fun j u hj => by
      cases j with
      | zero => simp at hj; subst hj; rw [addN]; exact hc
      | succ j => simp at hj) (by simp [Value.oneCell'])
  rw [this]
  simp
theorem copy_self (w : World) (g n m k : Nat) (cur : List Value) (dc : Nat) (ty : TypeId) {v : Int} (hr : w.heap[g]? = some (.cells cur.toArray 3 (0, 0))) (hl : cur.length = k) (ht : cur.take n = List.replicate n (Value.int .i64 v)) (hm1 : m ≤ n) (hm2 : n + m ≤ k) (hm : m = Nat.min n (k - n)) :
    (Builtin.copy_ #[30, 30] ty #[.slice (some ⟨g, n, none⟩) (k - n) dc, .slice (some ⟨g, 0, none⟩) n k]).run Try.prog w.drew = .ok (goInt (m : Nat)) (w.drew.setRow g (cur.take n ++ cur.take m ++ cur.drop (n + m)).toArray) := by
  have hlm : (cur.take m).length = m := by rw [List.length_take, hl]; omega
  have := run_copy_s (P := Try.prog) w.drew 30 3 ty 1 Try.underlying30 size_int g n (k - n) dc ⟨g, 0, none⟩ n k m cur.toArray 3 (cur.take m) hr hm.symm (by rw [hlm]; omega) (by rw [hlm]; simp [hl]; omega)
    (fun j u hj => by
      rw [List.getElem?_take] at hj
      split at hj
      · rw [addN, Nat.zero_add]
        have hr' : w.drew.heap[g]? = some (.cells cur.toArray 3 (0, 0)) := hr
        simp only [World.cell?, hr']
        rw [List.getElem?_toArray]; exact hj
      · cases hj) (fun u hu => by
        have : u ∈ cur.take n := by rw [show cur.take m = (cur.take n).take m by rw [List.take_take, Nat.min_eq_left hm1]] at hu; exact List.mem_of_mem_take hu
        rw [ht] at this
        rw [List.eq_of_mem_replicate this]; rfl)
  rw [this, hlm]

set_option maxRecDepth 20000 in
set_option maxHeartbeats 3200000 in
theorem cRep (ab : Nat) (v : Int) (k : Nat) (h1 : 1 ≤ k) (h2 : k ≤ 11) (w : World) (hc : w.cell? ⟨ab, 0, none⟩ = some (.int .i64 v)) :
    Calls Try.prog 57 #[.slice (some ⟨ab, 0, none⟩) 1 1, .int .i64 k] w fun e w' => ∃ g, e = .returned (.slice (some ⟨g, 0, none⟩) k k) ∧ w'.heap[g]? = some (.cells (List.replicate k (Value.int .i64 v)).toArray 3 (0, 0)) ∧ w.heap.size ≤ g ∧ Below w.heap.size w w' := by
  obtain ⟨i0, hi, hz0, hz1, hz2⟩ := info_parts infoInts
  have CM := fun V => cMul k h1 h2 V
  have hab := cell_lt hc
  go_enter Try.func57, Try.ntmps57
  go_wp2_with fail
  refine (CM _).mono ?_
  rintro e w1 ⟨rfl, rfl⟩
  clear CM
  have hk63 : ¬ (9223372036854775807 : Int) < (k : Int) := by omega
  go_wp2_with (first
    | (at_make; refine wpList_make_full _ rfl _ _ 30 rfl w1.heap.size 3 i0 (Value.int .i64 0) 1 Try.underlying30 hi hz0 hz1 _ _ _ _ k rfl rfl rfl rfl (by rw [hz2]; omega) (by unfold maxLen; omega) (Nat.le_refl _) ?_; intro w2 hown hgrow; obtain ⟨cur, hrow, hcl⟩ := made_int hown; have hb2 := grow_none hgrow; have hcp := fun ty => copy_one w2 w1.heap.size ab k v cur ty hrow hcl h1 (ble hb2 hc))
    | (at_builtin; refine wpList_copy_run _ rfl _ _ 30 30 rfl _ _ rfl rfl (hcp _) ?_))
  obtain ⟨cur1, hrow1, hl1, ht1⟩ : ∃ cur1 : List Value, (w2.setRow w1.heap.size (Value.int .i64 v :: cur.tail).toArray).heap[w1.heap.size]? = some (.cells cur1.toArray 3 (0, 0)) ∧ cur1.length = k ∧ cur1.take 1 = List.replicate 1 (Value.int .i64 v) := ⟨_, setRow_heap _ _ _ _ _ _ hrow, by simp [hcl]; omega, by simp⟩
  have hb3 : Below w1.heap.size w1 (w2.setRow w1.heap.size (Value.int .i64 v :: cur.tail).toArray) := grow_below' hb2 (grow_row1 _ _ _) (fun k e => by cases e; exact Nat.le_refl _)
  generalize w2.setRow w1.heap.size (Value.int .i64 v :: cur.tail).toArray = V at *
  clear hcp hrow hcl hown hgrow hb2 hc
  go_loopw [8] (fun x wr => ∃ n : Nat, ∃ cur : List Value, x = .int .i64 n ∧ 1 ≤ n ∧ n ≤ k ∧ wr.heap[w1.heap.size]? = some (.cells cur.toArray 3 (0, 0)) ∧ Hid (cur.length = k) ∧ Hid (cur.take n = List.replicate n (Value.int .i64 v)) ∧ Below w1.heap.size w1 wr) (fun x _ => k - (intOf x).toNat)
  case atStart => exact ⟨1, cur1, rfl, Nat.le_refl _, h1, hrow1, hide hl1, hide ht1, hb3⟩
  case round =>
    obtain ⟨n, cu, rfl, n1, n2, hr, hl, ht, hb⟩ := hrel
    clear hrow1 hl1 ht1 hb3
    by_cases hlt : n < k
    · obtain ⟨m, hm, hmn⟩ : ∃ m, m = Nat.min n (k - n) ∧ 1 ≤ m := ⟨_, rfl, by have : Nat.min n (k - n) = min n (k - n) := rfl; omega⟩
      have hm1 : m ≤ n := by rw [hm]; exact Nat.min_le_left _ _
      have hm2 : n + m ≤ k := by have : m ≤ k - n := by rw [hm]; exact Nat.min_le_right _ _
                                 omega
      have hcp := fun ty dc => copy_self wr w1.heap.size n m k cu dc ty hr hl.out ht.out hm1 hm2 hm
      obtain ⟨e1, e2⟩ := rep_row (Value.int .i64 v) k n m cu hl.out ht.out hm1 hm2
      have hr2 := setRow_heap wr.drew w1.heap.size _ (cu.take n ++ cu.take m ++ cu.drop (n + m)).toArray _ _ hr
      have hb2 : Below w1.heap.size w1 (wr.drew.setRow w1.heap.size (cu.take n ++ cu.take m ++ cu.drop (n + m)).toArray) := grow_below' (hb.trans (bdraw (Below.refl _ _) 1)) (grow_row1 _ _ _) (fun k e => by cases e; exact Nat.le_refl _)
      replace e1 := hide e1
      replace e2 := hide e2
      generalize wr.drew.setRow w1.heap.size (cu.take n ++ cu.take m ++ cu.drop (n + m)).toArray = V2 at *
      generalize cu.take n ++ cu.take m ++ cu.drop (n + m) = cu2 at *
      have hkn : ¬ (k = n) := by omega
      have hnk : (n : Int) ≤ (k : Int) := by omega
      have hwnm : IntKind.i64.wrap ((n : Int) + (m : Int)) = (n : Int) + (m : Int) := wrap_in _ (by omega) (by omega)
      clear hm hr ht hl
      go_wp2_with fail
      go_region_held3 (fun _ => True) (trivial) (refine step_copy_run rfl _ _ 30 30 rfl _ _ (by simp [Act.eval]) (by simp [Act.eval]) (hcp _ _) ?_)
      go_wp2
      go_roundw
      case rel => exact ⟨n + m, cu2, by go_num, by omega, by omega, hr2, e1, e2, hb2⟩
      case measure => simp [intOf]; omega
    · obtain rfl : n = k := by omega
      have he : Hid (cu = List.replicate n (Value.int .i64 v)) := hide (by rw [← ht.out, List.take_of_length_le (by rw [hl.out]; exact Nat.le_refl _)])
      rw [he.out] at hr
      clear ht hl he
      go_wp2
      go_ret
      exact ⟨_, rfl, hr, Nat.le_refl _, hb⟩
end Go.Proofs.Ytgnlcehpajbnoaa
