/- One telegram: measured, copied, compared, marked; right telegrams of the program and of the model. -/
import Derived.Test.YtgnohomplehacaaMC
namespace Go.Proofs.Ytgnohomplehacaa
open Go.RowKit
structure TelV where
  q : Int
  k : Int
  b : List Int
def TelV.zero : TelV := ⟨0, 0, []⟩
def TelV.val (t : TelV) (v : Value) : Value := .agg #[.int .i64 t.q, .int .i64 t.k, v]
theorem own_base {w : World} {base base' e sz n : Nat} {v : Value} {xs : List Value} (h : w.ownsRow base e sz v n xs) (hb : base' ≤ base) : w.ownsRow base' e sz v n xs := by
  obtain ⟨h1, h2⟩ := h
  refine ⟨h1, ?_⟩
  rcases h2 with h2 | ⟨g, cap, cur, hv, hg, r⟩
  · exact .inl h2
  · exact .inr ⟨g, cap, cur, hv, by omega, r⟩
theorem three_blocks (w : World) (o1 o2 o3 : Obj) : (((w.alloc o1).alloc o2).alloc o3).heap[w.heap.size]? = some o1 ∧ (((w.alloc o1).alloc o2).alloc o3).heap[w.heap.size + 1]? = some o2 ∧ (((w.alloc o1).alloc o2).alloc o3).heap[w.heap.size + 1 + 1]? = some o3 := by
  refine ⟨?_, ?_, ?_⟩
  · show (((w.heap.push o1).push o2).push o3)[w.heap.size]? = _
    simp [Array.getElem?_push]; omega
  · show (((w.heap.push o1).push o2).push o3)[w.heap.size + 1]? = _
    rw [Array.getElem?_push, if_neg (by simp), Array.getElem?_push, if_pos (by simp)]
  · show (((w.heap.push o1).push o2).push o3)[w.heap.size + 1 + 1]? = _
    rw [Array.getElem?_push, if_pos (by simp)]
theorem below3 (w : World) (o1 o2 o3 : Obj) : Below w.heap.size w (((w.alloc o1).alloc o2).alloc o3) := btrans (btrans (balloc _ _) (balloc _ _)) (balloc _ _)
theorem size3 (w : World) (o1 o2 o3 : Obj) : (((w.alloc o1).alloc o2).alloc o3).heap.size = w.heap.size + 1 + 1 + 1 := by simp
theorem blk_keep {w w1 : World} (h : Below w.heap.size w w1) {g : Nat} {o : Obj} (hg : w.heap[g]? = some o) : w1.heap[g]? = some o := (h.block g (lt_of_block hg)).trans hg
theorem blk3 {w : World} {g : Nat} {c0 c1 c2 : Value} {t : TypeId} (h : w.heap[g]? = some (.cells #[c0, c1, c2] t (0, 0))) :
    (w.cell? ⟨g, 0, none⟩ = some c0 ∧ w.cell? ⟨g, 1, none⟩ = some c1 ∧ w.cell? ⟨g, 2, none⟩ = some c2) ∧ (w.frozen? ⟨g, 0, none⟩ = false ∧ w.frozen? ⟨g, 1, none⟩ = false ∧ w.frozen? ⟨g, 2, none⟩ = false) :=
  ⟨⟨Go.Joins.cell_of_block h 0, Go.Joins.cell_of_block h 1, Go.Joins.cell_of_block h 2⟩, ⟨Go.Joins.unfrozen_of_block h 0, Go.Joins.unfrozen_of_block h 1, Go.Joins.unfrozen_of_block h 2⟩⟩
theorem blk_set {w : World} {g i : Nat} {cs : Array Value} {t : TypeId} {f : Nat × Nat} {v : Value} (h : w.heap[g]? = some (.cells cs t f)) : (w.setCell ⟨g, i, none⟩ v).heap[g]? = some (.cells (cs.setIfInBounds i v) t f) := by
  have hl := lt_of_block h
  have h' : w.heap[g] = .cells cs t f := by rw [Array.getElem?_eq_getElem hl] at h; exact Option.some.inj h
  simp [World.setCell, hl, Array.getElem_modify, h']
theorem blk_other {w : World} {g b i : Nat} {o : Obj} {v : Value} (h : w.heap[g]? = some o) (hne : g ≠ b) : (w.setCell ⟨b, i, none⟩ v).heap[g]? = some o := (Below.heap_setCell _ _ _ _ hne).trans h
set_option maxHeartbeats 800000 in
theorem cSzBys (a : Option Addr) (n cap : Nat) (left : Int) (w : World) (h0 : 0 ≤ left) (h1 : left ≤ 1048576) (hn : n ≤ maxLen) :
    Calls Try.prog 58 #[.slice a n cap, .int .i64 left] w fun e w' => ∃ r, e = .returned (.int .i64 r) ∧ (r = -1 ∨ (r = left - n ∧ 0 ≤ r)) ∧ w' = w := by
  unfold maxLen at hn
  by_cases hl : left - n < 0
  · go_enter Try.func58, Try.ntmps58
    go_wp2
    go_ret
    exact ⟨_, rfl, .inl rfl, rfl⟩
  · go_enter Try.func58, Try.ntmps58
    go_wp2
    go_ret
    exact ⟨_, rfl, .inr ⟨rfl, by omega⟩, rfl⟩
set_option maxHeartbeats 800000 in
theorem cSzTel (q k : Int) (a : Option Addr) (n cap : Nat) (left : Int) (w : World) (h0 : 0 ≤ left) (h1 : left ≤ 1048576) (hn : n ≤ maxLen) :
    Calls Try.prog 27 #[.agg #[.int .i64 q, .int .i64 k, .slice a n cap], .int .i64 left] w fun e w' => ∃ r, e = .returned (.int .i64 r) ∧ (r = -1 ∨ (r = left - n ∧ 0 ≤ r)) ∧ Below w.heap.size w w' := by
  have hb := balloc w (.cells #[.int .i64 q, .int .i64 k, .slice a n cap] 41)
  go_enter Try.func27, Try.ntmps27
  go_wp2_with fail
  refine (cSzBys a n cap left _ h0 h1 hn).mono ?_
  rintro e w1 ⟨r, rfl, hr, hw⟩
  subst w1
  rcases hr with rfl | ⟨hr, hr0⟩
  · go_wp2
    go_ret
    exact ⟨-1, rfl, .inl rfl, hb⟩
  · replace hr := hide hr
    have hr0' : ¬ (r < 0) := by omega
    go_wp2
    go_ret
    exact ⟨r, rfl, .inr ⟨hr.out, hr0⟩, hb⟩
set_option maxHeartbeats 1600000 in
theorem cToTel (q k : Int) (a : Option Addr) (cap : Nat) (zs : List Int) (w : World) (hz : Bys w a zs) (hl : zs.length ≤ 1048576) :
    Calls Try.prog 29 #[.agg #[.int .i64 q, .int .i64 k, .slice a zs.length cap]] w fun e w' => ∃ g, e = .returned (.agg #[.int .i64 q, .int .i64 k, .slice (some ⟨g, 0, none⟩) zs.length zs.length]) ∧
      w'.ownsRow w.heap.size 5 1 (.slice (some ⟨g, 0, none⟩) zs.length zs.length) zs.length (zs.map (Value.int .u8)) ∧ Below w.heap.size w w' := by
  have HB := below3 w (.cells #[.int .i64 q, .int .i64 k, .slice a zs.length cap] 41) (.cells #[.int .i64 0, .int .i64 0, .slice none 0 0] 25) (.cells #[.int .i64 q, .int .i64 k, .slice none 0 0] 25)
  obtain ⟨k1, k2, k3⟩ := three_blocks w (.cells #[.int .i64 q, .int .i64 k, .slice a zs.length cap] 41) (.cells #[.int .i64 0, .int .i64 0, .slice none 0 0] 25) (.cells #[.int .i64 q, .int .i64 k, .slice none 0 0] 25)
  have hS := size3 w (.cells #[.int .i64 q, .int .i64 k, .slice a zs.length cap] 41) (.cells #[.int .i64 0, .int .i64 0, .slice none 0 0] 25) (.cells #[.int .i64 q, .int .i64 k, .slice none 0 0] 25)
  go_enter Try.func29, Try.ntmps29
  go_wp2_with fail
  generalize ((w.alloc (.cells #[.int .i64 q, .int .i64 k, .slice a zs.length cap] 41)).alloc (.cells #[.int .i64 0, .int .i64 0, .slice none 0 0] 25)).alloc (.cells #[.int .i64 q, .int .i64 k, .slice none 0 0] 25) = W at *
  refine (cToBys a cap zs _ (hz.below HB) hl).mono ?_
  rintro e w1 ⟨g1, rfl, o1, hg1, hb⟩
  rw [hS] at hg1 o1
  have hg1' : w.heap.size + 1 + 1 < g1 := by omega
  clear hg1
  replace k2 := blk_keep hb k2
  replace k3 := blk_keep hb k3
  replace HB := btrans HB hb
  clear hb k1 hS
  obtain ⟨⟨q0, q1, q2⟩, f0, f1, f2⟩ := blk3 k2
  obtain ⟨⟨r0, r1, r2⟩, t0, t1, t2⟩ := blk3 k3
  clear k2 k3
  go_wp2_with fail
  refine bodyPost_ret (v := .agg #[.int .i64 q, .int .i64 k, .slice (some ⟨g1, 0, none⟩) zs.length zs.length]) (by simp [results, Try.results29, go_sem, q0, q1, q2]) rfl ⟨_, rfl, ?_, ?_⟩
  · exact own_base (own_set (b := w.heap.size + 1) (i := 2) (own_set (b := w.heap.size + 1) (i := 1) (own_set (b := w.heap.size + 1) (i := 0) (own_set (b := w.heap.size + 1 + 1) (i := 2) o1 (fun k hk => by simp [Value.ownBlock] at hk; omega)) (fun k hk => by simp [Value.ownBlock] at hk; omega)) (fun k hk => by simp [Value.ownBlock] at hk; omega)) (fun k hk => by simp [Value.ownBlock] at hk; omega)) (by omega)
  · exact below_set (by omega) (below_set (by omega) (below_set (by omega) (below_set (by omega) HB)))
set_option maxHeartbeats 800000 in
theorem cEqTel (q k : Int) (a1 a2 : Option Addr) (p1 p2 : Nat) (zs : List Int) (w : World) (h1 : Bys w a1 zs) (h2 : Bys w a2 zs) (hl : zs.length ≤ maxLen) :
    Calls Try.prog 30 #[.agg #[.int .i64 q, .int .i64 k, .slice a1 zs.length p1], .agg #[.int .i64 q, .int .i64 k, .slice a2 zs.length p2]] w fun e w' => e = .returned (.bool true) ∧ Below w.heap.size w w' := by
  have hb := btrans (balloc w (.cells #[.int .i64 q, .int .i64 k, .slice a1 zs.length p1] 25)) (balloc _ (.cells #[.int .i64 q, .int .i64 k, .slice a2 zs.length p2] 25))
  go_enter Try.func30, Try.ntmps30
  go_wp2_with fail
  refine (cEqBys a1 a2 p1 p2 zs _ (h1.below hb) (h2.below hb) hl).mono ?_
  rintro e w1 ⟨rfl, hw⟩
  have hb1 := btrans hb hw
  go_wp2
  go_ret
  exact ⟨rfl, hb1⟩
theorem grown_alloc_then {w w' : World} {o : Obj} {r : Option Nat} (h : (w.alloc o).grownBy w' r) : w.grownBy w' r := gtrans (World.grownBy_alloc w o r) h
set_option maxHeartbeats 800000 in
theorem cMarkTel (B n : Nat) (q kk : Int) (v : Value) (xs : List Int) (k : Int) (w : World) (hn : xs.length = n) (ho : w.ownsRow B 5 1 v n (xs.map (Value.int .u8))) (hl : n ≤ 1048576) (hk0 : 0 ≤ k) (hk1 : k ≤ 10000000) :
    Calls Try.prog 34 #[.agg #[.int .i64 q, .int .i64 kk, v], .int .i64 k] w fun e w' => e = .returned (.int .i64 (k + n)) ∧
      w'.ownsRow B 5 1 v n ((marksBys k n).map (Value.int .u8)) ∧ w.grownBy w' v.ownBlock := by
  have hb := balloc w (.cells #[.int .i64 q, .int .i64 kk, v] 25)
  have CM := cMarkBys B n v xs k _ hn (own_keep ho hb) hl hk0 hk1
  obtain ⟨a, c, rfl⟩ := own_form ho
  clear hn
  go_enter Try.func34, Try.ntmps34
  go_wp2_with fail
  refine CM.mono ?_
  rintro e w1 ⟨rfl, ho1, hg⟩
  have hg1 := grown_alloc_then hg
  clear hg ho hb CM
  go_wp2
  go_ret
  exact ⟨rfl, ho1, hg1⟩
set_option maxHeartbeats 800000 in
theorem cHeldTel (B n : Nat) (q kk : Int) (v : Value) (k : Int) (w : World) (ho : w.ownsRow B 5 1 v n ((marksBys k n).map (Value.int .u8))) (hl : n ≤ 1048576) (hk0 : 0 ≤ k) (hk1 : k ≤ 10000000) :
    Calls Try.prog 38 #[.agg #[.int .i64 q, .int .i64 kk, v], .int .i64 k] w fun e w' => e = .returned (.int .i64 (k + n)) ∧ Below w.heap.size w w' := by
  have hb := balloc w (.cells #[.int .i64 q, .int .i64 kk, v] 25)
  have CM := cHeldBys B n v k _ (own_keep ho hb) hl hk0 hk1
  obtain ⟨a, c, rfl⟩ := own_form ho
  have hng : ¬ (k + (n : Int) < 0) := by omega
  go_enter Try.func38, Try.ntmps38
  go_wp2_with fail
  refine CM.mono ?_
  rintro e w1 ⟨rfl, hw⟩
  subst w1
  go_wp2
  go_ret
  exact ⟨rfl, hb⟩
def telB (q k : Int) (n : Nat) : Bool := inB q 0 255 && (inB k 0 15 && decide (n ≤ 60))
set_option maxHeartbeats 1600000 in
theorem cOkI (q k : Int) (a : Option Addr) (n cap : Nat) (w : World) :
    Calls Try.prog 17 #[.agg #[.int .i64 q, .int .i64 k, .slice a n cap]] w fun e w' => e = .returned (.bool (telB q k n)) ∧ Below w.heap.size w w' := by
  have hb := balloc w (.cells #[.int .i64 q, .int .i64 k, .slice a n cap] 25)
  have E : Hid (telB q k n = (inB q 0 255 && (inB k 0 15 && decide (n ≤ 60)))) := hide rfl
  cases h1 : inB q 0 255
  · go_enter Try.func17, Try.ntmps17
    go_wp2_with fail
    refine (cSeqOk q _).mono ?_
    rintro e w1 ⟨rfl, hw⟩
    subst w1
    rw [h1]
    go_wp2
    go_ret
    exact ⟨ret_bool (by rw [E.out, h1]; rfl), hb⟩
  cases h2 : inB k 0 15
  · go_enter Try.func17, Try.ntmps17
    go_wp2_with fail
    refine (cSeqOk q _).mono ?_
    rintro e w1 ⟨rfl, hw⟩
    subst w1
    rw [h1]
    go_wp2_with fail
    refine (cWithin k 0 15 _).mono ?_
    rintro e w1 ⟨rfl, hw⟩
    subst w1
    rw [h2]
    go_wp2
    go_ret
    exact ⟨ret_bool (by rw [E.out, h1, h2]; rfl), hb⟩
  · have E2 : Hid (decide ((n : Int) ≤ 60) = decide (n ≤ 60)) := hide (decide_eq_decide.2 (by omega))
    go_enter Try.func17, Try.ntmps17
    go_wp2_with fail
    refine (cSeqOk q _).mono ?_
    rintro e w1 ⟨rfl, hw⟩
    subst w1
    rw [h1]
    go_wp2_with fail
    refine (cWithin k 0 15 _).mono ?_
    rintro e w1 ⟨rfl, hw⟩
    subst w1
    rw [h2]
    go_wp2
    go_ret
    exact ⟨ret_bool (by rw [E.out, h1, h2]; simp; omega), hb⟩
set_option maxHeartbeats 1600000 in
theorem cOkS (q k : Int) (a : Option Addr) (n cap : Nat) (w : World) :
    Calls Try.prog 28 #[.agg #[.int .i64 q, .int .i64 k, .slice a n cap]] w fun e w' => e = .returned (.bool (telB q k n)) ∧ Below w.heap.size w w' := by
  have hb := balloc w (.cells #[.int .i64 q, .int .i64 k, .slice a n cap] 25)
  have E : Hid (telB q k n = (inB q 0 255 && (inB k 0 15 && decide (n ≤ 60)))) := hide rfl
  cases h1 : inB q 0 255
  · go_enter Try.func28, Try.ntmps28
    go_wp2_with fail
    refine (cIn q 0 255 _).mono ?_
    rintro e w1 ⟨rfl, hw⟩
    subst w1
    rw [h1]
    go_wp2
    go_ret
    exact ⟨ret_bool (by rw [E.out, h1]; rfl), hb⟩
  cases h2 : inB k 0 15
  · go_enter Try.func28, Try.ntmps28
    go_wp2_with fail
    refine (cIn q 0 255 _).mono ?_
    rintro e w1 ⟨rfl, hw⟩
    subst w1
    rw [h1]
    go_wp2_with fail
    refine (cIn k 0 15 _).mono ?_
    rintro e w1 ⟨rfl, hw⟩
    subst w1
    rw [h2]
    go_wp2
    go_ret
    exact ⟨ret_bool (by rw [E.out, h1, h2]; rfl), hb⟩
  · have E2 : Hid (decide ((n : Int) ≤ 60) = decide (n ≤ 60)) := hide (decide_eq_decide.2 (by omega))
    go_enter Try.func28, Try.ntmps28
    go_wp2_with fail
    refine (cIn q 0 255 _).mono ?_
    rintro e w1 ⟨rfl, hw⟩
    subst w1
    rw [h1]
    go_wp2_with fail
    refine (cIn k 0 15 _).mono ?_
    rintro e w1 ⟨rfl, hw⟩
    subst w1
    rw [h2]
    go_wp2
    go_ret
    exact ⟨ret_bool (by rw [E.out, h1, h2]; simp; omega), hb⟩
end Go.Proofs.Ytgnohomplehacaa
