/- The lines of a net: linesOf of the program. -/
import Derived.Test.YtdjambejppanoaaLS
import Derived.Deep.AppendLies
import Derived.Deep.RegionHeld3
import Derived.Carry
namespace Go.Proofs.Ytdjambejppanoaa
open Go.RowKit
theorem cells3 {w : World} {b : Nat} {c0 c1 c2 c3 : Value} {t : TypeId} (h : w.heap[b]? = some (.cells #[c0, c1, c2, c3] t (0, 0))) : w.cell? ⟨b, 0, none⟩ = some c0 ∧ w.cell? ⟨b, 1, none⟩ = some c1 ∧ w.cell? ⟨b, 2, none⟩ = some c2 :=
  ⟨Go.Joins.cell_of_block h 0, Go.Joins.cell_of_block h 1, Go.Joins.cell_of_block h 2⟩
theorem row_ne {w : World} {B e sz n xb : Nat} {v : Value} {xs : List Value} {cs : Array Value} {t : TypeId} {f : Nat × Nat} (h : w.ownsRow B e sz v n xs) (X : w.heap[xb]? = some (.cells cs t f)) (hne : e ≠ t) : ∀ j, v.ownBlock = some j → j ≠ xb := by
  rintro j hj rfl
  rcases h.2 with ⟨rfl, h0⟩ | ⟨g, cap', cur, rfl, _, hh, _⟩
  · simp [Value.ownBlock] at hj
  · simp only [Value.ownBlock, Option.some.injEq] at hj
    subst hj
    rw [hh] at X
    simp only [Option.some.injEq, Obj.cells.injEq] at X
    exact hne X.2.1
theorem map_ne {w : World} {mb m xb : Nat} {D : DataW Unit} {cs : Array Value} {t : TypeId} {f : Nat × Nat} (hm : w.ownsMap Try.prog 3 rowEl mb m D) (X : w.heap[xb]? = some (.cells cs t f)) : mb ≠ xb := by
  rintro rfl
  obtain ⟨es, clock, hb, _⟩ := hm
  rw [hb] at X; cases X
/-- What linesOf tells. -/
def LinAns (w : World) (N : Nat) (es : List EdgeV) (e : Ending) (w' : World) : Prop :=
  ∃ mb n rv D, e = .returned (.map (some mb)) ∧ n ≤ 1000 ∧ Lin w' w.heap.size mb n N (rowsTo es es.length) rv D ∧ Below w.heap.size w w'
set_option maxRecDepth 100000 in
set_option maxHeartbeats 12800000 in
theorem cLinesI (a : Option Addr) (p N : Nat) (es : List EdgeV) (w : World) (he : Edges w a es) (hr : netB (N : Int) es = true) :
    Calls Try.prog 37 #[.agg #[.int .i64 (N : Int), .slice a es.length p]] w (LinAns w N es) := by
  obtain ⟨i0, hi0, hz0, hz1, hz2⟩ := info_parts infoSteps
  obtain ⟨R, hN, hE⟩ := net_rg hr
  have HB := balloc w (.cells #[.int .i64 (N : Int), .slice a es.length p] 26)
  have hN9 : N ≤ 1000 := by omega
  have hmm := @run_makeMap Try.prog
  clear hr
  go_enter Try.func37, Try.ntmps37
  go_wp2
  generalize hW : w.alloc (.cells #[.int .i64 (N : Int), .slice a es.length p] 26) = W at *
  have hszW : w.heap.size + 1 = W.heap.size := by rw [← hW]; simp
  have X0 : Bx2 W w.heap.size (.int .i64 (N : Int)) (.slice a es.length p) := by rw [← hW]; exact Bx2.new _ _ _ _
  clear hW
  replace hszW := hide hszW
  go_loopw [4, 10] (fun _ kv wr => ∃ (k : Nat) (D : DataW Unit), k ≤ N ∧ kv = .int .i64 k ∧ Lin wr w.heap.size (w.heap.size + 1) k k (fun _ => []) (fun _ => .slice none 0 0) D ∧ Below w.heap.size w wr ∧ Bx2 wr w.heap.size (.int .i64 (N : Int)) (.slice a es.length p)) (fun _ kv _ => N - (intOf kv).toNat)
  case atStart => exact ⟨0, .map [], Nat.zero_le _, rfl, (by have := Lin.made W w.heap.size; rwa [← hszW.out] at this), btrans HB (balloc _ _), X0.below (balloc _ _)⟩
  case round =>
    clear HB X0
    obtain ⟨k, D, hk, rfl, L, HB, X⟩ := hrel
    by_cases hlt : k < N
    · have hlt' : (k : Int) < (N : Int) := by omega
      obtain ⟨w9, hrun9, om9, hg9⟩ := World.ownsMap.update L.map lawI Try.underlying61 (by unfold maxLen; omega) (keyI (x := (k : Int)) (by omega) (by omega)) (rowEl_mk (v := .slice none 0 0) (.inl rfl))
      have L9 := L.add om9
      have HB9 := HB.grown hg9 HB.size (fun j hj => by cases hj; exact Nat.le_succ _)
      have X9 := X.far hg9 (by simp)
      clear L HB om9 X
      go_wp2
      go_roundw
      case rel => exact ⟨k + 1, _, by omega, by go_num, L9, HB9, X9⟩
      case measure => simp [intOf]; omega
    · obtain rfl : k = N := by omega
      have L0 := L.cong (rows' := rowsTo es 0) (fun _ _ => rfl)
      clear L
      obtain ⟨b0, b1⟩ := X
      go_wp2
      go_loopw [5, 6, 19] (fun _ _ iv wr => ∃ (i n : Nat) (rv : Nat → Value) (D : DataW Unit), i ≤ es.length ∧ iv = .int .i64 i ∧ n ≤ k + 2 * i ∧ Lin wr w.heap.size (w.heap.size + 1) n k (rowsTo es i) rv D ∧ Below w.heap.size w wr) (fun _ _ iv _ => es.length - (intOf iv).toNat)
      case atStart => exact ⟨0, k, _, D, Nat.zero_le _, rfl, by omega, L0, HB⟩
      case round =>
        clear L0 HB D b0 b1
        obtain ⟨i, n, rv, D, hiE, rfl, hnb, L, HB⟩ := hrel
        by_cases hil : i < es.length
        · have hil' : (i : Int) < (es.length : Int) := by omega
          rcases he with h | ⟨eb, eo, rfl, hc⟩
          · simp [h] at hil
          obtain ⟨p0, p1, p2, p3⟩ := hc i hil
          replace p0 := ble HB p0
          replace p1 := ble HB p1
          replace p2 := ble HB p2
          replace p3 := ble HB p3
          have e0 : es.getD i EdgeV.zero = es[i] := by simp [List.getD, hil]
          have hRi := R.nd i hil
          rw [← e0] at hRi
          obtain ⟨a, ha⟩ : ∃ a : Nat, (es.getD i EdgeV.zero).a = (a : Int) := ⟨(es.getD i EdgeV.zero).a.toNat, by omega⟩
          obtain ⟨b, hb⟩ : ∃ b : Nat, (es.getD i EdgeV.zero).b = (b : Int) := ⟨(es.getD i EdgeV.zero).b.toNat, by omega⟩
          have hRS := hide (rows_step R (i := i) (a := a) (b := b) hil ha hb rfl)
          rw [ha] at p0 hRi
          rw [hb] at p1 hRi
          have haN : a < k := by omega
          have hbN : b < k := by omega
          clear hc e0 ha hb hRi
          generalize (es.getD i EdgeV.zero).l = l at *
          generalize (es.getD i EdgeV.zero).m = m at *
          have hal := balloc wr (.cells #[.int .i64 (a : Int), .int .i64 (b : Int), .int .i64 l, .int .i64 m] 41)
          have X := one_block' wr (.cells #[.int .i64 (a : Int), .int .i64 (b : Int), .int .i64 l, .int .i64 m] 41)
          have HB1 := btrans HB hal
          have L1 := L.below hal
          clear hal L HB
          generalize hmb : w.heap.size + 1 = mb at *
          have hmB : w.heap.size ≤ mb := by omega
          replace hmb := hide hmb
          go_upto_region 10 with fail
          clear p0 p1 p2 p3
          generalize wr.alloc (.cells #[.int .i64 (a : Int), .int .i64 (b : Int), .int .i64 l, .int .i64 m] 41) = w1 at *
          generalize wr.heap.size = xb at *
          obtain ⟨va, vc, hva⟩ := own_form (L1.own a haN)
          obtain ⟨vn, hvn⟩ : ∃ vn, (rowsTo es i a).length = vn := ⟨_, rfl⟩
          rw [hvn] at hva
          have hvl : vn ≤ 100 := by have h1 := rowsTo_len es i a; omega
          have hmax : n < maxLen := by unfold maxLen; omega
          have L1d : Lin w1.drew _ _ _ _ _ _ _ := L1.below (bdraw (Below.refl _ _) 1)
          have HB1d : Below w.heap.size w w1.drew := bdraw HB1 1
          have Xd : w1.drew.heap[xb]? = _ := X
          obtain ⟨x0, x1, x2⟩ := cells3 X
          refine wp_region_held_drew (S := (fun w' => w'.cell? ⟨xb, 0, none⟩ = some (.int .i64 (a : Int)) ∧ w'.cell? ⟨xb, 1, none⟩ = some (.int .i64 (b : Int)) ∧ w'.cell? ⟨xb, 2, none⟩ = some (.int .i64 l))) (by kernel_rfl) ?_ (fun hHeld => ?_)
          · go_keep
          generalize w1.drew = wd at *
          refine wpAnyH_take (i := 0) (v := .map (some mb)) rfl (by kernel_rfl) (by kernel_rfl) (by kernel_rfl) (fun _ _ _ h => h) (Or.inl ⟨by kernel_rfl, fun w hS => by go_simp⟩) hHeld ?_
          change wpAnyH _ _ _ _ _ _ _ { tmps := List.toArray (_ :: _ :: _ :: .map (some mb) :: _ :: .int .i64 (i : Int) :: .pointer (some ⟨xb, 0, none⟩) :: _ :: _ :: _ :: _ :: _ :: _ :: _ :: _ :: _ :: _ :: _ :: _ :: _ :: _ :: _ :: _ :: _ :: .map (some mb) :: _ :: _ :: _ :: _ :: _ :: _ :: _ :: _ :: _ :: _ :: _ :: _ :: _ :: _ :: _ :: _ :: _ :: _ :: _ :: _ :: _ :: _ :: _ :: _ :: _ :: _ :: _ :: _ :: _ :: _ :: _ :: []), defers := [] } _
          refine wpAnyH_take (i := 1) (v := .pointer (some ⟨xb, 0, none⟩)) rfl (by kernel_rfl) (by kernel_rfl) (by kernel_rfl) (fun _ _ _ h => h) (Or.inl ⟨by kernel_rfl, fun w hS => by go_simp⟩) hHeld ?_
          change wpAnyH _ _ _ _ _ _ _ { tmps := List.toArray (_ :: _ :: _ :: .map (some mb) :: _ :: .int .i64 (i : Int) :: .pointer (some ⟨xb, 0, none⟩) :: _ :: _ :: _ :: _ :: _ :: _ :: _ :: _ :: _ :: _ :: _ :: _ :: _ :: _ :: _ :: _ :: _ :: .map (some mb) :: .pointer (some ⟨xb, 0, none⟩) :: _ :: _ :: _ :: _ :: _ :: _ :: _ :: _ :: _ :: _ :: _ :: _ :: _ :: _ :: _ :: _ :: _ :: _ :: _ :: _ :: _ :: _ :: _ :: _ :: _ :: _ :: _ :: _ :: _ :: _ :: []), defers := [] } _
          refine wpAnyH_take (i := 2) (v := .int .i64 (a : Int)) rfl (by kernel_rfl) (by kernel_rfl) (by kernel_rfl) (fun _ _ _ h => h) (Or.inl ⟨by kernel_rfl, fun w hS => by (obtain ⟨hS0, hS1, hS2⟩ := hS; go_simp)⟩) hHeld ?_
          change wpAnyH _ _ _ _ _ _ _ { tmps := List.toArray (_ :: _ :: _ :: .map (some mb) :: _ :: .int .i64 (i : Int) :: .pointer (some ⟨xb, 0, none⟩) :: _ :: _ :: _ :: _ :: _ :: _ :: _ :: _ :: _ :: _ :: _ :: _ :: _ :: _ :: _ :: _ :: _ :: .map (some mb) :: .pointer (some ⟨xb, 0, none⟩) :: .int .i64 (a : Int) :: _ :: _ :: _ :: _ :: _ :: _ :: _ :: _ :: _ :: _ :: _ :: _ :: _ :: _ :: _ :: _ :: _ :: _ :: _ :: _ :: _ :: _ :: _ :: _ :: _ :: _ :: _ :: _ :: _ :: []), defers := [] } _
          refine wpAnyH_take (i := 3) (v := .map (some mb)) rfl (by kernel_rfl) (by kernel_rfl) (by kernel_rfl) (fun _ _ _ h => h) (Or.inl ⟨by kernel_rfl, fun w hS => by go_simp⟩) hHeld ?_
          change wpAnyH _ _ _ _ _ _ _ { tmps := List.toArray (_ :: _ :: _ :: .map (some mb) :: _ :: .int .i64 (i : Int) :: .pointer (some ⟨xb, 0, none⟩) :: _ :: _ :: _ :: _ :: _ :: _ :: _ :: _ :: _ :: _ :: _ :: _ :: _ :: _ :: _ :: _ :: _ :: .map (some mb) :: .pointer (some ⟨xb, 0, none⟩) :: .int .i64 (a : Int) :: .map (some mb) :: _ :: _ :: _ :: _ :: _ :: _ :: _ :: _ :: _ :: _ :: _ :: _ :: _ :: _ :: _ :: _ :: _ :: _ :: _ :: _ :: _ :: _ :: _ :: _ :: _ :: _ :: _ :: _ :: []), defers := [] } _
          refine wpAnyH_take (i := 4) (v := .pointer (some ⟨xb, 0, none⟩)) rfl (by kernel_rfl) (by kernel_rfl) (by kernel_rfl) (fun _ _ _ h => h) (Or.inl ⟨by kernel_rfl, fun w hS => by go_simp⟩) hHeld ?_
          change wpAnyH _ _ _ _ _ _ _ { tmps := List.toArray (_ :: _ :: _ :: .map (some mb) :: _ :: .int .i64 (i : Int) :: .pointer (some ⟨xb, 0, none⟩) :: _ :: _ :: _ :: _ :: _ :: _ :: _ :: _ :: _ :: _ :: _ :: _ :: _ :: _ :: _ :: _ :: _ :: .map (some mb) :: .pointer (some ⟨xb, 0, none⟩) :: .int .i64 (a : Int) :: .map (some mb) :: .pointer (some ⟨xb, 0, none⟩) :: _ :: _ :: _ :: _ :: _ :: _ :: _ :: _ :: _ :: _ :: _ :: _ :: _ :: _ :: _ :: _ :: _ :: _ :: _ :: _ :: _ :: _ :: _ :: _ :: _ :: _ :: _ :: []), defers := [] } _
          refine wpAnyH_take (i := 5) (v := .int .i64 (a : Int)) rfl (by kernel_rfl) (by kernel_rfl) (by kernel_rfl) (fun _ _ _ h => h) (Or.inl ⟨by kernel_rfl, fun w hS => by (obtain ⟨hS0, hS1, hS2⟩ := hS; go_simp)⟩) hHeld ?_
          change wpAnyH _ _ _ _ _ _ _ { tmps := List.toArray (_ :: _ :: _ :: .map (some mb) :: _ :: .int .i64 (i : Int) :: .pointer (some ⟨xb, 0, none⟩) :: _ :: _ :: _ :: _ :: _ :: _ :: _ :: _ :: _ :: _ :: _ :: _ :: _ :: _ :: _ :: _ :: _ :: .map (some mb) :: .pointer (some ⟨xb, 0, none⟩) :: .int .i64 (a : Int) :: .map (some mb) :: .pointer (some ⟨xb, 0, none⟩) :: .int .i64 (a : Int) :: _ :: _ :: _ :: _ :: _ :: _ :: _ :: _ :: _ :: _ :: _ :: _ :: _ :: _ :: _ :: _ :: _ :: _ :: _ :: _ :: _ :: _ :: _ :: _ :: _ :: _ :: []), defers := [] } _
          refine wpAnyH_take (i := 7) (v := .int .i64 (i : Int)) rfl (by kernel_rfl) (by kernel_rfl) (by kernel_rfl) (fun _ _ _ h => h) (Or.inl ⟨by kernel_rfl, fun w hS => by go_simp⟩) hHeld ?_
          change wpAnyH _ _ _ _ _ _ _ { tmps := List.toArray (_ :: _ :: _ :: .map (some mb) :: _ :: .int .i64 (i : Int) :: .pointer (some ⟨xb, 0, none⟩) :: _ :: _ :: _ :: _ :: _ :: _ :: _ :: _ :: _ :: _ :: _ :: _ :: _ :: _ :: _ :: _ :: _ :: .map (some mb) :: .pointer (some ⟨xb, 0, none⟩) :: .int .i64 (a : Int) :: .map (some mb) :: .pointer (some ⟨xb, 0, none⟩) :: .int .i64 (a : Int) :: _ :: .int .i64 (i : Int) :: _ :: _ :: _ :: _ :: _ :: _ :: _ :: _ :: _ :: _ :: _ :: _ :: _ :: _ :: _ :: _ :: _ :: _ :: _ :: _ :: _ :: _ :: _ :: _ :: []), defers := [] } _
          refine wpAnyH_take (i := 8) (v := .pointer (some ⟨xb, 1, none⟩)) rfl (by kernel_rfl) (by kernel_rfl) (by kernel_rfl) (fun _ _ _ h => h) (Or.inl ⟨by kernel_rfl, fun w hS => by go_simp⟩) hHeld ?_
          change wpAnyH _ _ _ _ _ _ _ { tmps := List.toArray (_ :: _ :: _ :: .map (some mb) :: _ :: .int .i64 (i : Int) :: .pointer (some ⟨xb, 0, none⟩) :: _ :: _ :: _ :: _ :: _ :: _ :: _ :: _ :: _ :: _ :: _ :: _ :: _ :: _ :: _ :: _ :: _ :: .map (some mb) :: .pointer (some ⟨xb, 0, none⟩) :: .int .i64 (a : Int) :: .map (some mb) :: .pointer (some ⟨xb, 0, none⟩) :: .int .i64 (a : Int) :: _ :: .int .i64 (i : Int) :: .pointer (some ⟨xb, 1, none⟩) :: _ :: _ :: _ :: _ :: _ :: _ :: _ :: _ :: _ :: _ :: _ :: _ :: _ :: _ :: _ :: _ :: _ :: _ :: _ :: _ :: _ :: _ :: _ :: []), defers := [] } _
          refine wpAnyH_take (i := 9) (v := .int .i64 (b : Int)) rfl (by kernel_rfl) (by kernel_rfl) (by kernel_rfl) (fun _ _ _ h => h) (Or.inl ⟨by kernel_rfl, fun w hS => by (obtain ⟨hS0, hS1, hS2⟩ := hS; go_simp)⟩) hHeld ?_
          change wpAnyH _ _ _ _ _ _ _ { tmps := List.toArray (_ :: _ :: _ :: .map (some mb) :: _ :: .int .i64 (i : Int) :: .pointer (some ⟨xb, 0, none⟩) :: _ :: _ :: _ :: _ :: _ :: _ :: _ :: _ :: _ :: _ :: _ :: _ :: _ :: _ :: _ :: _ :: _ :: .map (some mb) :: .pointer (some ⟨xb, 0, none⟩) :: .int .i64 (a : Int) :: .map (some mb) :: .pointer (some ⟨xb, 0, none⟩) :: .int .i64 (a : Int) :: _ :: .int .i64 (i : Int) :: .pointer (some ⟨xb, 1, none⟩) :: .int .i64 (b : Int) :: _ :: _ :: _ :: _ :: _ :: _ :: _ :: _ :: _ :: _ :: _ :: _ :: _ :: _ :: _ :: _ :: _ :: _ :: _ :: _ :: _ :: _ :: []), defers := [] } _
          refine wpAnyH_take (i := 10) (v := .pointer (some ⟨xb, 2, none⟩)) rfl (by kernel_rfl) (by kernel_rfl) (by kernel_rfl) (fun _ _ _ h => h) (Or.inl ⟨by kernel_rfl, fun w hS => by go_simp⟩) hHeld ?_
          change wpAnyH _ _ _ _ _ _ _ { tmps := List.toArray (_ :: _ :: _ :: .map (some mb) :: _ :: .int .i64 (i : Int) :: .pointer (some ⟨xb, 0, none⟩) :: _ :: _ :: _ :: _ :: _ :: _ :: _ :: _ :: _ :: _ :: _ :: _ :: _ :: _ :: _ :: _ :: _ :: .map (some mb) :: .pointer (some ⟨xb, 0, none⟩) :: .int .i64 (a : Int) :: .map (some mb) :: .pointer (some ⟨xb, 0, none⟩) :: .int .i64 (a : Int) :: _ :: .int .i64 (i : Int) :: .pointer (some ⟨xb, 1, none⟩) :: .int .i64 (b : Int) :: .pointer (some ⟨xb, 2, none⟩) :: _ :: _ :: _ :: _ :: _ :: _ :: _ :: _ :: _ :: _ :: _ :: _ :: _ :: _ :: _ :: _ :: _ :: _ :: _ :: _ :: _ :: []), defers := [] } _
          refine wpAnyH_take (i := 11) (v := .int .i64 l) rfl (by kernel_rfl) (by kernel_rfl) (by kernel_rfl) (fun _ _ _ h => h) (Or.inl ⟨by kernel_rfl, fun w hS => by (obtain ⟨hS0, hS1, hS2⟩ := hS; go_simp)⟩) hHeld ?_
          change wpAnyH _ _ _ _ _ _ _ { tmps := List.toArray (_ :: _ :: _ :: .map (some mb) :: _ :: .int .i64 (i : Int) :: .pointer (some ⟨xb, 0, none⟩) :: _ :: _ :: _ :: _ :: _ :: _ :: _ :: _ :: _ :: _ :: _ :: _ :: _ :: _ :: _ :: _ :: _ :: .map (some mb) :: .pointer (some ⟨xb, 0, none⟩) :: .int .i64 (a : Int) :: .map (some mb) :: .pointer (some ⟨xb, 0, none⟩) :: .int .i64 (a : Int) :: _ :: .int .i64 (i : Int) :: .pointer (some ⟨xb, 1, none⟩) :: .int .i64 (b : Int) :: .pointer (some ⟨xb, 2, none⟩) :: .int .i64 l :: _ :: _ :: _ :: _ :: _ :: _ :: _ :: _ :: _ :: _ :: _ :: _ :: _ :: _ :: _ :: _ :: _ :: _ :: _ :: _ :: []), defers := [] } _
          refine wpAnyH_take (i := 12) (v := .agg #[.int .i64 (i : Int), .int .i64 (b : Int), .int .i64 l]) rfl (by kernel_rfl) (by kernel_rfl) (by kernel_rfl) (fun _ _ _ h => h) (Or.inl ⟨by kernel_rfl, fun w hS => by go_simp⟩) hHeld ?_
          change wpAnyH _ _ _ _ _ _ _ { tmps := List.toArray (_ :: _ :: _ :: .map (some mb) :: _ :: .int .i64 (i : Int) :: .pointer (some ⟨xb, 0, none⟩) :: _ :: _ :: _ :: _ :: _ :: _ :: _ :: _ :: _ :: _ :: _ :: _ :: _ :: _ :: _ :: _ :: _ :: .map (some mb) :: .pointer (some ⟨xb, 0, none⟩) :: .int .i64 (a : Int) :: .map (some mb) :: .pointer (some ⟨xb, 0, none⟩) :: .int .i64 (a : Int) :: _ :: .int .i64 (i : Int) :: .pointer (some ⟨xb, 1, none⟩) :: .int .i64 (b : Int) :: .pointer (some ⟨xb, 2, none⟩) :: .int .i64 l :: .agg #[.int .i64 (i : Int), .int .i64 (b : Int), .int .i64 l] :: _ :: _ :: _ :: _ :: _ :: _ :: _ :: _ :: _ :: _ :: _ :: _ :: _ :: _ :: _ :: _ :: _ :: _ :: _ :: []), defers := [] } _
          refine wpAnyH_ready (rs := [6, 13]) (by kernel_rfl) (by simp) ?_
          refine (AllReadyH.cons rfl (fun KK hK => ?_) (AllReadyH.cons rfl (fun KK hK => ?_) AllReadyH.nil))
          · skip
            have hlk := L1d.look_run haN hN9
            rw [hva] at hlk
            go_simp
            clear hHeld
            refine hK.out _ _ (cells3 Xd) (fun hHeld => ?_)
            clear hK KK
            change wpAnyH _ _ _ _ _ _ _ { tmps := List.toArray (_ :: _ :: _ :: .map (some mb) :: _ :: .int .i64 (i : Int) :: .pointer (some ⟨xb, 0, none⟩) :: _ :: _ :: _ :: _ :: _ :: _ :: _ :: _ :: _ :: _ :: _ :: _ :: _ :: _ :: _ :: _ :: _ :: .map (some mb) :: .pointer (some ⟨xb, 0, none⟩) :: .int .i64 (a : Int) :: .map (some mb) :: .pointer (some ⟨xb, 0, none⟩) :: .int .i64 (a : Int) :: .slice va vn vc :: .int .i64 (i : Int) :: .pointer (some ⟨xb, 1, none⟩) :: .int .i64 (b : Int) :: .pointer (some ⟨xb, 2, none⟩) :: .int .i64 l :: .agg #[.int .i64 (i : Int), .int .i64 (b : Int), .int .i64 l] :: _ :: _ :: _ :: _ :: _ :: _ :: _ :: _ :: _ :: _ :: _ :: _ :: _ :: _ :: _ :: _ :: _ :: _ :: _ :: []), defers := [] } _
            refine wpAnyH_ready (rs := [13]) (by kernel_rfl) (by simp) ?_
            refine (AllReadyH.cons rfl (fun KK hK => ?_) AllReadyH.nil)
            go_simp
            have hal := balloc wd (.cells #[.int .i64 (i : Int), .int .i64 (b : Int), .int .i64 l] 83)
            have LA := L1d.below hal
            have HN := one_block' wd (.cells #[.int .i64 (i : Int), .int .i64 (b : Int), .int .i64 l] 83)
            have hsz := sz1 wd (.cells #[.int .i64 (i : Int), .int .i64 (b : Int), .int .i64 l] 83)
            have HBA := btrans HB1d hal
            have XA := blk_keep hal Xd
            clear hal
            generalize wd.alloc (.cells #[.int .i64 (i : Int), .int .i64 (b : Int), .int .i64 l] 83) = wz at *
            generalize wd.heap.size = hg at *
            clear hHeld
            refine hK.out _ _ (cells3 XA) (fun hHeld => ?_)
            clear hK KK
            change wpAnyH _ _ _ _ _ _ _ { tmps := List.toArray (_ :: _ :: _ :: .map (some mb) :: _ :: .int .i64 (i : Int) :: .pointer (some ⟨xb, 0, none⟩) :: _ :: _ :: _ :: _ :: _ :: _ :: _ :: _ :: _ :: _ :: _ :: _ :: _ :: _ :: _ :: _ :: _ :: .map (some mb) :: .pointer (some ⟨xb, 0, none⟩) :: .int .i64 (a : Int) :: .map (some mb) :: .pointer (some ⟨xb, 0, none⟩) :: .int .i64 (a : Int) :: .slice va vn vc :: .int .i64 (i : Int) :: .pointer (some ⟨xb, 1, none⟩) :: .int .i64 (b : Int) :: .pointer (some ⟨xb, 2, none⟩) :: .int .i64 l :: .agg #[.int .i64 (i : Int), .int .i64 (b : Int), .int .i64 l] :: .slice (some ⟨hg, 0, none⟩) 1 1 :: _ :: _ :: _ :: _ :: _ :: _ :: _ :: _ :: _ :: _ :: _ :: _ :: _ :: _ :: _ :: _ :: _ :: _ :: []), defers := [] } _
            refine wpAnyH_ready (rs := [14]) (by kernel_rfl) (by simp) ?_
            refine (AllReadyH.cons rfl (fun KK hK => ?_) AllReadyH.nil)
            have hoK := LA.own _ haN
            rw [hva, hvn] at hoK
            refine step_append_lies _ (by rfl) _ _ _ (by rfl) w.heap.size 83 i0 _ 3 24 Try.underlying81 hi0 hz0 hz1 hz2 rfl (by omega) (.slice va vn vc) vn (flatSteps ((rowsTo es i) a)) (by rfl) hoK ⟨hg, 0, none⟩ 1 1 (StepV.vs ⟨(i : Int), (b : Int), l⟩) (by rfl) (by rfl) (World.news_of_block HN) (by simp [StepV.vs, Value.oneCell']) (by omega) (by unfold maxLen; omega) (by omega) (by have := HBA.size; omega) (hg + 1) hsz ?_
            intro g cap2 w8 hown hgrow hat hlt2
            have hfr := own_from hoK (Nat.le_refl _)
            have om8 := LA.map.kept hgrow (fun e => row_map hoK LA.map e.symm)
            have X8 := far_blk hgrow XA (row_ne hoK XA (by decide))
            have HB8 := HBA.grown hgrow HBA.size (fun j hj => hfr j hj)
            clear hHeld
            refine hK.out _ _ (cells3 X8) (fun hHeld => ?_)
            clear hK KK
            change wpAnyH _ _ _ _ _ _ _ { tmps := List.toArray (_ :: _ :: _ :: .map (some mb) :: _ :: .int .i64 (i : Int) :: .pointer (some ⟨xb, 0, none⟩) :: _ :: _ :: _ :: _ :: _ :: _ :: _ :: _ :: _ :: _ :: _ :: _ :: _ :: _ :: _ :: _ :: _ :: .map (some mb) :: .pointer (some ⟨xb, 0, none⟩) :: .int .i64 (a : Int) :: .map (some mb) :: .pointer (some ⟨xb, 0, none⟩) :: .int .i64 (a : Int) :: .slice va vn vc :: .int .i64 (i : Int) :: .pointer (some ⟨xb, 1, none⟩) :: .int .i64 (b : Int) :: .pointer (some ⟨xb, 2, none⟩) :: .int .i64 l :: .agg #[.int .i64 (i : Int), .int .i64 (b : Int), .int .i64 l] :: .slice (some ⟨hg, 0, none⟩) 1 1 :: .slice (some ⟨g, 0, none⟩) (vn + 1) cap2 :: _ :: _ :: _ :: _ :: _ :: _ :: _ :: _ :: _ :: _ :: _ :: _ :: _ :: _ :: _ :: _ :: _ :: []), defers := [] } _
            refine wpAnyH_ready (rs := [15]) (by kernel_rfl) (by simp) ?_
            refine (AllReadyH.cons rfl (fun KK hK => ?_) AllReadyH.nil)
            obtain ⟨w9, hrun9, om9, hg9⟩ := World.ownsMap.update om8 lawI Try.underlying61 hmax (keyI (x := (a : Int)) (by omega) (by omega)) (rowEl_mk (.inr ⟨g, vn + 1, cap2, rfl⟩))
            have L9 := LA.put (s := ⟨(i : Int), (b : Int), l⟩) haN (by rw [hvn]; exact hown) (by rw [hva]; exact hgrow) (by rw [hva]; rcases hat with e | e; exact .inl e; exact .inr (by rw [e, hsz]; rfl)) om9 hg9 om8
            have X9 := far_blk hg9 X8 (fun j hj => by cases hj; exact map_ne om8 X8)
            have HB9 := HB8.grown hg9 HB8.size (fun j hj => by cases hj; exact hmB)
            go_simp
            clear hHeld
            refine hK.out _ _ (cells3 X9) (fun hHeld => ?_)
            clear hK KK
            change wpAnyH _ _ _ _ _ _ _ { tmps := List.toArray (_ :: _ :: _ :: .map (some mb) :: _ :: .int .i64 (i : Int) :: .pointer (some ⟨xb, 0, none⟩) :: _ :: _ :: _ :: _ :: _ :: _ :: _ :: _ :: _ :: _ :: _ :: _ :: _ :: _ :: _ :: _ :: _ :: .map (some mb) :: .pointer (some ⟨xb, 0, none⟩) :: .int .i64 (a : Int) :: .map (some mb) :: .pointer (some ⟨xb, 0, none⟩) :: .int .i64 (a : Int) :: .slice va vn vc :: .int .i64 (i : Int) :: .pointer (some ⟨xb, 1, none⟩) :: .int .i64 (b : Int) :: .pointer (some ⟨xb, 2, none⟩) :: .int .i64 l :: .agg #[.int .i64 (i : Int), .int .i64 (b : Int), .int .i64 l] :: .slice (some ⟨hg, 0, none⟩) 1 1 :: .slice (some ⟨g, 0, none⟩) (vn + 1) cap2 :: _ :: _ :: _ :: _ :: _ :: _ :: _ :: _ :: _ :: _ :: _ :: _ :: _ :: _ :: _ :: _ :: _ :: []), defers := [] } _
            refine wpAnyH_done (by kernel_rfl) ?_ _
            have HB2 := HB9
            have L2 := L9
            have X2 := X9
            clear HB9 L9 X9 om9 hg9 hrun9 HB8 X8 om8 hgrow hown hat HBA LA XA HN hsz hfr hoK hva hvn hvl hmax HB1 L1 X L1d HB1d
            go_upto_region 11 with fail
            obtain ⟨va, vc, hva⟩ := own_form (L2.own b hbN)
            obtain ⟨vn, hvn⟩ : ∃ vn, (upd (rowsTo es i) a (rowsTo es i a ++ [⟨(i : Int), (b : Int), l⟩]) b).length = vn := ⟨_, rfl⟩
            rw [hvn] at hva
            have hvl : vn ≤ 100 := by 
              have h1 := rowsTo_len es i b
              have h2 := rowsTo_len es i a
              rw [← hvn]
              unfold upd
              split <;> simp <;> omega
            have hmax : n + 1 < maxLen := by unfold maxLen; omega
            have L2d : Lin w9.drew _ _ _ _ _ _ _ := L2.below (bdraw (Below.refl _ _) 1)
            have HB2d : Below w.heap.size w w9.drew := bdraw HB2 1
            have X2d : w9.drew.heap[xb]? = _ := X2
            obtain ⟨x0, x1, x2⟩ := cells3 X2
            refine wp_region_held_drew (S := (fun w' => w'.cell? ⟨xb, 0, none⟩ = some (.int .i64 (a : Int)) ∧ w'.cell? ⟨xb, 1, none⟩ = some (.int .i64 (b : Int)) ∧ w'.cell? ⟨xb, 2, none⟩ = some (.int .i64 l))) (by kernel_rfl) ?_ (fun hHeld => ?_)
            · go_keep
            generalize w9.drew = wd at *
            refine wpAnyH_take (i := 0) (v := .map (some mb)) rfl (by kernel_rfl) (by kernel_rfl) (by kernel_rfl) (fun _ _ _ h => h) (Or.inl ⟨by kernel_rfl, fun w hS => by go_simp⟩) hHeld ?_
            change wpAnyH _ _ _ _ _ _ _ { tmps := List.toArray (_ :: _ :: _ :: .map (some mb) :: _ :: .int .i64 (i : Int) :: .pointer (some ⟨xb, 0, none⟩) :: _ :: _ :: _ :: _ :: _ :: _ :: _ :: _ :: _ :: _ :: _ :: _ :: _ :: _ :: _ :: _ :: _ :: _ :: _ :: _ :: _ :: _ :: _ :: _ :: _ :: _ :: _ :: _ :: _ :: _ :: _ :: _ :: .map (some mb) :: _ :: _ :: _ :: _ :: _ :: _ :: _ :: _ :: _ :: _ :: _ :: _ :: _ :: _ :: _ :: _ :: []), defers := [] } _
            refine wpAnyH_take (i := 1) (v := .pointer (some ⟨xb, 1, none⟩)) rfl (by kernel_rfl) (by kernel_rfl) (by kernel_rfl) (fun _ _ _ h => h) (Or.inl ⟨by kernel_rfl, fun w hS => by go_simp⟩) hHeld ?_
            change wpAnyH _ _ _ _ _ _ _ { tmps := List.toArray (_ :: _ :: _ :: .map (some mb) :: _ :: .int .i64 (i : Int) :: .pointer (some ⟨xb, 0, none⟩) :: _ :: _ :: _ :: _ :: _ :: _ :: _ :: _ :: _ :: _ :: _ :: _ :: _ :: _ :: _ :: _ :: _ :: _ :: _ :: _ :: _ :: _ :: _ :: _ :: _ :: _ :: _ :: _ :: _ :: _ :: _ :: _ :: .map (some mb) :: .pointer (some ⟨xb, 1, none⟩) :: _ :: _ :: _ :: _ :: _ :: _ :: _ :: _ :: _ :: _ :: _ :: _ :: _ :: _ :: _ :: []), defers := [] } _
            refine wpAnyH_take (i := 2) (v := .int .i64 (b : Int)) rfl (by kernel_rfl) (by kernel_rfl) (by kernel_rfl) (fun _ _ _ h => h) (Or.inl ⟨by kernel_rfl, fun w hS => by (obtain ⟨hS0, hS1, hS2⟩ := hS; go_simp)⟩) hHeld ?_
            change wpAnyH _ _ _ _ _ _ _ { tmps := List.toArray (_ :: _ :: _ :: .map (some mb) :: _ :: .int .i64 (i : Int) :: .pointer (some ⟨xb, 0, none⟩) :: _ :: _ :: _ :: _ :: _ :: _ :: _ :: _ :: _ :: _ :: _ :: _ :: _ :: _ :: _ :: _ :: _ :: _ :: _ :: _ :: _ :: _ :: _ :: _ :: _ :: _ :: _ :: _ :: _ :: _ :: _ :: _ :: .map (some mb) :: .pointer (some ⟨xb, 1, none⟩) :: .int .i64 (b : Int) :: _ :: _ :: _ :: _ :: _ :: _ :: _ :: _ :: _ :: _ :: _ :: _ :: _ :: _ :: []), defers := [] } _
            refine wpAnyH_take (i := 3) (v := .map (some mb)) rfl (by kernel_rfl) (by kernel_rfl) (by kernel_rfl) (fun _ _ _ h => h) (Or.inl ⟨by kernel_rfl, fun w hS => by go_simp⟩) hHeld ?_
            change wpAnyH _ _ _ _ _ _ _ { tmps := List.toArray (_ :: _ :: _ :: .map (some mb) :: _ :: .int .i64 (i : Int) :: .pointer (some ⟨xb, 0, none⟩) :: _ :: _ :: _ :: _ :: _ :: _ :: _ :: _ :: _ :: _ :: _ :: _ :: _ :: _ :: _ :: _ :: _ :: _ :: _ :: _ :: _ :: _ :: _ :: _ :: _ :: _ :: _ :: _ :: _ :: _ :: _ :: _ :: .map (some mb) :: .pointer (some ⟨xb, 1, none⟩) :: .int .i64 (b : Int) :: .map (some mb) :: _ :: _ :: _ :: _ :: _ :: _ :: _ :: _ :: _ :: _ :: _ :: _ :: _ :: []), defers := [] } _
            refine wpAnyH_take (i := 4) (v := .pointer (some ⟨xb, 1, none⟩)) rfl (by kernel_rfl) (by kernel_rfl) (by kernel_rfl) (fun _ _ _ h => h) (Or.inl ⟨by kernel_rfl, fun w hS => by go_simp⟩) hHeld ?_
            change wpAnyH _ _ _ _ _ _ _ { tmps := List.toArray (_ :: _ :: _ :: .map (some mb) :: _ :: .int .i64 (i : Int) :: .pointer (some ⟨xb, 0, none⟩) :: _ :: _ :: _ :: _ :: _ :: _ :: _ :: _ :: _ :: _ :: _ :: _ :: _ :: _ :: _ :: _ :: _ :: _ :: _ :: _ :: _ :: _ :: _ :: _ :: _ :: _ :: _ :: _ :: _ :: _ :: _ :: _ :: .map (some mb) :: .pointer (some ⟨xb, 1, none⟩) :: .int .i64 (b : Int) :: .map (some mb) :: .pointer (some ⟨xb, 1, none⟩) :: _ :: _ :: _ :: _ :: _ :: _ :: _ :: _ :: _ :: _ :: _ :: _ :: []), defers := [] } _
            refine wpAnyH_take (i := 5) (v := .int .i64 (b : Int)) rfl (by kernel_rfl) (by kernel_rfl) (by kernel_rfl) (fun _ _ _ h => h) (Or.inl ⟨by kernel_rfl, fun w hS => by (obtain ⟨hS0, hS1, hS2⟩ := hS; go_simp)⟩) hHeld ?_
            change wpAnyH _ _ _ _ _ _ _ { tmps := List.toArray (_ :: _ :: _ :: .map (some mb) :: _ :: .int .i64 (i : Int) :: .pointer (some ⟨xb, 0, none⟩) :: _ :: _ :: _ :: _ :: _ :: _ :: _ :: _ :: _ :: _ :: _ :: _ :: _ :: _ :: _ :: _ :: _ :: _ :: _ :: _ :: _ :: _ :: _ :: _ :: _ :: _ :: _ :: _ :: _ :: _ :: _ :: _ :: .map (some mb) :: .pointer (some ⟨xb, 1, none⟩) :: .int .i64 (b : Int) :: .map (some mb) :: .pointer (some ⟨xb, 1, none⟩) :: .int .i64 (b : Int) :: _ :: _ :: _ :: _ :: _ :: _ :: _ :: _ :: _ :: _ :: _ :: []), defers := [] } _
            refine wpAnyH_take (i := 7) (v := .int .i64 (i : Int)) rfl (by kernel_rfl) (by kernel_rfl) (by kernel_rfl) (fun _ _ _ h => h) (Or.inl ⟨by kernel_rfl, fun w hS => by go_simp⟩) hHeld ?_
            change wpAnyH _ _ _ _ _ _ _ { tmps := List.toArray (_ :: _ :: _ :: .map (some mb) :: _ :: .int .i64 (i : Int) :: .pointer (some ⟨xb, 0, none⟩) :: _ :: _ :: _ :: _ :: _ :: _ :: _ :: _ :: _ :: _ :: _ :: _ :: _ :: _ :: _ :: _ :: _ :: _ :: _ :: _ :: _ :: _ :: _ :: _ :: _ :: _ :: _ :: _ :: _ :: _ :: _ :: _ :: .map (some mb) :: .pointer (some ⟨xb, 1, none⟩) :: .int .i64 (b : Int) :: .map (some mb) :: .pointer (some ⟨xb, 1, none⟩) :: .int .i64 (b : Int) :: _ :: .int .i64 (i : Int) :: _ :: _ :: _ :: _ :: _ :: _ :: _ :: _ :: _ :: []), defers := [] } _
            refine wpAnyH_take (i := 8) (v := .pointer (some ⟨xb, 0, none⟩)) rfl (by kernel_rfl) (by kernel_rfl) (by kernel_rfl) (fun _ _ _ h => h) (Or.inl ⟨by kernel_rfl, fun w hS => by go_simp⟩) hHeld ?_
            change wpAnyH _ _ _ _ _ _ _ { tmps := List.toArray (_ :: _ :: _ :: .map (some mb) :: _ :: .int .i64 (i : Int) :: .pointer (some ⟨xb, 0, none⟩) :: _ :: _ :: _ :: _ :: _ :: _ :: _ :: _ :: _ :: _ :: _ :: _ :: _ :: _ :: _ :: _ :: _ :: _ :: _ :: _ :: _ :: _ :: _ :: _ :: _ :: _ :: _ :: _ :: _ :: _ :: _ :: _ :: .map (some mb) :: .pointer (some ⟨xb, 1, none⟩) :: .int .i64 (b : Int) :: .map (some mb) :: .pointer (some ⟨xb, 1, none⟩) :: .int .i64 (b : Int) :: _ :: .int .i64 (i : Int) :: .pointer (some ⟨xb, 0, none⟩) :: _ :: _ :: _ :: _ :: _ :: _ :: _ :: _ :: []), defers := [] } _
            refine wpAnyH_take (i := 9) (v := .int .i64 (a : Int)) rfl (by kernel_rfl) (by kernel_rfl) (by kernel_rfl) (fun _ _ _ h => h) (Or.inl ⟨by kernel_rfl, fun w hS => by (obtain ⟨hS0, hS1, hS2⟩ := hS; go_simp)⟩) hHeld ?_
            change wpAnyH _ _ _ _ _ _ _ { tmps := List.toArray (_ :: _ :: _ :: .map (some mb) :: _ :: .int .i64 (i : Int) :: .pointer (some ⟨xb, 0, none⟩) :: _ :: _ :: _ :: _ :: _ :: _ :: _ :: _ :: _ :: _ :: _ :: _ :: _ :: _ :: _ :: _ :: _ :: _ :: _ :: _ :: _ :: _ :: _ :: _ :: _ :: _ :: _ :: _ :: _ :: _ :: _ :: _ :: .map (some mb) :: .pointer (some ⟨xb, 1, none⟩) :: .int .i64 (b : Int) :: .map (some mb) :: .pointer (some ⟨xb, 1, none⟩) :: .int .i64 (b : Int) :: _ :: .int .i64 (i : Int) :: .pointer (some ⟨xb, 0, none⟩) :: .int .i64 (a : Int) :: _ :: _ :: _ :: _ :: _ :: _ :: _ :: []), defers := [] } _
            refine wpAnyH_take (i := 10) (v := .pointer (some ⟨xb, 2, none⟩)) rfl (by kernel_rfl) (by kernel_rfl) (by kernel_rfl) (fun _ _ _ h => h) (Or.inl ⟨by kernel_rfl, fun w hS => by go_simp⟩) hHeld ?_
            change wpAnyH _ _ _ _ _ _ _ { tmps := List.toArray (_ :: _ :: _ :: .map (some mb) :: _ :: .int .i64 (i : Int) :: .pointer (some ⟨xb, 0, none⟩) :: _ :: _ :: _ :: _ :: _ :: _ :: _ :: _ :: _ :: _ :: _ :: _ :: _ :: _ :: _ :: _ :: _ :: _ :: _ :: _ :: _ :: _ :: _ :: _ :: _ :: _ :: _ :: _ :: _ :: _ :: _ :: _ :: .map (some mb) :: .pointer (some ⟨xb, 1, none⟩) :: .int .i64 (b : Int) :: .map (some mb) :: .pointer (some ⟨xb, 1, none⟩) :: .int .i64 (b : Int) :: _ :: .int .i64 (i : Int) :: .pointer (some ⟨xb, 0, none⟩) :: .int .i64 (a : Int) :: .pointer (some ⟨xb, 2, none⟩) :: _ :: _ :: _ :: _ :: _ :: _ :: []), defers := [] } _
            refine wpAnyH_take (i := 11) (v := .int .i64 l) rfl (by kernel_rfl) (by kernel_rfl) (by kernel_rfl) (fun _ _ _ h => h) (Or.inl ⟨by kernel_rfl, fun w hS => by (obtain ⟨hS0, hS1, hS2⟩ := hS; go_simp)⟩) hHeld ?_
            change wpAnyH _ _ _ _ _ _ _ { tmps := List.toArray (_ :: _ :: _ :: .map (some mb) :: _ :: .int .i64 (i : Int) :: .pointer (some ⟨xb, 0, none⟩) :: _ :: _ :: _ :: _ :: _ :: _ :: _ :: _ :: _ :: _ :: _ :: _ :: _ :: _ :: _ :: _ :: _ :: _ :: _ :: _ :: _ :: _ :: _ :: _ :: _ :: _ :: _ :: _ :: _ :: _ :: _ :: _ :: .map (some mb) :: .pointer (some ⟨xb, 1, none⟩) :: .int .i64 (b : Int) :: .map (some mb) :: .pointer (some ⟨xb, 1, none⟩) :: .int .i64 (b : Int) :: _ :: .int .i64 (i : Int) :: .pointer (some ⟨xb, 0, none⟩) :: .int .i64 (a : Int) :: .pointer (some ⟨xb, 2, none⟩) :: .int .i64 l :: _ :: _ :: _ :: _ :: _ :: []), defers := [] } _
            refine wpAnyH_take (i := 12) (v := .agg #[.int .i64 (i : Int), .int .i64 (a : Int), .int .i64 l]) rfl (by kernel_rfl) (by kernel_rfl) (by kernel_rfl) (fun _ _ _ h => h) (Or.inl ⟨by kernel_rfl, fun w hS => by go_simp⟩) hHeld ?_
            change wpAnyH _ _ _ _ _ _ _ { tmps := List.toArray (_ :: _ :: _ :: .map (some mb) :: _ :: .int .i64 (i : Int) :: .pointer (some ⟨xb, 0, none⟩) :: _ :: _ :: _ :: _ :: _ :: _ :: _ :: _ :: _ :: _ :: _ :: _ :: _ :: _ :: _ :: _ :: _ :: _ :: _ :: _ :: _ :: _ :: _ :: _ :: _ :: _ :: _ :: _ :: _ :: _ :: _ :: _ :: .map (some mb) :: .pointer (some ⟨xb, 1, none⟩) :: .int .i64 (b : Int) :: .map (some mb) :: .pointer (some ⟨xb, 1, none⟩) :: .int .i64 (b : Int) :: _ :: .int .i64 (i : Int) :: .pointer (some ⟨xb, 0, none⟩) :: .int .i64 (a : Int) :: .pointer (some ⟨xb, 2, none⟩) :: .int .i64 l :: .agg #[.int .i64 (i : Int), .int .i64 (a : Int), .int .i64 l] :: _ :: _ :: _ :: _ :: []), defers := [] } _
            refine wpAnyH_ready (rs := [6, 13]) (by kernel_rfl) (by simp) ?_
            refine (AllReadyH.cons rfl (fun KK hK => ?_) (AllReadyH.cons rfl (fun KK hK => ?_) AllReadyH.nil))
            · skip
              have hlk := L2d.look_run hbN hN9
              rw [hva] at hlk
              go_simp
              clear hHeld
              refine hK.out _ _ (cells3 X2d) (fun hHeld => ?_)
              clear hK KK
              change wpAnyH _ _ _ _ _ _ _ { tmps := List.toArray (_ :: _ :: _ :: .map (some mb) :: _ :: .int .i64 (i : Int) :: .pointer (some ⟨xb, 0, none⟩) :: _ :: _ :: _ :: _ :: _ :: _ :: _ :: _ :: _ :: _ :: _ :: _ :: _ :: _ :: _ :: _ :: _ :: _ :: _ :: _ :: _ :: _ :: _ :: _ :: _ :: _ :: _ :: _ :: _ :: _ :: _ :: _ :: .map (some mb) :: .pointer (some ⟨xb, 1, none⟩) :: .int .i64 (b : Int) :: .map (some mb) :: .pointer (some ⟨xb, 1, none⟩) :: .int .i64 (b : Int) :: .slice va vn vc :: .int .i64 (i : Int) :: .pointer (some ⟨xb, 0, none⟩) :: .int .i64 (a : Int) :: .pointer (some ⟨xb, 2, none⟩) :: .int .i64 l :: .agg #[.int .i64 (i : Int), .int .i64 (a : Int), .int .i64 l] :: _ :: _ :: _ :: _ :: []), defers := [] } _
              refine wpAnyH_ready (rs := [13]) (by kernel_rfl) (by simp) ?_
              refine (AllReadyH.cons rfl (fun KK hK => ?_) AllReadyH.nil)
              go_simp
              have hal := balloc wd (.cells #[.int .i64 (i : Int), .int .i64 (a : Int), .int .i64 l] 83)
              have LA := L2d.below hal
              have HN := one_block' wd (.cells #[.int .i64 (i : Int), .int .i64 (a : Int), .int .i64 l] 83)
              have hsz := sz1 wd (.cells #[.int .i64 (i : Int), .int .i64 (a : Int), .int .i64 l] 83)
              have HBA := btrans HB2d hal
              have XA := blk_keep hal X2d
              clear hal
              generalize wd.alloc (.cells #[.int .i64 (i : Int), .int .i64 (a : Int), .int .i64 l] 83) = wz at *
              generalize wd.heap.size = hg at *
              clear hHeld
              refine hK.out _ _ (cells3 XA) (fun hHeld => ?_)
              clear hK KK
              change wpAnyH _ _ _ _ _ _ _ { tmps := List.toArray (_ :: _ :: _ :: .map (some mb) :: _ :: .int .i64 (i : Int) :: .pointer (some ⟨xb, 0, none⟩) :: _ :: _ :: _ :: _ :: _ :: _ :: _ :: _ :: _ :: _ :: _ :: _ :: _ :: _ :: _ :: _ :: _ :: _ :: _ :: _ :: _ :: _ :: _ :: _ :: _ :: _ :: _ :: _ :: _ :: _ :: _ :: _ :: .map (some mb) :: .pointer (some ⟨xb, 1, none⟩) :: .int .i64 (b : Int) :: .map (some mb) :: .pointer (some ⟨xb, 1, none⟩) :: .int .i64 (b : Int) :: .slice va vn vc :: .int .i64 (i : Int) :: .pointer (some ⟨xb, 0, none⟩) :: .int .i64 (a : Int) :: .pointer (some ⟨xb, 2, none⟩) :: .int .i64 l :: .agg #[.int .i64 (i : Int), .int .i64 (a : Int), .int .i64 l] :: .slice (some ⟨hg, 0, none⟩) 1 1 :: _ :: _ :: _ :: []), defers := [] } _
              refine wpAnyH_ready (rs := [14]) (by kernel_rfl) (by simp) ?_
              refine (AllReadyH.cons rfl (fun KK hK => ?_) AllReadyH.nil)
              have hoK := LA.own _ hbN
              rw [hva, hvn] at hoK
              refine step_append_lies _ (by rfl) _ _ _ (by rfl) w.heap.size 83 i0 _ 3 24 Try.underlying81 hi0 hz0 hz1 hz2 rfl (by omega) (.slice va vn vc) vn (flatSteps ((upd (rowsTo es i) a (rowsTo es i a ++ [⟨(i : Int), (b : Int), l⟩])) b)) (by rfl) hoK ⟨hg, 0, none⟩ 1 1 (StepV.vs ⟨(i : Int), (a : Int), l⟩) (by rfl) (by rfl) (World.news_of_block HN) (by simp [StepV.vs, Value.oneCell']) (by omega) (by unfold maxLen; omega) (by omega) (by have := HBA.size; omega) (hg + 1) hsz ?_
              intro g cap2 w8 hown hgrow hat hlt2
              have hfr := own_from hoK (Nat.le_refl _)
              have om8 := LA.map.kept hgrow (fun e => row_map hoK LA.map e.symm)
              have X8 := far_blk hgrow XA (row_ne hoK XA (by decide))
              have HB8 := HBA.grown hgrow HBA.size (fun j hj => hfr j hj)
              clear hHeld
              refine hK.out _ _ (cells3 X8) (fun hHeld => ?_)
              clear hK KK
              change wpAnyH _ _ _ _ _ _ _ { tmps := List.toArray (_ :: _ :: _ :: .map (some mb) :: _ :: .int .i64 (i : Int) :: .pointer (some ⟨xb, 0, none⟩) :: _ :: _ :: _ :: _ :: _ :: _ :: _ :: _ :: _ :: _ :: _ :: _ :: _ :: _ :: _ :: _ :: _ :: _ :: _ :: _ :: _ :: _ :: _ :: _ :: _ :: _ :: _ :: _ :: _ :: _ :: _ :: _ :: .map (some mb) :: .pointer (some ⟨xb, 1, none⟩) :: .int .i64 (b : Int) :: .map (some mb) :: .pointer (some ⟨xb, 1, none⟩) :: .int .i64 (b : Int) :: .slice va vn vc :: .int .i64 (i : Int) :: .pointer (some ⟨xb, 0, none⟩) :: .int .i64 (a : Int) :: .pointer (some ⟨xb, 2, none⟩) :: .int .i64 l :: .agg #[.int .i64 (i : Int), .int .i64 (a : Int), .int .i64 l] :: .slice (some ⟨hg, 0, none⟩) 1 1 :: .slice (some ⟨g, 0, none⟩) (vn + 1) cap2 :: _ :: _ :: []), defers := [] } _
              refine wpAnyH_ready (rs := [15]) (by kernel_rfl) (by simp) ?_
              refine (AllReadyH.cons rfl (fun KK hK => ?_) AllReadyH.nil)
              obtain ⟨w9, hrun9, om9, hg9⟩ := World.ownsMap.update om8 lawI Try.underlying61 hmax (keyI (x := (b : Int)) (by omega) (by omega)) (rowEl_mk (.inr ⟨g, vn + 1, cap2, rfl⟩))
              have L9 := LA.put (s := ⟨(i : Int), (a : Int), l⟩) hbN (by rw [hvn]; exact hown) (by rw [hva]; exact hgrow) (by rw [hva]; rcases hat with e | e; exact .inl e; exact .inr (by rw [e, hsz]; rfl)) om9 hg9 om8
              have X9 := far_blk hg9 X8 (fun j hj => by cases hj; exact map_ne om8 X8)
              have HB9 := HB8.grown hg9 HB8.size (fun j hj => by cases hj; exact hmB)
              go_simp
              clear hHeld
              refine hK.out _ _ (cells3 X9) (fun hHeld => ?_)
              clear hK KK
              change wpAnyH _ _ _ _ _ _ _ { tmps := List.toArray (_ :: _ :: _ :: .map (some mb) :: _ :: .int .i64 (i : Int) :: .pointer (some ⟨xb, 0, none⟩) :: _ :: _ :: _ :: _ :: _ :: _ :: _ :: _ :: _ :: _ :: _ :: _ :: _ :: _ :: _ :: _ :: _ :: _ :: _ :: _ :: _ :: _ :: _ :: _ :: _ :: _ :: _ :: _ :: _ :: _ :: _ :: _ :: .map (some mb) :: .pointer (some ⟨xb, 1, none⟩) :: .int .i64 (b : Int) :: .map (some mb) :: .pointer (some ⟨xb, 1, none⟩) :: .int .i64 (b : Int) :: .slice va vn vc :: .int .i64 (i : Int) :: .pointer (some ⟨xb, 0, none⟩) :: .int .i64 (a : Int) :: .pointer (some ⟨xb, 2, none⟩) :: .int .i64 l :: .agg #[.int .i64 (i : Int), .int .i64 (a : Int), .int .i64 l] :: .slice (some ⟨hg, 0, none⟩) 1 1 :: .slice (some ⟨g, 0, none⟩) (vn + 1) cap2 :: _ :: _ :: []), defers := [] } _
              refine wpAnyH_done (by kernel_rfl) ?_ _
              have LF := L9.cong (rows' := rowsTo es (i + 1)) (fun x _ => hRS.out x)
              clear L9 hva hvn
              go_wp2
              go_roundw
              case rel =>
                skip
                exact ⟨i + 1, n + 1 + 1, _, _, by omega, by go_num, by omega, LF, HB9⟩
              case measure => simp [intOf]; omega
            · skip
              go_simp
              have hal := balloc wd (.cells #[.int .i64 (i : Int), .int .i64 (a : Int), .int .i64 l] 83)
              have LA := L2d.below hal
              have HN := one_block' wd (.cells #[.int .i64 (i : Int), .int .i64 (a : Int), .int .i64 l] 83)
              have hsz := sz1 wd (.cells #[.int .i64 (i : Int), .int .i64 (a : Int), .int .i64 l] 83)
              have HBA := btrans HB2d hal
              have XA := blk_keep hal X2d
              clear hal
              generalize wd.alloc (.cells #[.int .i64 (i : Int), .int .i64 (a : Int), .int .i64 l] 83) = wz at *
              generalize wd.heap.size = hg at *
              clear hHeld
              refine hK.out _ _ (cells3 XA) (fun hHeld => ?_)
              clear hK KK
              change wpAnyH _ _ _ _ _ _ _ { tmps := List.toArray (_ :: _ :: _ :: .map (some mb) :: _ :: .int .i64 (i : Int) :: .pointer (some ⟨xb, 0, none⟩) :: _ :: _ :: _ :: _ :: _ :: _ :: _ :: _ :: _ :: _ :: _ :: _ :: _ :: _ :: _ :: _ :: _ :: _ :: _ :: _ :: _ :: _ :: _ :: _ :: _ :: _ :: _ :: _ :: _ :: _ :: _ :: _ :: .map (some mb) :: .pointer (some ⟨xb, 1, none⟩) :: .int .i64 (b : Int) :: .map (some mb) :: .pointer (some ⟨xb, 1, none⟩) :: .int .i64 (b : Int) :: _ :: .int .i64 (i : Int) :: .pointer (some ⟨xb, 0, none⟩) :: .int .i64 (a : Int) :: .pointer (some ⟨xb, 2, none⟩) :: .int .i64 l :: .agg #[.int .i64 (i : Int), .int .i64 (a : Int), .int .i64 l] :: .slice (some ⟨hg, 0, none⟩) 1 1 :: _ :: _ :: _ :: []), defers := [] } _
              refine wpAnyH_ready (rs := [6]) (by kernel_rfl) (by simp) ?_
              refine (AllReadyH.cons rfl (fun KK hK => ?_) AllReadyH.nil)
              have hlk := LA.look_run hbN hN9
              rw [hva] at hlk
              go_simp
              clear hHeld
              refine hK.out _ _ (cells3 XA) (fun hHeld => ?_)
              clear hK KK
              change wpAnyH _ _ _ _ _ _ _ { tmps := List.toArray (_ :: _ :: _ :: .map (some mb) :: _ :: .int .i64 (i : Int) :: .pointer (some ⟨xb, 0, none⟩) :: _ :: _ :: _ :: _ :: _ :: _ :: _ :: _ :: _ :: _ :: _ :: _ :: _ :: _ :: _ :: _ :: _ :: _ :: _ :: _ :: _ :: _ :: _ :: _ :: _ :: _ :: _ :: _ :: _ :: _ :: _ :: _ :: .map (some mb) :: .pointer (some ⟨xb, 1, none⟩) :: .int .i64 (b : Int) :: .map (some mb) :: .pointer (some ⟨xb, 1, none⟩) :: .int .i64 (b : Int) :: .slice va vn vc :: .int .i64 (i : Int) :: .pointer (some ⟨xb, 0, none⟩) :: .int .i64 (a : Int) :: .pointer (some ⟨xb, 2, none⟩) :: .int .i64 l :: .agg #[.int .i64 (i : Int), .int .i64 (a : Int), .int .i64 l] :: .slice (some ⟨hg, 0, none⟩) 1 1 :: _ :: _ :: _ :: []), defers := [] } _
              refine wpAnyH_ready (rs := [14]) (by kernel_rfl) (by simp) ?_
              refine (AllReadyH.cons rfl (fun KK hK => ?_) AllReadyH.nil)
              have hoK := LA.own _ hbN
              rw [hva, hvn] at hoK
              refine step_append_lies _ (by rfl) _ _ _ (by rfl) w.heap.size 83 i0 _ 3 24 Try.underlying81 hi0 hz0 hz1 hz2 rfl (by omega) (.slice va vn vc) vn (flatSteps ((upd (rowsTo es i) a (rowsTo es i a ++ [⟨(i : Int), (b : Int), l⟩])) b)) (by rfl) hoK ⟨hg, 0, none⟩ 1 1 (StepV.vs ⟨(i : Int), (a : Int), l⟩) (by rfl) (by rfl) (World.news_of_block HN) (by simp [StepV.vs, Value.oneCell']) (by omega) (by unfold maxLen; omega) (by omega) (by have := HBA.size; omega) (hg + 1) hsz ?_
              intro g cap2 w8 hown hgrow hat hlt2
              have hfr := own_from hoK (Nat.le_refl _)
              have om8 := LA.map.kept hgrow (fun e => row_map hoK LA.map e.symm)
              have X8 := far_blk hgrow XA (row_ne hoK XA (by decide))
              have HB8 := HBA.grown hgrow HBA.size (fun j hj => hfr j hj)
              clear hHeld
              refine hK.out _ _ (cells3 X8) (fun hHeld => ?_)
              clear hK KK
              change wpAnyH _ _ _ _ _ _ _ { tmps := List.toArray (_ :: _ :: _ :: .map (some mb) :: _ :: .int .i64 (i : Int) :: .pointer (some ⟨xb, 0, none⟩) :: _ :: _ :: _ :: _ :: _ :: _ :: _ :: _ :: _ :: _ :: _ :: _ :: _ :: _ :: _ :: _ :: _ :: _ :: _ :: _ :: _ :: _ :: _ :: _ :: _ :: _ :: _ :: _ :: _ :: _ :: _ :: _ :: .map (some mb) :: .pointer (some ⟨xb, 1, none⟩) :: .int .i64 (b : Int) :: .map (some mb) :: .pointer (some ⟨xb, 1, none⟩) :: .int .i64 (b : Int) :: .slice va vn vc :: .int .i64 (i : Int) :: .pointer (some ⟨xb, 0, none⟩) :: .int .i64 (a : Int) :: .pointer (some ⟨xb, 2, none⟩) :: .int .i64 l :: .agg #[.int .i64 (i : Int), .int .i64 (a : Int), .int .i64 l] :: .slice (some ⟨hg, 0, none⟩) 1 1 :: .slice (some ⟨g, 0, none⟩) (vn + 1) cap2 :: _ :: _ :: []), defers := [] } _
              refine wpAnyH_ready (rs := [15]) (by kernel_rfl) (by simp) ?_
              refine (AllReadyH.cons rfl (fun KK hK => ?_) AllReadyH.nil)
              obtain ⟨w9, hrun9, om9, hg9⟩ := World.ownsMap.update om8 lawI Try.underlying61 hmax (keyI (x := (b : Int)) (by omega) (by omega)) (rowEl_mk (.inr ⟨g, vn + 1, cap2, rfl⟩))
              have L9 := LA.put (s := ⟨(i : Int), (a : Int), l⟩) hbN (by rw [hvn]; exact hown) (by rw [hva]; exact hgrow) (by rw [hva]; rcases hat with e | e; exact .inl e; exact .inr (by rw [e, hsz]; rfl)) om9 hg9 om8
              have X9 := far_blk hg9 X8 (fun j hj => by cases hj; exact map_ne om8 X8)
              have HB9 := HB8.grown hg9 HB8.size (fun j hj => by cases hj; exact hmB)
              go_simp
              clear hHeld
              refine hK.out _ _ (cells3 X9) (fun hHeld => ?_)
              clear hK KK
              change wpAnyH _ _ _ _ _ _ _ { tmps := List.toArray (_ :: _ :: _ :: .map (some mb) :: _ :: .int .i64 (i : Int) :: .pointer (some ⟨xb, 0, none⟩) :: _ :: _ :: _ :: _ :: _ :: _ :: _ :: _ :: _ :: _ :: _ :: _ :: _ :: _ :: _ :: _ :: _ :: _ :: _ :: _ :: _ :: _ :: _ :: _ :: _ :: _ :: _ :: _ :: _ :: _ :: _ :: _ :: .map (some mb) :: .pointer (some ⟨xb, 1, none⟩) :: .int .i64 (b : Int) :: .map (some mb) :: .pointer (some ⟨xb, 1, none⟩) :: .int .i64 (b : Int) :: .slice va vn vc :: .int .i64 (i : Int) :: .pointer (some ⟨xb, 0, none⟩) :: .int .i64 (a : Int) :: .pointer (some ⟨xb, 2, none⟩) :: .int .i64 l :: .agg #[.int .i64 (i : Int), .int .i64 (a : Int), .int .i64 l] :: .slice (some ⟨hg, 0, none⟩) 1 1 :: .slice (some ⟨g, 0, none⟩) (vn + 1) cap2 :: _ :: _ :: []), defers := [] } _
              refine wpAnyH_done (by kernel_rfl) ?_ _
              have LF := L9.cong (rows' := rowsTo es (i + 1)) (fun x _ => hRS.out x)
              clear L9 hva hvn
              go_wp2
              go_roundw
              case rel =>
                skip
                exact ⟨i + 1, n + 1 + 1, _, _, by omega, by go_num, by omega, LF, HB9⟩
              case measure => simp [intOf]; omega
            
          · skip
            go_simp
            have hal := balloc wd (.cells #[.int .i64 (i : Int), .int .i64 (b : Int), .int .i64 l] 83)
            have LA := L1d.below hal
            have HN := one_block' wd (.cells #[.int .i64 (i : Int), .int .i64 (b : Int), .int .i64 l] 83)
            have hsz := sz1 wd (.cells #[.int .i64 (i : Int), .int .i64 (b : Int), .int .i64 l] 83)
            have HBA := btrans HB1d hal
            have XA := blk_keep hal Xd
            clear hal
            generalize wd.alloc (.cells #[.int .i64 (i : Int), .int .i64 (b : Int), .int .i64 l] 83) = wz at *
            generalize wd.heap.size = hg at *
            clear hHeld
            refine hK.out _ _ (cells3 XA) (fun hHeld => ?_)
            clear hK KK
            change wpAnyH _ _ _ _ _ _ _ { tmps := List.toArray (_ :: _ :: _ :: .map (some mb) :: _ :: .int .i64 (i : Int) :: .pointer (some ⟨xb, 0, none⟩) :: _ :: _ :: _ :: _ :: _ :: _ :: _ :: _ :: _ :: _ :: _ :: _ :: _ :: _ :: _ :: _ :: _ :: .map (some mb) :: .pointer (some ⟨xb, 0, none⟩) :: .int .i64 (a : Int) :: .map (some mb) :: .pointer (some ⟨xb, 0, none⟩) :: .int .i64 (a : Int) :: _ :: .int .i64 (i : Int) :: .pointer (some ⟨xb, 1, none⟩) :: .int .i64 (b : Int) :: .pointer (some ⟨xb, 2, none⟩) :: .int .i64 l :: .agg #[.int .i64 (i : Int), .int .i64 (b : Int), .int .i64 l] :: .slice (some ⟨hg, 0, none⟩) 1 1 :: _ :: _ :: _ :: _ :: _ :: _ :: _ :: _ :: _ :: _ :: _ :: _ :: _ :: _ :: _ :: _ :: _ :: _ :: []), defers := [] } _
            refine wpAnyH_ready (rs := [6]) (by kernel_rfl) (by simp) ?_
            refine (AllReadyH.cons rfl (fun KK hK => ?_) AllReadyH.nil)
            have hlk := LA.look_run haN hN9
            rw [hva] at hlk
            go_simp
            clear hHeld
            refine hK.out _ _ (cells3 XA) (fun hHeld => ?_)
            clear hK KK
            change wpAnyH _ _ _ _ _ _ _ { tmps := List.toArray (_ :: _ :: _ :: .map (some mb) :: _ :: .int .i64 (i : Int) :: .pointer (some ⟨xb, 0, none⟩) :: _ :: _ :: _ :: _ :: _ :: _ :: _ :: _ :: _ :: _ :: _ :: _ :: _ :: _ :: _ :: _ :: _ :: .map (some mb) :: .pointer (some ⟨xb, 0, none⟩) :: .int .i64 (a : Int) :: .map (some mb) :: .pointer (some ⟨xb, 0, none⟩) :: .int .i64 (a : Int) :: .slice va vn vc :: .int .i64 (i : Int) :: .pointer (some ⟨xb, 1, none⟩) :: .int .i64 (b : Int) :: .pointer (some ⟨xb, 2, none⟩) :: .int .i64 l :: .agg #[.int .i64 (i : Int), .int .i64 (b : Int), .int .i64 l] :: .slice (some ⟨hg, 0, none⟩) 1 1 :: _ :: _ :: _ :: _ :: _ :: _ :: _ :: _ :: _ :: _ :: _ :: _ :: _ :: _ :: _ :: _ :: _ :: _ :: []), defers := [] } _
            refine wpAnyH_ready (rs := [14]) (by kernel_rfl) (by simp) ?_
            refine (AllReadyH.cons rfl (fun KK hK => ?_) AllReadyH.nil)
            have hoK := LA.own _ haN
            rw [hva, hvn] at hoK
            refine step_append_lies _ (by rfl) _ _ _ (by rfl) w.heap.size 83 i0 _ 3 24 Try.underlying81 hi0 hz0 hz1 hz2 rfl (by omega) (.slice va vn vc) vn (flatSteps ((rowsTo es i) a)) (by rfl) hoK ⟨hg, 0, none⟩ 1 1 (StepV.vs ⟨(i : Int), (b : Int), l⟩) (by rfl) (by rfl) (World.news_of_block HN) (by simp [StepV.vs, Value.oneCell']) (by omega) (by unfold maxLen; omega) (by omega) (by have := HBA.size; omega) (hg + 1) hsz ?_
            intro g cap2 w8 hown hgrow hat hlt2
            have hfr := own_from hoK (Nat.le_refl _)
            have om8 := LA.map.kept hgrow (fun e => row_map hoK LA.map e.symm)
            have X8 := far_blk hgrow XA (row_ne hoK XA (by decide))
            have HB8 := HBA.grown hgrow HBA.size (fun j hj => hfr j hj)
            clear hHeld
            refine hK.out _ _ (cells3 X8) (fun hHeld => ?_)
            clear hK KK
            change wpAnyH _ _ _ _ _ _ _ { tmps := List.toArray (_ :: _ :: _ :: .map (some mb) :: _ :: .int .i64 (i : Int) :: .pointer (some ⟨xb, 0, none⟩) :: _ :: _ :: _ :: _ :: _ :: _ :: _ :: _ :: _ :: _ :: _ :: _ :: _ :: _ :: _ :: _ :: _ :: .map (some mb) :: .pointer (some ⟨xb, 0, none⟩) :: .int .i64 (a : Int) :: .map (some mb) :: .pointer (some ⟨xb, 0, none⟩) :: .int .i64 (a : Int) :: .slice va vn vc :: .int .i64 (i : Int) :: .pointer (some ⟨xb, 1, none⟩) :: .int .i64 (b : Int) :: .pointer (some ⟨xb, 2, none⟩) :: .int .i64 l :: .agg #[.int .i64 (i : Int), .int .i64 (b : Int), .int .i64 l] :: .slice (some ⟨hg, 0, none⟩) 1 1 :: .slice (some ⟨g, 0, none⟩) (vn + 1) cap2 :: _ :: _ :: _ :: _ :: _ :: _ :: _ :: _ :: _ :: _ :: _ :: _ :: _ :: _ :: _ :: _ :: _ :: []), defers := [] } _
            refine wpAnyH_ready (rs := [15]) (by kernel_rfl) (by simp) ?_
            refine (AllReadyH.cons rfl (fun KK hK => ?_) AllReadyH.nil)
            obtain ⟨w9, hrun9, om9, hg9⟩ := World.ownsMap.update om8 lawI Try.underlying61 hmax (keyI (x := (a : Int)) (by omega) (by omega)) (rowEl_mk (.inr ⟨g, vn + 1, cap2, rfl⟩))
            have L9 := LA.put (s := ⟨(i : Int), (b : Int), l⟩) haN (by rw [hvn]; exact hown) (by rw [hva]; exact hgrow) (by rw [hva]; rcases hat with e | e; exact .inl e; exact .inr (by rw [e, hsz]; rfl)) om9 hg9 om8
            have X9 := far_blk hg9 X8 (fun j hj => by cases hj; exact map_ne om8 X8)
            have HB9 := HB8.grown hg9 HB8.size (fun j hj => by cases hj; exact hmB)
            go_simp
            clear hHeld
            refine hK.out _ _ (cells3 X9) (fun hHeld => ?_)
            clear hK KK
            change wpAnyH _ _ _ _ _ _ _ { tmps := List.toArray (_ :: _ :: _ :: .map (some mb) :: _ :: .int .i64 (i : Int) :: .pointer (some ⟨xb, 0, none⟩) :: _ :: _ :: _ :: _ :: _ :: _ :: _ :: _ :: _ :: _ :: _ :: _ :: _ :: _ :: _ :: _ :: _ :: .map (some mb) :: .pointer (some ⟨xb, 0, none⟩) :: .int .i64 (a : Int) :: .map (some mb) :: .pointer (some ⟨xb, 0, none⟩) :: .int .i64 (a : Int) :: .slice va vn vc :: .int .i64 (i : Int) :: .pointer (some ⟨xb, 1, none⟩) :: .int .i64 (b : Int) :: .pointer (some ⟨xb, 2, none⟩) :: .int .i64 l :: .agg #[.int .i64 (i : Int), .int .i64 (b : Int), .int .i64 l] :: .slice (some ⟨hg, 0, none⟩) 1 1 :: .slice (some ⟨g, 0, none⟩) (vn + 1) cap2 :: _ :: _ :: _ :: _ :: _ :: _ :: _ :: _ :: _ :: _ :: _ :: _ :: _ :: _ :: _ :: _ :: _ :: []), defers := [] } _
            refine wpAnyH_done (by kernel_rfl) ?_ _
            have HB2 := HB9
            have L2 := L9
            have X2 := X9
            clear HB9 L9 X9 om9 hg9 hrun9 HB8 X8 om8 hgrow hown hat HBA LA XA HN hsz hfr hoK hva hvn hvl hmax HB1 L1 X L1d HB1d
            go_upto_region 11 with fail
            obtain ⟨va, vc, hva⟩ := own_form (L2.own b hbN)
            obtain ⟨vn, hvn⟩ : ∃ vn, (upd (rowsTo es i) a (rowsTo es i a ++ [⟨(i : Int), (b : Int), l⟩]) b).length = vn := ⟨_, rfl⟩
            rw [hvn] at hva
            have hvl : vn ≤ 100 := by 
              have h1 := rowsTo_len es i b
              have h2 := rowsTo_len es i a
              rw [← hvn]
              unfold upd
              split <;> simp <;> omega
            have hmax : n + 1 < maxLen := by unfold maxLen; omega
            have L2d : Lin w9.drew _ _ _ _ _ _ _ := L2.below (bdraw (Below.refl _ _) 1)
            have HB2d : Below w.heap.size w w9.drew := bdraw HB2 1
            have X2d : w9.drew.heap[xb]? = _ := X2
            obtain ⟨x0, x1, x2⟩ := cells3 X2
            refine wp_region_held_drew (S := (fun w' => w'.cell? ⟨xb, 0, none⟩ = some (.int .i64 (a : Int)) ∧ w'.cell? ⟨xb, 1, none⟩ = some (.int .i64 (b : Int)) ∧ w'.cell? ⟨xb, 2, none⟩ = some (.int .i64 l))) (by kernel_rfl) ?_ (fun hHeld => ?_)
            · go_keep
            generalize w9.drew = wd at *
            refine wpAnyH_take (i := 0) (v := .map (some mb)) rfl (by kernel_rfl) (by kernel_rfl) (by kernel_rfl) (fun _ _ _ h => h) (Or.inl ⟨by kernel_rfl, fun w hS => by go_simp⟩) hHeld ?_
            change wpAnyH _ _ _ _ _ _ _ { tmps := List.toArray (_ :: _ :: _ :: .map (some mb) :: _ :: .int .i64 (i : Int) :: .pointer (some ⟨xb, 0, none⟩) :: _ :: _ :: _ :: _ :: _ :: _ :: _ :: _ :: _ :: _ :: _ :: _ :: _ :: _ :: _ :: _ :: _ :: _ :: _ :: _ :: _ :: _ :: _ :: _ :: _ :: _ :: _ :: _ :: _ :: _ :: _ :: _ :: .map (some mb) :: _ :: _ :: _ :: _ :: _ :: _ :: _ :: _ :: _ :: _ :: _ :: _ :: _ :: _ :: _ :: _ :: []), defers := [] } _
            refine wpAnyH_take (i := 1) (v := .pointer (some ⟨xb, 1, none⟩)) rfl (by kernel_rfl) (by kernel_rfl) (by kernel_rfl) (fun _ _ _ h => h) (Or.inl ⟨by kernel_rfl, fun w hS => by go_simp⟩) hHeld ?_
            change wpAnyH _ _ _ _ _ _ _ { tmps := List.toArray (_ :: _ :: _ :: .map (some mb) :: _ :: .int .i64 (i : Int) :: .pointer (some ⟨xb, 0, none⟩) :: _ :: _ :: _ :: _ :: _ :: _ :: _ :: _ :: _ :: _ :: _ :: _ :: _ :: _ :: _ :: _ :: _ :: _ :: _ :: _ :: _ :: _ :: _ :: _ :: _ :: _ :: _ :: _ :: _ :: _ :: _ :: _ :: .map (some mb) :: .pointer (some ⟨xb, 1, none⟩) :: _ :: _ :: _ :: _ :: _ :: _ :: _ :: _ :: _ :: _ :: _ :: _ :: _ :: _ :: _ :: []), defers := [] } _
            refine wpAnyH_take (i := 2) (v := .int .i64 (b : Int)) rfl (by kernel_rfl) (by kernel_rfl) (by kernel_rfl) (fun _ _ _ h => h) (Or.inl ⟨by kernel_rfl, fun w hS => by (obtain ⟨hS0, hS1, hS2⟩ := hS; go_simp)⟩) hHeld ?_
            change wpAnyH _ _ _ _ _ _ _ { tmps := List.toArray (_ :: _ :: _ :: .map (some mb) :: _ :: .int .i64 (i : Int) :: .pointer (some ⟨xb, 0, none⟩) :: _ :: _ :: _ :: _ :: _ :: _ :: _ :: _ :: _ :: _ :: _ :: _ :: _ :: _ :: _ :: _ :: _ :: _ :: _ :: _ :: _ :: _ :: _ :: _ :: _ :: _ :: _ :: _ :: _ :: _ :: _ :: _ :: .map (some mb) :: .pointer (some ⟨xb, 1, none⟩) :: .int .i64 (b : Int) :: _ :: _ :: _ :: _ :: _ :: _ :: _ :: _ :: _ :: _ :: _ :: _ :: _ :: _ :: []), defers := [] } _
            refine wpAnyH_take (i := 3) (v := .map (some mb)) rfl (by kernel_rfl) (by kernel_rfl) (by kernel_rfl) (fun _ _ _ h => h) (Or.inl ⟨by kernel_rfl, fun w hS => by go_simp⟩) hHeld ?_
            change wpAnyH _ _ _ _ _ _ _ { tmps := List.toArray (_ :: _ :: _ :: .map (some mb) :: _ :: .int .i64 (i : Int) :: .pointer (some ⟨xb, 0, none⟩) :: _ :: _ :: _ :: _ :: _ :: _ :: _ :: _ :: _ :: _ :: _ :: _ :: _ :: _ :: _ :: _ :: _ :: _ :: _ :: _ :: _ :: _ :: _ :: _ :: _ :: _ :: _ :: _ :: _ :: _ :: _ :: _ :: .map (some mb) :: .pointer (some ⟨xb, 1, none⟩) :: .int .i64 (b : Int) :: .map (some mb) :: _ :: _ :: _ :: _ :: _ :: _ :: _ :: _ :: _ :: _ :: _ :: _ :: _ :: []), defers := [] } _
            refine wpAnyH_take (i := 4) (v := .pointer (some ⟨xb, 1, none⟩)) rfl (by kernel_rfl) (by kernel_rfl) (by kernel_rfl) (fun _ _ _ h => h) (Or.inl ⟨by kernel_rfl, fun w hS => by go_simp⟩) hHeld ?_
            change wpAnyH _ _ _ _ _ _ _ { tmps := List.toArray (_ :: _ :: _ :: .map (some mb) :: _ :: .int .i64 (i : Int) :: .pointer (some ⟨xb, 0, none⟩) :: _ :: _ :: _ :: _ :: _ :: _ :: _ :: _ :: _ :: _ :: _ :: _ :: _ :: _ :: _ :: _ :: _ :: _ :: _ :: _ :: _ :: _ :: _ :: _ :: _ :: _ :: _ :: _ :: _ :: _ :: _ :: _ :: .map (some mb) :: .pointer (some ⟨xb, 1, none⟩) :: .int .i64 (b : Int) :: .map (some mb) :: .pointer (some ⟨xb, 1, none⟩) :: _ :: _ :: _ :: _ :: _ :: _ :: _ :: _ :: _ :: _ :: _ :: _ :: []), defers := [] } _
            refine wpAnyH_take (i := 5) (v := .int .i64 (b : Int)) rfl (by kernel_rfl) (by kernel_rfl) (by kernel_rfl) (fun _ _ _ h => h) (Or.inl ⟨by kernel_rfl, fun w hS => by (obtain ⟨hS0, hS1, hS2⟩ := hS; go_simp)⟩) hHeld ?_
            change wpAnyH _ _ _ _ _ _ _ { tmps := List.toArray (_ :: _ :: _ :: .map (some mb) :: _ :: .int .i64 (i : Int) :: .pointer (some ⟨xb, 0, none⟩) :: _ :: _ :: _ :: _ :: _ :: _ :: _ :: _ :: _ :: _ :: _ :: _ :: _ :: _ :: _ :: _ :: _ :: _ :: _ :: _ :: _ :: _ :: _ :: _ :: _ :: _ :: _ :: _ :: _ :: _ :: _ :: _ :: .map (some mb) :: .pointer (some ⟨xb, 1, none⟩) :: .int .i64 (b : Int) :: .map (some mb) :: .pointer (some ⟨xb, 1, none⟩) :: .int .i64 (b : Int) :: _ :: _ :: _ :: _ :: _ :: _ :: _ :: _ :: _ :: _ :: _ :: []), defers := [] } _
            refine wpAnyH_take (i := 7) (v := .int .i64 (i : Int)) rfl (by kernel_rfl) (by kernel_rfl) (by kernel_rfl) (fun _ _ _ h => h) (Or.inl ⟨by kernel_rfl, fun w hS => by go_simp⟩) hHeld ?_
            change wpAnyH _ _ _ _ _ _ _ { tmps := List.toArray (_ :: _ :: _ :: .map (some mb) :: _ :: .int .i64 (i : Int) :: .pointer (some ⟨xb, 0, none⟩) :: _ :: _ :: _ :: _ :: _ :: _ :: _ :: _ :: _ :: _ :: _ :: _ :: _ :: _ :: _ :: _ :: _ :: _ :: _ :: _ :: _ :: _ :: _ :: _ :: _ :: _ :: _ :: _ :: _ :: _ :: _ :: _ :: .map (some mb) :: .pointer (some ⟨xb, 1, none⟩) :: .int .i64 (b : Int) :: .map (some mb) :: .pointer (some ⟨xb, 1, none⟩) :: .int .i64 (b : Int) :: _ :: .int .i64 (i : Int) :: _ :: _ :: _ :: _ :: _ :: _ :: _ :: _ :: _ :: []), defers := [] } _
            refine wpAnyH_take (i := 8) (v := .pointer (some ⟨xb, 0, none⟩)) rfl (by kernel_rfl) (by kernel_rfl) (by kernel_rfl) (fun _ _ _ h => h) (Or.inl ⟨by kernel_rfl, fun w hS => by go_simp⟩) hHeld ?_
            change wpAnyH _ _ _ _ _ _ _ { tmps := List.toArray (_ :: _ :: _ :: .map (some mb) :: _ :: .int .i64 (i : Int) :: .pointer (some ⟨xb, 0, none⟩) :: _ :: _ :: _ :: _ :: _ :: _ :: _ :: _ :: _ :: _ :: _ :: _ :: _ :: _ :: _ :: _ :: _ :: _ :: _ :: _ :: _ :: _ :: _ :: _ :: _ :: _ :: _ :: _ :: _ :: _ :: _ :: _ :: .map (some mb) :: .pointer (some ⟨xb, 1, none⟩) :: .int .i64 (b : Int) :: .map (some mb) :: .pointer (some ⟨xb, 1, none⟩) :: .int .i64 (b : Int) :: _ :: .int .i64 (i : Int) :: .pointer (some ⟨xb, 0, none⟩) :: _ :: _ :: _ :: _ :: _ :: _ :: _ :: _ :: []), defers := [] } _
            refine wpAnyH_take (i := 9) (v := .int .i64 (a : Int)) rfl (by kernel_rfl) (by kernel_rfl) (by kernel_rfl) (fun _ _ _ h => h) (Or.inl ⟨by kernel_rfl, fun w hS => by (obtain ⟨hS0, hS1, hS2⟩ := hS; go_simp)⟩) hHeld ?_
            change wpAnyH _ _ _ _ _ _ _ { tmps := List.toArray (_ :: _ :: _ :: .map (some mb) :: _ :: .int .i64 (i : Int) :: .pointer (some ⟨xb, 0, none⟩) :: _ :: _ :: _ :: _ :: _ :: _ :: _ :: _ :: _ :: _ :: _ :: _ :: _ :: _ :: _ :: _ :: _ :: _ :: _ :: _ :: _ :: _ :: _ :: _ :: _ :: _ :: _ :: _ :: _ :: _ :: _ :: _ :: .map (some mb) :: .pointer (some ⟨xb, 1, none⟩) :: .int .i64 (b : Int) :: .map (some mb) :: .pointer (some ⟨xb, 1, none⟩) :: .int .i64 (b : Int) :: _ :: .int .i64 (i : Int) :: .pointer (some ⟨xb, 0, none⟩) :: .int .i64 (a : Int) :: _ :: _ :: _ :: _ :: _ :: _ :: _ :: []), defers := [] } _
            refine wpAnyH_take (i := 10) (v := .pointer (some ⟨xb, 2, none⟩)) rfl (by kernel_rfl) (by kernel_rfl) (by kernel_rfl) (fun _ _ _ h => h) (Or.inl ⟨by kernel_rfl, fun w hS => by go_simp⟩) hHeld ?_
            change wpAnyH _ _ _ _ _ _ _ { tmps := List.toArray (_ :: _ :: _ :: .map (some mb) :: _ :: .int .i64 (i : Int) :: .pointer (some ⟨xb, 0, none⟩) :: _ :: _ :: _ :: _ :: _ :: _ :: _ :: _ :: _ :: _ :: _ :: _ :: _ :: _ :: _ :: _ :: _ :: _ :: _ :: _ :: _ :: _ :: _ :: _ :: _ :: _ :: _ :: _ :: _ :: _ :: _ :: _ :: .map (some mb) :: .pointer (some ⟨xb, 1, none⟩) :: .int .i64 (b : Int) :: .map (some mb) :: .pointer (some ⟨xb, 1, none⟩) :: .int .i64 (b : Int) :: _ :: .int .i64 (i : Int) :: .pointer (some ⟨xb, 0, none⟩) :: .int .i64 (a : Int) :: .pointer (some ⟨xb, 2, none⟩) :: _ :: _ :: _ :: _ :: _ :: _ :: []), defers := [] } _
            refine wpAnyH_take (i := 11) (v := .int .i64 l) rfl (by kernel_rfl) (by kernel_rfl) (by kernel_rfl) (fun _ _ _ h => h) (Or.inl ⟨by kernel_rfl, fun w hS => by (obtain ⟨hS0, hS1, hS2⟩ := hS; go_simp)⟩) hHeld ?_
            change wpAnyH _ _ _ _ _ _ _ { tmps := List.toArray (_ :: _ :: _ :: .map (some mb) :: _ :: .int .i64 (i : Int) :: .pointer (some ⟨xb, 0, none⟩) :: _ :: _ :: _ :: _ :: _ :: _ :: _ :: _ :: _ :: _ :: _ :: _ :: _ :: _ :: _ :: _ :: _ :: _ :: _ :: _ :: _ :: _ :: _ :: _ :: _ :: _ :: _ :: _ :: _ :: _ :: _ :: _ :: .map (some mb) :: .pointer (some ⟨xb, 1, none⟩) :: .int .i64 (b : Int) :: .map (some mb) :: .pointer (some ⟨xb, 1, none⟩) :: .int .i64 (b : Int) :: _ :: .int .i64 (i : Int) :: .pointer (some ⟨xb, 0, none⟩) :: .int .i64 (a : Int) :: .pointer (some ⟨xb, 2, none⟩) :: .int .i64 l :: _ :: _ :: _ :: _ :: _ :: []), defers := [] } _
            refine wpAnyH_take (i := 12) (v := .agg #[.int .i64 (i : Int), .int .i64 (a : Int), .int .i64 l]) rfl (by kernel_rfl) (by kernel_rfl) (by kernel_rfl) (fun _ _ _ h => h) (Or.inl ⟨by kernel_rfl, fun w hS => by go_simp⟩) hHeld ?_
            change wpAnyH _ _ _ _ _ _ _ { tmps := List.toArray (_ :: _ :: _ :: .map (some mb) :: _ :: .int .i64 (i : Int) :: .pointer (some ⟨xb, 0, none⟩) :: _ :: _ :: _ :: _ :: _ :: _ :: _ :: _ :: _ :: _ :: _ :: _ :: _ :: _ :: _ :: _ :: _ :: _ :: _ :: _ :: _ :: _ :: _ :: _ :: _ :: _ :: _ :: _ :: _ :: _ :: _ :: _ :: .map (some mb) :: .pointer (some ⟨xb, 1, none⟩) :: .int .i64 (b : Int) :: .map (some mb) :: .pointer (some ⟨xb, 1, none⟩) :: .int .i64 (b : Int) :: _ :: .int .i64 (i : Int) :: .pointer (some ⟨xb, 0, none⟩) :: .int .i64 (a : Int) :: .pointer (some ⟨xb, 2, none⟩) :: .int .i64 l :: .agg #[.int .i64 (i : Int), .int .i64 (a : Int), .int .i64 l] :: _ :: _ :: _ :: _ :: []), defers := [] } _
            refine wpAnyH_ready (rs := [6, 13]) (by kernel_rfl) (by simp) ?_
            refine (AllReadyH.cons rfl (fun KK hK => ?_) (AllReadyH.cons rfl (fun KK hK => ?_) AllReadyH.nil))
            · skip
              have hlk := L2d.look_run hbN hN9
              rw [hva] at hlk
              go_simp
              clear hHeld
              refine hK.out _ _ (cells3 X2d) (fun hHeld => ?_)
              clear hK KK
              change wpAnyH _ _ _ _ _ _ _ { tmps := List.toArray (_ :: _ :: _ :: .map (some mb) :: _ :: .int .i64 (i : Int) :: .pointer (some ⟨xb, 0, none⟩) :: _ :: _ :: _ :: _ :: _ :: _ :: _ :: _ :: _ :: _ :: _ :: _ :: _ :: _ :: _ :: _ :: _ :: _ :: _ :: _ :: _ :: _ :: _ :: _ :: _ :: _ :: _ :: _ :: _ :: _ :: _ :: _ :: .map (some mb) :: .pointer (some ⟨xb, 1, none⟩) :: .int .i64 (b : Int) :: .map (some mb) :: .pointer (some ⟨xb, 1, none⟩) :: .int .i64 (b : Int) :: .slice va vn vc :: .int .i64 (i : Int) :: .pointer (some ⟨xb, 0, none⟩) :: .int .i64 (a : Int) :: .pointer (some ⟨xb, 2, none⟩) :: .int .i64 l :: .agg #[.int .i64 (i : Int), .int .i64 (a : Int), .int .i64 l] :: _ :: _ :: _ :: _ :: []), defers := [] } _
              refine wpAnyH_ready (rs := [13]) (by kernel_rfl) (by simp) ?_
              refine (AllReadyH.cons rfl (fun KK hK => ?_) AllReadyH.nil)
              go_simp
              have hal := balloc wd (.cells #[.int .i64 (i : Int), .int .i64 (a : Int), .int .i64 l] 83)
              have LA := L2d.below hal
              have HN := one_block' wd (.cells #[.int .i64 (i : Int), .int .i64 (a : Int), .int .i64 l] 83)
              have hsz := sz1 wd (.cells #[.int .i64 (i : Int), .int .i64 (a : Int), .int .i64 l] 83)
              have HBA := btrans HB2d hal
              have XA := blk_keep hal X2d
              clear hal
              generalize wd.alloc (.cells #[.int .i64 (i : Int), .int .i64 (a : Int), .int .i64 l] 83) = wz at *
              generalize wd.heap.size = hg at *
              clear hHeld
              refine hK.out _ _ (cells3 XA) (fun hHeld => ?_)
              clear hK KK
              change wpAnyH _ _ _ _ _ _ _ { tmps := List.toArray (_ :: _ :: _ :: .map (some mb) :: _ :: .int .i64 (i : Int) :: .pointer (some ⟨xb, 0, none⟩) :: _ :: _ :: _ :: _ :: _ :: _ :: _ :: _ :: _ :: _ :: _ :: _ :: _ :: _ :: _ :: _ :: _ :: _ :: _ :: _ :: _ :: _ :: _ :: _ :: _ :: _ :: _ :: _ :: _ :: _ :: _ :: _ :: .map (some mb) :: .pointer (some ⟨xb, 1, none⟩) :: .int .i64 (b : Int) :: .map (some mb) :: .pointer (some ⟨xb, 1, none⟩) :: .int .i64 (b : Int) :: .slice va vn vc :: .int .i64 (i : Int) :: .pointer (some ⟨xb, 0, none⟩) :: .int .i64 (a : Int) :: .pointer (some ⟨xb, 2, none⟩) :: .int .i64 l :: .agg #[.int .i64 (i : Int), .int .i64 (a : Int), .int .i64 l] :: .slice (some ⟨hg, 0, none⟩) 1 1 :: _ :: _ :: _ :: []), defers := [] } _
              refine wpAnyH_ready (rs := [14]) (by kernel_rfl) (by simp) ?_
              refine (AllReadyH.cons rfl (fun KK hK => ?_) AllReadyH.nil)
              have hoK := LA.own _ hbN
              rw [hva, hvn] at hoK
              refine step_append_lies _ (by rfl) _ _ _ (by rfl) w.heap.size 83 i0 _ 3 24 Try.underlying81 hi0 hz0 hz1 hz2 rfl (by omega) (.slice va vn vc) vn (flatSteps ((upd (rowsTo es i) a (rowsTo es i a ++ [⟨(i : Int), (b : Int), l⟩])) b)) (by rfl) hoK ⟨hg, 0, none⟩ 1 1 (StepV.vs ⟨(i : Int), (a : Int), l⟩) (by rfl) (by rfl) (World.news_of_block HN) (by simp [StepV.vs, Value.oneCell']) (by omega) (by unfold maxLen; omega) (by omega) (by have := HBA.size; omega) (hg + 1) hsz ?_
              intro g cap2 w8 hown hgrow hat hlt2
              have hfr := own_from hoK (Nat.le_refl _)
              have om8 := LA.map.kept hgrow (fun e => row_map hoK LA.map e.symm)
              have X8 := far_blk hgrow XA (row_ne hoK XA (by decide))
              have HB8 := HBA.grown hgrow HBA.size (fun j hj => hfr j hj)
              clear hHeld
              refine hK.out _ _ (cells3 X8) (fun hHeld => ?_)
              clear hK KK
              change wpAnyH _ _ _ _ _ _ _ { tmps := List.toArray (_ :: _ :: _ :: .map (some mb) :: _ :: .int .i64 (i : Int) :: .pointer (some ⟨xb, 0, none⟩) :: _ :: _ :: _ :: _ :: _ :: _ :: _ :: _ :: _ :: _ :: _ :: _ :: _ :: _ :: _ :: _ :: _ :: _ :: _ :: _ :: _ :: _ :: _ :: _ :: _ :: _ :: _ :: _ :: _ :: _ :: _ :: _ :: .map (some mb) :: .pointer (some ⟨xb, 1, none⟩) :: .int .i64 (b : Int) :: .map (some mb) :: .pointer (some ⟨xb, 1, none⟩) :: .int .i64 (b : Int) :: .slice va vn vc :: .int .i64 (i : Int) :: .pointer (some ⟨xb, 0, none⟩) :: .int .i64 (a : Int) :: .pointer (some ⟨xb, 2, none⟩) :: .int .i64 l :: .agg #[.int .i64 (i : Int), .int .i64 (a : Int), .int .i64 l] :: .slice (some ⟨hg, 0, none⟩) 1 1 :: .slice (some ⟨g, 0, none⟩) (vn + 1) cap2 :: _ :: _ :: []), defers := [] } _
              refine wpAnyH_ready (rs := [15]) (by kernel_rfl) (by simp) ?_
              refine (AllReadyH.cons rfl (fun KK hK => ?_) AllReadyH.nil)
              obtain ⟨w9, hrun9, om9, hg9⟩ := World.ownsMap.update om8 lawI Try.underlying61 hmax (keyI (x := (b : Int)) (by omega) (by omega)) (rowEl_mk (.inr ⟨g, vn + 1, cap2, rfl⟩))
              have L9 := LA.put (s := ⟨(i : Int), (a : Int), l⟩) hbN (by rw [hvn]; exact hown) (by rw [hva]; exact hgrow) (by rw [hva]; rcases hat with e | e; exact .inl e; exact .inr (by rw [e, hsz]; rfl)) om9 hg9 om8
              have X9 := far_blk hg9 X8 (fun j hj => by cases hj; exact map_ne om8 X8)
              have HB9 := HB8.grown hg9 HB8.size (fun j hj => by cases hj; exact hmB)
              go_simp
              clear hHeld
              refine hK.out _ _ (cells3 X9) (fun hHeld => ?_)
              clear hK KK
              change wpAnyH _ _ _ _ _ _ _ { tmps := List.toArray (_ :: _ :: _ :: .map (some mb) :: _ :: .int .i64 (i : Int) :: .pointer (some ⟨xb, 0, none⟩) :: _ :: _ :: _ :: _ :: _ :: _ :: _ :: _ :: _ :: _ :: _ :: _ :: _ :: _ :: _ :: _ :: _ :: _ :: _ :: _ :: _ :: _ :: _ :: _ :: _ :: _ :: _ :: _ :: _ :: _ :: _ :: _ :: .map (some mb) :: .pointer (some ⟨xb, 1, none⟩) :: .int .i64 (b : Int) :: .map (some mb) :: .pointer (some ⟨xb, 1, none⟩) :: .int .i64 (b : Int) :: .slice va vn vc :: .int .i64 (i : Int) :: .pointer (some ⟨xb, 0, none⟩) :: .int .i64 (a : Int) :: .pointer (some ⟨xb, 2, none⟩) :: .int .i64 l :: .agg #[.int .i64 (i : Int), .int .i64 (a : Int), .int .i64 l] :: .slice (some ⟨hg, 0, none⟩) 1 1 :: .slice (some ⟨g, 0, none⟩) (vn + 1) cap2 :: _ :: _ :: []), defers := [] } _
              refine wpAnyH_done (by kernel_rfl) ?_ _
              have LF := L9.cong (rows' := rowsTo es (i + 1)) (fun x _ => hRS.out x)
              clear L9 hva hvn
              go_wp2
              go_roundw
              case rel =>
                skip
                exact ⟨i + 1, n + 1 + 1, _, _, by omega, by go_num, by omega, LF, HB9⟩
              case measure => simp [intOf]; omega
            · skip
              go_simp
              have hal := balloc wd (.cells #[.int .i64 (i : Int), .int .i64 (a : Int), .int .i64 l] 83)
              have LA := L2d.below hal
              have HN := one_block' wd (.cells #[.int .i64 (i : Int), .int .i64 (a : Int), .int .i64 l] 83)
              have hsz := sz1 wd (.cells #[.int .i64 (i : Int), .int .i64 (a : Int), .int .i64 l] 83)
              have HBA := btrans HB2d hal
              have XA := blk_keep hal X2d
              clear hal
              generalize wd.alloc (.cells #[.int .i64 (i : Int), .int .i64 (a : Int), .int .i64 l] 83) = wz at *
              generalize wd.heap.size = hg at *
              clear hHeld
              refine hK.out _ _ (cells3 XA) (fun hHeld => ?_)
              clear hK KK
              change wpAnyH _ _ _ _ _ _ _ { tmps := List.toArray (_ :: _ :: _ :: .map (some mb) :: _ :: .int .i64 (i : Int) :: .pointer (some ⟨xb, 0, none⟩) :: _ :: _ :: _ :: _ :: _ :: _ :: _ :: _ :: _ :: _ :: _ :: _ :: _ :: _ :: _ :: _ :: _ :: _ :: _ :: _ :: _ :: _ :: _ :: _ :: _ :: _ :: _ :: _ :: _ :: _ :: _ :: _ :: .map (some mb) :: .pointer (some ⟨xb, 1, none⟩) :: .int .i64 (b : Int) :: .map (some mb) :: .pointer (some ⟨xb, 1, none⟩) :: .int .i64 (b : Int) :: _ :: .int .i64 (i : Int) :: .pointer (some ⟨xb, 0, none⟩) :: .int .i64 (a : Int) :: .pointer (some ⟨xb, 2, none⟩) :: .int .i64 l :: .agg #[.int .i64 (i : Int), .int .i64 (a : Int), .int .i64 l] :: .slice (some ⟨hg, 0, none⟩) 1 1 :: _ :: _ :: _ :: []), defers := [] } _
              refine wpAnyH_ready (rs := [6]) (by kernel_rfl) (by simp) ?_
              refine (AllReadyH.cons rfl (fun KK hK => ?_) AllReadyH.nil)
              have hlk := LA.look_run hbN hN9
              rw [hva] at hlk
              go_simp
              clear hHeld
              refine hK.out _ _ (cells3 XA) (fun hHeld => ?_)
              clear hK KK
              change wpAnyH _ _ _ _ _ _ _ { tmps := List.toArray (_ :: _ :: _ :: .map (some mb) :: _ :: .int .i64 (i : Int) :: .pointer (some ⟨xb, 0, none⟩) :: _ :: _ :: _ :: _ :: _ :: _ :: _ :: _ :: _ :: _ :: _ :: _ :: _ :: _ :: _ :: _ :: _ :: _ :: _ :: _ :: _ :: _ :: _ :: _ :: _ :: _ :: _ :: _ :: _ :: _ :: _ :: _ :: .map (some mb) :: .pointer (some ⟨xb, 1, none⟩) :: .int .i64 (b : Int) :: .map (some mb) :: .pointer (some ⟨xb, 1, none⟩) :: .int .i64 (b : Int) :: .slice va vn vc :: .int .i64 (i : Int) :: .pointer (some ⟨xb, 0, none⟩) :: .int .i64 (a : Int) :: .pointer (some ⟨xb, 2, none⟩) :: .int .i64 l :: .agg #[.int .i64 (i : Int), .int .i64 (a : Int), .int .i64 l] :: .slice (some ⟨hg, 0, none⟩) 1 1 :: _ :: _ :: _ :: []), defers := [] } _
              refine wpAnyH_ready (rs := [14]) (by kernel_rfl) (by simp) ?_
              refine (AllReadyH.cons rfl (fun KK hK => ?_) AllReadyH.nil)
              have hoK := LA.own _ hbN
              rw [hva, hvn] at hoK
              refine step_append_lies _ (by rfl) _ _ _ (by rfl) w.heap.size 83 i0 _ 3 24 Try.underlying81 hi0 hz0 hz1 hz2 rfl (by omega) (.slice va vn vc) vn (flatSteps ((upd (rowsTo es i) a (rowsTo es i a ++ [⟨(i : Int), (b : Int), l⟩])) b)) (by rfl) hoK ⟨hg, 0, none⟩ 1 1 (StepV.vs ⟨(i : Int), (a : Int), l⟩) (by rfl) (by rfl) (World.news_of_block HN) (by simp [StepV.vs, Value.oneCell']) (by omega) (by unfold maxLen; omega) (by omega) (by have := HBA.size; omega) (hg + 1) hsz ?_
              intro g cap2 w8 hown hgrow hat hlt2
              have hfr := own_from hoK (Nat.le_refl _)
              have om8 := LA.map.kept hgrow (fun e => row_map hoK LA.map e.symm)
              have X8 := far_blk hgrow XA (row_ne hoK XA (by decide))
              have HB8 := HBA.grown hgrow HBA.size (fun j hj => hfr j hj)
              clear hHeld
              refine hK.out _ _ (cells3 X8) (fun hHeld => ?_)
              clear hK KK
              change wpAnyH _ _ _ _ _ _ _ { tmps := List.toArray (_ :: _ :: _ :: .map (some mb) :: _ :: .int .i64 (i : Int) :: .pointer (some ⟨xb, 0, none⟩) :: _ :: _ :: _ :: _ :: _ :: _ :: _ :: _ :: _ :: _ :: _ :: _ :: _ :: _ :: _ :: _ :: _ :: _ :: _ :: _ :: _ :: _ :: _ :: _ :: _ :: _ :: _ :: _ :: _ :: _ :: _ :: _ :: .map (some mb) :: .pointer (some ⟨xb, 1, none⟩) :: .int .i64 (b : Int) :: .map (some mb) :: .pointer (some ⟨xb, 1, none⟩) :: .int .i64 (b : Int) :: .slice va vn vc :: .int .i64 (i : Int) :: .pointer (some ⟨xb, 0, none⟩) :: .int .i64 (a : Int) :: .pointer (some ⟨xb, 2, none⟩) :: .int .i64 l :: .agg #[.int .i64 (i : Int), .int .i64 (a : Int), .int .i64 l] :: .slice (some ⟨hg, 0, none⟩) 1 1 :: .slice (some ⟨g, 0, none⟩) (vn + 1) cap2 :: _ :: _ :: []), defers := [] } _
              refine wpAnyH_ready (rs := [15]) (by kernel_rfl) (by simp) ?_
              refine (AllReadyH.cons rfl (fun KK hK => ?_) AllReadyH.nil)
              obtain ⟨w9, hrun9, om9, hg9⟩ := World.ownsMap.update om8 lawI Try.underlying61 hmax (keyI (x := (b : Int)) (by omega) (by omega)) (rowEl_mk (.inr ⟨g, vn + 1, cap2, rfl⟩))
              have L9 := LA.put (s := ⟨(i : Int), (a : Int), l⟩) hbN (by rw [hvn]; exact hown) (by rw [hva]; exact hgrow) (by rw [hva]; rcases hat with e | e; exact .inl e; exact .inr (by rw [e, hsz]; rfl)) om9 hg9 om8
              have X9 := far_blk hg9 X8 (fun j hj => by cases hj; exact map_ne om8 X8)
              have HB9 := HB8.grown hg9 HB8.size (fun j hj => by cases hj; exact hmB)
              go_simp
              clear hHeld
              refine hK.out _ _ (cells3 X9) (fun hHeld => ?_)
              clear hK KK
              change wpAnyH _ _ _ _ _ _ _ { tmps := List.toArray (_ :: _ :: _ :: .map (some mb) :: _ :: .int .i64 (i : Int) :: .pointer (some ⟨xb, 0, none⟩) :: _ :: _ :: _ :: _ :: _ :: _ :: _ :: _ :: _ :: _ :: _ :: _ :: _ :: _ :: _ :: _ :: _ :: _ :: _ :: _ :: _ :: _ :: _ :: _ :: _ :: _ :: _ :: _ :: _ :: _ :: _ :: _ :: .map (some mb) :: .pointer (some ⟨xb, 1, none⟩) :: .int .i64 (b : Int) :: .map (some mb) :: .pointer (some ⟨xb, 1, none⟩) :: .int .i64 (b : Int) :: .slice va vn vc :: .int .i64 (i : Int) :: .pointer (some ⟨xb, 0, none⟩) :: .int .i64 (a : Int) :: .pointer (some ⟨xb, 2, none⟩) :: .int .i64 l :: .agg #[.int .i64 (i : Int), .int .i64 (a : Int), .int .i64 l] :: .slice (some ⟨hg, 0, none⟩) 1 1 :: .slice (some ⟨g, 0, none⟩) (vn + 1) cap2 :: _ :: _ :: []), defers := [] } _
              refine wpAnyH_done (by kernel_rfl) ?_ _
              have LF := L9.cong (rows' := rowsTo es (i + 1)) (fun x _ => hRS.out x)
              clear L9 hva hvn
              go_wp2
              go_roundw
              case rel =>
                skip
                exact ⟨i + 1, n + 1 + 1, _, _, by omega, by go_num, by omega, LF, HB9⟩
              case measure => simp [intOf]; omega
            
        · obtain rfl : i = es.length := by omega
          go_wp2
          go_ret
          exact ⟨w.heap.size + 1, n, rv, D, rfl, by omega, L, HB⟩
end Go.Proofs.Ytdjambejppanoaa
