/- The program's NetOk. -/
import Derived.Test.YtdjambejppanoaaNA
import Derived.Deep.RegionWith
namespace Go.Proofs.Ytdjambejppanoaa
open Go.RowKit
def goodTo (n : Int) (es : List EdgeV) (k : Nat) : Bool := (List.range k).all (fun i => edgeB n (es.getD i EdgeV.zero))
def netB (n : Int) (es : List EdgeV) : Bool := inB n 1 30 && (decide (es.length ≤ 60) && goodTo n es es.length)

theorem goodTo_succ {n : Int} {es : List EdgeV} {k : Nat} (h : goodTo n es k = true) (g : edgeB n (es.getD k EdgeV.zero) = true) : goodTo n es (k + 1) = true := by
  simp only [goodTo, List.range_succ, List.all_append, List.all_cons, List.all_nil, Bool.and_true, Bool.and_eq_true]
  exact ⟨h, g⟩
theorem goodTo_at {n : Int} {es : List EdgeV} {k i : Nat} (h : goodTo n es k = true) (hi : i < k) : edgeB n (es.getD i EdgeV.zero) = true := by
  simp only [goodTo, List.all_eq_true, List.mem_range] at h
  exact h i hi
theorem netB_bad {n : Int} {es : List EdgeV} {k : Nat} (hk : k < es.length) (g : edgeB n (es.getD k EdgeV.zero) = false) : netB n es = false := by
  have : goodTo n es es.length = false := by
    cases h : goodTo n es es.length
    · rfl
    · rw [goodTo_at h hk] at g; cases g
  simp only [netB, this, Bool.and_false]
theorem netB_n {n : Int} {es : List EdgeV} (h : inB n 1 30 = false) : netB n es = false := by simp only [netB, h, Bool.false_and]
theorem netB_long {n : Int} {es : List EdgeV} (h : 60 < es.length) : netB n es = false := by
  have : decide (es.length ≤ 60) = false := by simp; omega
  simp only [netB, this, Bool.false_and, Bool.and_false]
theorem netB_all {n : Int} {es : List EdgeV} (h1 : inB n 1 30 = true) (h2 : es.length ≤ 60) (h3 : goodTo n es es.length = true) : netB n es = true := by
  simp only [netB, h1, h2, h3, decide_true, Bool.and_true]

set_option maxHeartbeats 1600000 in
theorem cNetI (a : Option Addr) (cap : Nat) (n : Int) (es : List EdgeV) (w : World) (he : Edges w a es) (hl : es.length ≤ 1048576) :
    Calls Try.prog 35 #[.agg #[.int .i64 n, .slice a es.length cap]] w fun e w' => e = .returned (.bool (netB n es)) ∧ Below w.heap.size w w' := by
  have hW := balloc w (.cells #[.int .i64 n, .slice a es.length cap] 26)
  have X0 := Bx2.new w (.int .i64 n) (.slice a es.length cap) 26
  cases hn : inB n 1 30
  · have R := hide (netB_n (es := es) hn)
    rcases inB_false hn with h1 | ⟨h1, h2⟩
    · go_enter Try.func35, Try.ntmps35
      go_wp2
      go_ret
      exact ⟨ret_bool R.out.symm, hW⟩
    · go_enter Try.func35, Try.ntmps35
      go_wp2
      go_ret
      exact ⟨ret_bool R.out.symm, hW⟩
  obtain ⟨hn1, hn2⟩ := inB_true hn
  by_cases h60 : 60 < es.length
  · have R := hide (netB_long (n := n) h60)
    go_enter Try.func35, Try.ntmps35
    go_wp2
    go_ret
    exact ⟨ret_bool R.out.symm, hW⟩
  go_enter Try.func35, Try.ntmps35
  go_wp2
  go_loopw [4, 22] (fun _ i wr => ∃ k : Nat, k ≤ es.length ∧ goodTo n es k = true ∧ i = .int .i64 k ∧ Below (w.heap.size + 1) (w.alloc (.cells #[.int .i64 n, .slice a es.length cap] 26)) wr) (fun _ i _ => es.length - (intOf i).toNat)
  case atStart => exact ⟨0, Nat.zero_le _, rfl, rfl, Below.refl _ _⟩
  case round =>
    obtain ⟨k, hk, hgo, rfl, hb⟩ := hrel
    have hb' : Below (w.alloc (.cells #[.int .i64 n, .slice a es.length cap] 26)).heap.size (w.alloc (.cells #[.int .i64 n, .slice a es.length cap] 26)) wr := by rw [sz1]; exact hb
    have fin : Below w.heap.size w wr := btrans hW hb'
    have X := X0.below hb'
    clear hb' hW X0
    by_cases hlt : k < es.length
    · rcases he with he | ⟨b, off, rfl, hc⟩
      · simp [he] at hlt
      obtain ⟨q0, q1, q2, q3⟩ := hc k hlt
      have p0 := ble fin q0
      have p1 := ble fin q1
      have p2 := ble fin q2
      have p3 := ble fin q3
      have hbs := cell_lt q0
      clear hc q0 q1 q2 q3
      have e0 : es.getD k EdgeV.zero = es[k] := by simp [List.getD, hlt]
      have hws : w.heap.size < wr.heap.size := cell_lt X.1
      cases hg : edgeB n es[k]
      · have R := hide (netB_bad (n := n) hlt (by rw [e0]; exact hg))
        clear e0
        obtain ⟨x0, x1⟩ := id X
        go_wp2_with fail
        refine (cEdgeOk _ _ es[k] _).mono ?_
        rintro e w1 ⟨rfl, hb1⟩
        have F1 := btrans (btrans fin (balloc _ _)) hb1
        rw [hg]
        clear hb1
        go_wp2
        go_ret
        exact ⟨ret_bool R.out.symm, F1⟩
      · have R := goodTo_succ hgo (by rw [e0]; exact hg)
        clear e0
        obtain ⟨x0, x1⟩ := id X
        go_wp2_with fail
        refine (cEdgeOk _ _ es[k] _).mono ?_
        rintro e w1 ⟨rfl, hb1⟩
        have F1 := btrans (btrans fin (balloc _ _)) hb1
        rw [hg]
        have F2 : Below (w.heap.size + 1) (w.alloc (.cells #[.int .i64 n, .slice (some ⟨b, off, none⟩) es.length cap] 26)) w1 := by
          refine hb.trans (((balloc wr _).mono ?_).trans (hb1.mono ?_))
          · omega
          · rw [sz1]; omega
        clear hb1
        go_wp2
        go_roundw
        case rel => exact ⟨k + 1, by omega, R, by go_num, F2⟩
        case measure => simp [intOf]; omega
    · have hkk : k = es.length := by omega
      subst hkk
      have R := hide (netB_all hn (by omega) hgo)
      clear he
      go_wp2
      go_ret
      exact ⟨ret_bool R.out.symm, fin⟩
end Go.Proofs.Ytdjambejppanoaa
