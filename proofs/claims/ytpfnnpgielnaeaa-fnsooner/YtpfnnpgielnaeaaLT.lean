/- The latest minute, of both. -/
import Derived.Test.YtpfnnpgielnaeaaSI
namespace Go.Proofs.Ytpfnnpgielnaeaa
open Go.RowKit Go.Maps

/-- What Latest tells. -/
def LateAns (ts : List TripV) (f u by_ ch h r : Int) : Prop := (¬ AskP ts f u by_ ch h ∧ r = -1) ∨ (AskP ts f u by_ ch h ∧ IsLatest ts f u ch by_ h.toNat r)
theorem LateAns.uniq {ts : List TripV} {f u by_ ch h r r' : Int} (a : LateAns ts f u by_ ch h r) (b : LateAns ts f u by_ ch h r') : r = r' := by
  rcases a with ⟨a1, a2⟩ | ⟨a1, a2⟩ <;> rcases b with ⟨b1, b2⟩ | ⟨b1, b2⟩
  · omega
  · exact absurd b1 a1
  · exact absurd a1 b1
  · exact IsLatest.uniq a2 b2
theorem AskP.sooner {ts : List TripV} {f u by_ ch h m : Int} (q : AskP ts f u by_ ch h) (h0 : 0 ≤ m) (h1 : m ≤ by_) : AskP ts f u m ch h :=
  ⟨q.1, q.2.1, q.2.2.1, inB_yes h0 (by have := inB_true q.2.2.2.1; omega), q.2.2.2.2⟩
theorem soon_late {ts : List TripV} {f u by_ ch h m r : Int} (q : AskP ts f u m ch h) (s : SoonAns ts f u m ch h r) : (r < 0 ∨ by_ < r) ↔ ¬ InTime ts f u ch by_ h.toNat m := by
  rcases s with ⟨s, _⟩ | ⟨_, s⟩
  · exact absurd q s
  · obtain ⟨hg, _, _, hm, hc, _⟩ := q.parts
    exact soon_intime hg hc.1 hm.1 s

set_option maxRecDepth 20000 in
set_option maxHeartbeats 1600000 in
theorem cLate1 (a : Option Addr) (cap : Nat) (ts : List TripV) (f u by_ ch h : Int) (b0 b1 b2 b3 b4 b5 : Nat) (m : Int) (w : World) (hz : Trips w a ts) (hS : Small ts) (q : AskP ts f u m ch h)
    (c0 : w.cell? ⟨b0, 0, none⟩ = some (.slice a ts.length cap)) (c1 : w.cell? ⟨b1, 0, none⟩ = some (.int .i64 f)) (c2 : w.cell? ⟨b2, 0, none⟩ = some (.int .i64 u)) (c3 : w.cell? ⟨b3, 0, none⟩ = some (.int .i64 by_)) (c4 : w.cell? ⟨b4, 0, none⟩ = some (.int .i64 ch)) (c5 : w.cell? ⟨b5, 0, none⟩ = some (.int .i64 h)) :
    Calls Try.prog 49 #[.int .i64 m, .pointer (some ⟨b0, 0, none⟩), .pointer (some ⟨b1, 0, none⟩), .pointer (some ⟨b2, 0, none⟩), .pointer (some ⟨b4, 0, none⟩), .pointer (some ⟨b5, 0, none⟩), .pointer (some ⟨b3, 0, none⟩)] w (AnsIff w (¬ InTime ts f u ch by_ h.toNat m)) := by
  go_enter Try.func49, Try.ntmps49
  go_wp2_with fail
  refine (cSoonI a cap ts f u m ch h _ hz hS).mono ?_
  rintro e w1 ⟨r, rfl, hr, hb⟩
  have hL := hide (soon_late (by_ := by_) q hr)
  have c3' := ble hb c3
  clear hr q c0 c1 c2 c4 c5 c3
  by_cases h0 : r < 0
  · have hF := hide (hL.out.1 (.inl h0))
    clear hL
    go_wp2
    go_ret
    exact AnsIff.yes hF.out hb
  · by_cases h1 : by_ < r
    · have hF := hide (hL.out.1 (.inr h1))
      clear hL
      go_wp2
      go_ret
      exact AnsIff.yes hF.out hb
    · have hF : Hid (¬ ¬ InTime ts f u ch by_ h.toNat m) := hide (fun k => by have := hL.out.2 k; omega)
      have h1' : ¬ (r > by_) := by omega
      clear hL
      go_wp2
      go_ret
      have e0 : (decide (by_ < r)) = false := by simpa using h1
      have e1 : (decide (r < 0)) = false := by simpa using h0
      simp only [e0, e1, Bool.or_false]
      exact AnsIff.no hF.out hb

set_option maxRecDepth 20000 in
set_option maxHeartbeats 1600000 in
theorem cLateSearch (a : Option Addr) (cap : Nat) (ts : List TripV) (f u ch h : Int) (B b0 b1 b2 b3 b4 b5 : Nat) (w : World) (hz : Trips w a ts) (hS : Small ts) (q : AskP ts f u B ch h)
    (c0 : w.cell? ⟨b0, 0, none⟩ = some (.slice a ts.length cap)) (c1 : w.cell? ⟨b1, 0, none⟩ = some (.int .i64 f)) (c2 : w.cell? ⟨b2, 0, none⟩ = some (.int .i64 u)) (c3 : w.cell? ⟨b3, 0, none⟩ = some (.int .i64 B)) (c4 : w.cell? ⟨b4, 0, none⟩ = some (.int .i64 ch)) (c5 : w.cell? ⟨b5, 0, none⟩ = some (.int .i64 h)) :
    Calls Try.prog 48 #[.int .i64 ((B : Int) + 1), .func (.func 49) #[] #[.pointer (some ⟨b0, 0, none⟩), .pointer (some ⟨b1, 0, none⟩), .pointer (some ⟨b2, 0, none⟩), .pointer (some ⟨b4, 0, none⟩), .pointer (some ⟨b5, 0, none⟩), .pointer (some ⟨b3, 0, none⟩)]] w fun e w' => ∃ r : Nat, e = .returned (.int .i64 r) ∧
      (r ≤ B + 1 ∧ (∀ k, k < r → InTime ts f u ch B h.toNat (k : Nat)) ∧ (r ≤ B → ¬ InTime ts f u ch B h.toNat (r : Nat))) ∧ Below w.heap.size w w' := by
  obtain ⟨-, -, -, hB, hch, -⟩ := q.parts
  go_enter Try.func48, Try.ntmps48
  go_wp2
  go_loopw [5, 6] (fun ii jj wr => ∃ i j : Nat, ii = .int .i64 i ∧ jj = .int .i64 j ∧ i ≤ j ∧ j ≤ B + 1 ∧ Hid ((∀ k, k < i → InTime ts f u ch B h.toNat (k : Nat)) ∧ (j ≤ B → ¬ InTime ts f u ch B h.toNat (j : Nat))) ∧ Below w.heap.size w wr) (fun ii jj _ => (intOf jj).toNat - (intOf ii).toNat)
  case atStart => exact ⟨0, B + 1, rfl, by go_num, Nat.zero_le _, Nat.le_refl _, hide ⟨fun k hk => by omega, fun h => by omega⟩, Below.refl _ _⟩
  case round =>
    obtain ⟨lo, hi, rfl, rfl, h1, h2, hI, hb⟩ := hrel
    by_cases hlt : lo < hi
    · have hlt' : (lo : Int) < (hi : Int) := by omega
      obtain ⟨m, hm, hm1, hm2⟩ : ∃ m : Nat, ((lo : Int) + (hi : Int)) / 2 = (m : Int) ∧ lo ≤ m ∧ m < hi := ⟨(lo + hi) / 2, by omega, by omega, by omega⟩
      have CL := cLate1 a cap ts f u B ch h b0 b1 b2 b3 b4 b5 m wr (hz.below hb) hS (q.sooner (by omega) (by omega)) (ble hb c0) (ble hb c1) (ble hb c2) (ble hb c3) (ble hb c4) (ble hb c5)
      go_wp2_with fail
      clear hm
      refine CL.mono ?_
      rintro e w1 ⟨r, rfl, hr, hb1⟩
      have hb2 := btrans hb hb1
      clear CL hb hb1
      cases r
      · have hin : InTime ts f u ch B h.toNat (m : Nat) := Classical.byContradiction fun k => absurd (hr.2 k) (by decide)
        have hI2 : Hid ((∀ k, k < m + 1 → InTime ts f u ch B h.toNat (k : Nat)) ∧ (hi ≤ B → ¬ InTime ts f u ch B h.toNat (hi : Nat))) := hide ⟨fun k hk => hin.early hch.1 (by omega), hI.out.2⟩
        clear hr hin hI
        go_wp2
        go_roundw
        case rel => exact ⟨m + 1, hi, by go_num, rfl, by omega, by omega, hI2, hb2⟩
        case measure => simp [intOf]; omega
      · have hI2 : Hid ((∀ k, k < lo → InTime ts f u ch B h.toNat (k : Nat)) ∧ (m ≤ B → ¬ InTime ts f u ch B h.toNat (m : Nat))) := hide ⟨hI.out.1, fun _ => hr.1 rfl⟩
        clear hr hI
        go_wp2
        go_roundw
        case rel => exact ⟨lo, m, rfl, by go_num, by omega, by omega, hI2, hb2⟩
        case measure => simp [intOf]; omega
    · have hlt' : ¬ ((lo : Int) < (hi : Int)) := by omega
      obtain rfl : lo = hi := by omega
      go_wp2
      go_ret
      exact ⟨lo, rfl, ⟨h2, hI.out.1, hI.out.2⟩, hb⟩

set_option maxRecDepth 20000 in
set_option maxHeartbeats 1600000 in
theorem cLateI (a : Option Addr) (cap : Nat) (ts : List TripV) (f u by_ ch h : Int) (w : World) (hz : Trips w a ts) (hS : Small ts) :
    Calls Try.prog 18 #[.slice a ts.length cap, .int .i64 f, .int .i64 u, .int .i64 by_, .int .i64 ch, .int .i64 h] w fun e w' => ∃ r, e = .returned (.int .i64 r) ∧ LateAns ts f u by_ ch h r ∧ Below w.heap.size w w' := by
  have HB : Below w.heap.size w ((((((w.alloc (.cells #[.slice a ts.length cap] 24)).alloc (.cells #[.int .i64 f] 3)).alloc (.cells #[.int .i64 u] 3)).alloc (.cells #[.int .i64 by_] 3)).alloc (.cells #[.int .i64 ch] 3)).alloc (.cells #[.int .i64 h] 3)) := (btrans (btrans (btrans (btrans (btrans (btrans (Below.refl w.heap.size w) (balloc _ (.cells #[.slice a ts.length cap] 24))) (balloc _ (.cells #[.int .i64 f] 3))) (balloc _ (.cells #[.int .i64 u] 3))) (balloc _ (.cells #[.int .i64 by_] 3))) (balloc _ (.cells #[.int .i64 ch] 3))) (balloc _ (.cells #[.int .i64 h] 3)))
  have c0 : ((((((w.alloc (.cells #[.slice a ts.length cap] 24)).alloc (.cells #[.int .i64 f] 3)).alloc (.cells #[.int .i64 u] 3)).alloc (.cells #[.int .i64 by_] 3)).alloc (.cells #[.int .i64 ch] 3)).alloc (.cells #[.int .i64 h] 3)).cell? ⟨w.heap.size, 0, none⟩ = some (.slice a ts.length cap) := by simp [go_sem]
  have c1 : ((((((w.alloc (.cells #[.slice a ts.length cap] 24)).alloc (.cells #[.int .i64 f] 3)).alloc (.cells #[.int .i64 u] 3)).alloc (.cells #[.int .i64 by_] 3)).alloc (.cells #[.int .i64 ch] 3)).alloc (.cells #[.int .i64 h] 3)).cell? ⟨w.heap.size + 1, 0, none⟩ = some (.int .i64 f) := by simp [go_sem]
  have c2 : ((((((w.alloc (.cells #[.slice a ts.length cap] 24)).alloc (.cells #[.int .i64 f] 3)).alloc (.cells #[.int .i64 u] 3)).alloc (.cells #[.int .i64 by_] 3)).alloc (.cells #[.int .i64 ch] 3)).alloc (.cells #[.int .i64 h] 3)).cell? ⟨w.heap.size + 1 + 1, 0, none⟩ = some (.int .i64 u) := by simp [go_sem]
  have c3 : ((((((w.alloc (.cells #[.slice a ts.length cap] 24)).alloc (.cells #[.int .i64 f] 3)).alloc (.cells #[.int .i64 u] 3)).alloc (.cells #[.int .i64 by_] 3)).alloc (.cells #[.int .i64 ch] 3)).alloc (.cells #[.int .i64 h] 3)).cell? ⟨w.heap.size + 1 + 1 + 1, 0, none⟩ = some (.int .i64 by_) := by simp [go_sem]
  have c4 : ((((((w.alloc (.cells #[.slice a ts.length cap] 24)).alloc (.cells #[.int .i64 f] 3)).alloc (.cells #[.int .i64 u] 3)).alloc (.cells #[.int .i64 by_] 3)).alloc (.cells #[.int .i64 ch] 3)).alloc (.cells #[.int .i64 h] 3)).cell? ⟨w.heap.size + 1 + 1 + 1 + 1, 0, none⟩ = some (.int .i64 ch) := by simp [go_sem]
  have c5 : ((((((w.alloc (.cells #[.slice a ts.length cap] 24)).alloc (.cells #[.int .i64 f] 3)).alloc (.cells #[.int .i64 u] 3)).alloc (.cells #[.int .i64 by_] 3)).alloc (.cells #[.int .i64 ch] 3)).alloc (.cells #[.int .i64 h] 3)).cell? ⟨w.heap.size + 1 + 1 + 1 + 1 + 1, 0, none⟩ = some (.int .i64 h) := by simp [go_sem]
  go_enter Try.func18, Try.ntmps18
  go_wp2_with fail
  generalize ((((((w.alloc (.cells #[.slice a ts.length cap] 24)).alloc (.cells #[.int .i64 f] 3)).alloc (.cells #[.int .i64 u] 3)).alloc (.cells #[.int .i64 by_] 3)).alloc (.cells #[.int .i64 ch] 3)).alloc (.cells #[.int .i64 h] 3)) = w6 at *
  refine (cAskI a cap ts f u by_ ch h _ (hz.below HB) hS).mono ?_
  rintro e w1 ⟨r, rfl, hr, hb⟩
  replace HB := btrans HB hb
  replace c0 := ble hb c0
  replace c1 := ble hb c1
  replace c2 := ble hb c2
  replace c3 := ble hb c3
  replace c4 := ble hb c4
  replace c5 := ble hb c5
  clear hb
  cases r
  · have hF : LateAns ts f u by_ ch h (-1) := .inl ⟨fun q => absurd (hr.2 q) (by decide), rfl⟩
    clear hr
    go_wp2
    go_ret
    exact ⟨_, rfl, hF, HB⟩
  have q := hide (hr.1 rfl)
  clear hr
  obtain ⟨hg, hf, ht, hm, hc, hh⟩ := q.out.parts
  obtain ⟨B, rfl⟩ : ∃ B : Nat, by_ = B := ⟨by_.toNat, by omega⟩
  have CS := cLateSearch a cap ts f u ch h B _ _ _ _ _ _ w1 (hz.below HB) hS q.out c0 c1 c2 c3 c4 c5
  have hw1 : IntKind.i64.wrap ((B : Int) + 1) = (B : Int) + 1 := wrap_in _ (by omega) (by omega)
  go_wp2_with fail
  refine CS.mono ?_
  rintro e w2 ⟨r, rfl, ⟨h1, h2, h3⟩, hb⟩
  replace HB := btrans HB hb
  have hF : LateAns ts f u B ch h ((r : Int) - 1) := .inr ⟨q.out, by
    by_cases hr : r = 0
    · subst hr
      exact .inl ⟨by simp, fun m m0 m1 hi => h3 (by omega) (hi.early hc.1 (by simpa using m0))⟩
    · have := h2 (r - 1) (by omega)
      have e1 : ((r - 1 : Nat) : Int) = (r : Int) - 1 := by omega
      rw [e1] at this
      exact .inr ⟨by omega, by omega, this, fun m m0 m1 hi => h3 (by omega) (hi.early hc.1 (by omega))⟩⟩
  have hw2 : IntKind.i64.wrap ((r : Int) - 1) = (r : Int) - 1 := wrap_in _ (by omega) (by omega)
  clear CS h2 h3 hb c0 c1 c2 c3 c4 c5 hg
  go_wp2
  go_ret
  exact ⟨_, rfl, hF, HB⟩
end Go.Proofs.Ytpfnnpgielnaeaa
