/- Who is the first that gets none: ShortOf of program and model. -/
import Derived.Test.YteklmeekapegpaaSA
namespace Go.Proofs.Yteklmeekapegpaa
open Go.RowKit

def IsShort (ss : List StayV) (ls : List Int) (r : Int) : Prop :=
  (r = -1 ∧ ∀ i, i < ss.length → 0 ≤ ls.getD i 0) ∨ ∃ i : Nat, i < ss.length ∧ r = i ∧ ls.getD i 0 < 0 ∧ ∀ k, k < ss.length → before ss k i → 0 ≤ ls.getD k 0
def ShortAns (ss : List StayV) (ls : List Int) (r : Int) : Prop := (ls = [] ∧ r = -1) ∨ (ls.length = ss.length ∧ IsShort ss ls r)
theorem IsShort.unique {ss : List StayV} {ls : List Int} {r r' : Int} (h : IsShort ss ls r) (h' : IsShort ss ls r') : r = r' := by
  rcases h with ⟨h1, h2⟩ | ⟨i, h1, h2, h3, h4⟩ <;> rcases h' with ⟨h1', h2'⟩ | ⟨i', h1', h2', h3', h4'⟩
  · omega
  · have := h2 i' h1'; omega
  · have := h2' i h1; omega
  · by_cases e : i = i'
    · omega
    · have : before ss i i' ∨ before ss i' i := by unfold before; omega
      rcases this with hb | hb
      · have := h4' i h1 hb; omega
      · have := h4 i' h1' hb; omega
theorem ShortAns.unique {ss : List StayV} {ls : List Int} {r r' : Int} (h : ShortAns ss ls r) (h' : ShortAns ss ls r') : r = r' := by
  rcases h with ⟨h1, h2⟩ | ⟨h1, h2⟩ <;> rcases h' with ⟨h1', h2'⟩ | ⟨h1', h2'⟩
  · omega
  · subst h1
    rcases h2' with ⟨h3, _⟩ | ⟨i, h3, _⟩
    · omega
    · simp at h1'; omega
  · subst h1'
    rcases h2 with ⟨h3, _⟩ | ⟨i, h3, _⟩
    · omega
    · simp at h1; omega
  · exact h2.unique h2'
structure ShortPost (zs : List Int) (ss : List StayV) (g : Int) (w : World) (e : Ending) (w' : World) : Prop where
  ex : ∃ ls r, IsList zs ss g ls ∧ ShortAns ss ls r ∧ e = .returned (.int .i64 r)
  below : Below w.heap.size w w'

set_option maxRecDepth 20000 in
set_option maxHeartbeats 1600000 in
theorem cShortI (a : Option Addr) (ca : Nat) (zs : List Int) (b : Option Addr) (cb : Nat) (ss : List StayV) (g : Int) (w : World) (hz : Ints w a zs) (hl : zs.length ≤ 1048576) (hy : Stays w b ss) (hl2 : ss.length ≤ 1048576) :
    Calls Try.prog 19 #[.slice a zs.length ca, .slice b ss.length cb, .int .i64 g] w (ShortPost zs ss g w) := by
  go_enter Try.func19, Try.ntmps19
  go_wp2_with fail
  refine (cAssignI a ca zs b cb ss g _ hz hl hy hl2).mono ?_
  rintro e w1 ⟨ls, hL, ⟨v, rfl, ho⟩, hb1⟩
  obtain ⟨va, vc, rfl⟩ := own_form ho
  by_cases h0 : ls.length = 0
  · have hf : Hid (ShortAns ss ls (-1)) := hide (.inl ⟨List.length_eq_zero_iff.1 h0, rfl⟩)
    have h0' : ((ls.length : Int) == 0) = true := by simp [h0]
    replace h0 := hide h0
    go_wp2
    go_ret
    exact ⟨⟨ls, -1, hL, hf.out, rfl⟩, hb1⟩
  have h0' : ((ls.length : Int) == 0) = false := by simp; intro h; exact h0 (by rw [h]; rfl)
  have hok : assignOk zs ss g = true ∧ ls.length = ss.length := by
    rcases hL with ⟨_, rfl⟩ | ⟨h1, h2, _⟩
    · exact absurd rfl h0
    · exact ⟨h1, h2⟩
  have hLn : Hid (ls.length = ss.length) := hide hok.2
  have hq := hok.1
  simp only [assignOk, Bool.and_eq_true] at hq
  have hP := cPassages b cb ss g w1 (hy.below hb1) hq.2.1 hq.2.2
  have h60 := stays_len hq.2.1
  clear hok hq
  replace hL := hide hL
  go_wp2_with fail
  refine hP.mono ?_
  rintro e w2 ⟨v, es, rfl, hp, hI, hb2⟩
  clear hP
  obtain ⟨pa, pc, rfl⟩ := own_form hp
  have hes : es.length ≤ 120 := by rw [hI.len]; omega
  have ho2 := own_keep ho hb2
  replace hb1 := btrans hb1 hb2
  have hE : Passes w2 pa es := Passes.own hp
  have hIn : Ints w2 va ls := Ints.own ho2 rfl
  clear hp ho ho2 hb2
  go_wp2
  go_loopw [21] (fun i wr => ∃ j : Nat, j ≤ es.length ∧ i = .int .i64 j ∧ Hid (∀ k, k < ss.length → comeP ss k ∈ es.take j → 0 ≤ ls.getD k 0) ∧ Below w2.heap.size w2 wr) (fun i _ => es.length - (intOf i).toNat)
  case atStart => exact ⟨0, Nat.zero_le _, rfl, hide (fun k _ h => by simp at h), Below.refl _ _⟩
  case round =>
    obtain ⟨j, hj, rfl, hA, hb⟩ := hrel
    by_cases hlt : j < es.length
    · obtain ⟨i, hi, hw⟩ := pass_who hI hlt
      have hii : i < ls.length := by rw [hLn.out]; exact hi
      have hii' : (i : Int) < (ls.length : Int) := by omega
      rcases hE with h | ⟨pb, off, rfl, hc⟩
      · simp [h] at hlt
      obtain ⟨q0, q1, q2⟩ := hc j hlt
      replace q0 := ble hb q0
      replace q1 := ble hb q1
      replace q2 := ble hb q2
      rcases hIn with h | ⟨ib, ioff, rfl, hic⟩
      · simp [h] at hii
      have qi := ble hb (hic i hii)
      have hbi : ib < wr.heap.size := cell_lt qi
      rcases hw with ⟨e0, e1⟩ | ⟨e0, e1⟩
      · rw [e0] at q0 q1 q2
        have hcm : Hid (comeP ss i = ⟨fA ss i, 1, i⟩) := rfl
        rw [hcm.out] at q0 q1 q2
        dsimp only at q0 q1 q2
        generalize fA ss i = f at q0 q1 q2
        have hbq := btrans hb (balloc wr (.cells #[.int .i64 f, .int .i64 1, .int .i64 i] 60))
        have hNx : 0 ≤ ls.getD i 0 → Hid (∀ k, k < ss.length → comeP ss k ∈ es.take (j + 1) → 0 ≤ ls.getD k 0) := fun h => hide (fun k hk hm => by
          rcases (mem_take_succ hlt).1 hm with hm | hm
          · exact hA.out k hk hm
          · rw [e1] at hm
            by_cases e : k = i
            · subst e; exact h
            · exact absurd hm (come_ne e))
        have hHit : ls.getD i 0 < 0 → Hid (ShortAns ss ls i) := fun h => hide (.inr ⟨hLn.out, .inr ⟨i, hi, rfl, h, fun k hk hbk => hA.out k hk (by rw [mem_take hI.sorted hlt ((hI.mem _).2 ⟨k, hk, .inl rfl⟩), e1, come_lt]; exact hbk)⟩⟩)
        clear hA hc hic
        generalize ls.getD i 0 = y at *
        by_cases hyn : y < 0
        · have hS := hHit hyn
          clear hNx hHit
          go_wp2
          go_ret
          exact ⟨⟨ls, i, hL.out, hS.out, rfl⟩, btrans hb1 hbq⟩
        · have hS := hNx (by omega)
          clear hNx hHit
          go_wp2
          go_roundw
          case rel => exact ⟨j + 1, by omega, by go_num, hS, hbq⟩
          case measure => simp [intOf]; omega
      · rw [e0] at q0 q1 q2
        have hcm : Hid (leaveP ss g i = ⟨tA ss i + g, 0, i⟩) := rfl
        rw [hcm.out] at q0 q1 q2
        dsimp only at q0 q1 q2
        generalize tA ss i + g = f at q0 q1 q2
        have hbq := btrans hb (balloc wr (.cells #[.int .i64 f, .int .i64 0, .int .i64 i] 60))
        have hS : Hid (∀ k, k < ss.length → comeP ss k ∈ es.take (j + 1) → 0 ≤ ls.getD k 0) := hide (fun k hk hm => by
          rcases (mem_take_succ hlt).1 hm with hm | hm
          · exact hA.out k hk hm
          · rw [e1] at hm; exact absurd hm come_leave)
        clear hA hc hic
        go_wp2
        go_roundw
        case rel => exact ⟨j + 1, by omega, by go_num, hS, hbq⟩
        case measure => simp [intOf]; omega
    · obtain rfl : j = es.length := by omega
      have hS : Hid (ShortAns ss ls (-1)) := hide (.inr ⟨hLn.out, .inl ⟨rfl, fun k hk => hA.out k hk (by rw [List.take_length]; exact (hI.mem _).2 ⟨k, hk, .inl rfl⟩)⟩⟩)
      clear hE hA hIn
      go_wp2
      go_ret
      exact ⟨⟨ls, -1, hL.out, hS.out, rfl⟩, btrans hb1 hb⟩

set_option maxRecDepth 20000 in
set_option maxHeartbeats 1600000 in
theorem cShortS (a : Option Addr) (ca : Nat) (zs : List Int) (b : Option Addr) (cb : Nat) (ss : List StayV) (g : Int) (w : World) (hz : Ints w a zs) (hl : zs.length ≤ 1048576) (hy : Stays w b ss) (hl2 : ss.length ≤ 1048576) :
    Calls Try.prog 38 #[.slice a zs.length ca, .slice b ss.length cb, .int .i64 g] w (ShortPost zs ss g w) := by
  go_enter Try.func38, Try.ntmps38
  go_wp2_with fail
  refine (cAssignS a ca zs b cb ss g _ hz hl hy hl2).mono ?_
  rintro e w1 ⟨ls, hL, ⟨v, rfl, ho⟩, hb1⟩
  obtain ⟨va, vc, rfl⟩ := own_form ho
  by_cases h0 : ls.length = 0
  · have hf : Hid (ShortAns ss ls (-1)) := hide (.inl ⟨List.length_eq_zero_iff.1 h0, rfl⟩)
    have h0' : ((ls.length : Int) == 0) = true := by simp [h0]
    replace h0 := hide h0
    go_wp2
    go_ret
    exact ⟨⟨ls, -1, hL, hf.out, rfl⟩, hb1⟩
  have h0' : ((ls.length : Int) == 0) = false := by simp; intro h; exact h0 (by rw [h]; rfl)
  have hok : assignOk zs ss g = true ∧ ls.length = ss.length := by
    rcases hL with ⟨_, rfl⟩ | ⟨h1, h2, _⟩
    · exact absurd rfl h0
    · exact ⟨h1, h2⟩
  have hLn : Hid (ls.length = ss.length) := hide hok.2
  have hq := hok.1
  simp only [assignOk, Bool.and_eq_true] at hq
  have h60 := stays_len hq.2.1
  have CO := cOrder b cb ss w1 (hy.below hb1) h60
  clear hok hq
  replace hL := hide hL
  go_wp2_with fail
  refine CO.mono ?_
  rintro e w2 hAn
  obtain ⟨v, os, rfl, hr, hos, hol, hb2⟩ := hAn
  replace hol := hide hol
  obtain ⟨ra, rc, rfl⟩ := own_form hr
  have ho60 : os.length ≤ 60 := by rw [hol.out]; exact h60
  have ho2 := own_keep ho hb2
  replace hb1 := btrans hb1 hb2
  have hIn : Ints w2 va ls := Ints.own ho2 rfl
  have hRn : Ints w2 ra (intsOf os) := Ints.own hr (by simp [intsOf])
  clear CO hr ho ho2 hb2
  go_wp2
  go_loop [9] (fun i => ∃ k : Nat, k ≤ os.length ∧ i = .int .i64 k ∧ Hid (∀ j, j < k → 0 ≤ ls.getD (ordA os j) 0)) (fun i => os.length - (intOf i).toNat)
  case atStart => exact ⟨0, Nat.zero_le _, rfl, hide (fun k h => by omega)⟩
  case round =>
    obtain ⟨k, hk, rfl, hA⟩ := hrel
    by_cases hlt : k < os.length
    · have hlt' : (k : Int) < (os.length : Int) := by omega
      have hos1 := hos.low _ (ordA_mem hlt)
      have hii : ordA os k < ls.length := by rw [hLn.out]; exact hos1
      have hii' : ((ordA os k : Nat) : Int) < (ls.length : Int) := by omega
      rcases hRn with h | ⟨rb, roff, rfl, hrc⟩
      · have : (intsOf os).length = 0 := by rw [h]; rfl
        simp [intsOf] at this; simp [this] at hlt
      have q0 := hrc k (by simpa [intsOf] using hlt)
      rw [intsOf_get os hlt] at q0
      rcases hIn with h | ⟨ib, ioff, rfl, hic⟩
      · simp [h] at hii
      have qi := hic _ hii
      have hNx : 0 ≤ ls.getD (ordA os k) 0 → Hid (∀ j, j < k + 1 → 0 ≤ ls.getD (ordA os j) 0) := fun h => hide (fun j hj => by
        by_cases e : j = k
        · subst e; exact h
        · exact hA.out j (by omega))
      have hHit : ls.getD (ordA os k) 0 < 0 → Hid (ShortAns ss ls (ordA os k)) := fun h => hide (.inr ⟨hLn.out, .inr ⟨_, hos1, rfl, h, fun x hx hbx => by
        obtain ⟨j, hj, rfl⟩ := (before_ord hos hol.out hlt hx).1 hbx
        exact hA.out j hj⟩⟩)
      change w2.cell? _ = some (.int .i64 ((ordA os k : Nat) : Int)) at q0
      clear hrc hic hA
      generalize ls.getD (ordA os k) 0 = y at *
      generalize ordA os k = o at *
      by_cases hyn : y < 0
      · have hS := hHit hyn
        clear hNx hHit
        go_wp2
        go_ret
        exact ⟨⟨ls, o, hL.out, hS.out, rfl⟩, hb1⟩
      · have hS := hNx (by omega)
        clear hNx hHit
        go_wp2
        go_round
        case rel => exact ⟨k + 1, by omega, by go_num, hS⟩
        case measure => simp [intOf]; omega
    · obtain rfl : k = os.length := by omega
      have hS : Hid (ShortAns ss ls (-1)) := hide (.inr ⟨hLn.out, .inl ⟨rfl, fun x hx => by
        obtain ⟨j, hj, rfl⟩ := ordA_all hos hol.out hx
        exact hA.out j hj⟩⟩)
      clear hA hRn hIn
      go_wp2
      go_ret
      exact ⟨⟨ls, -1, hL.out, hS.out, rfl⟩, hb1⟩
end Go.Proofs.Yteklmeekapegpaa
