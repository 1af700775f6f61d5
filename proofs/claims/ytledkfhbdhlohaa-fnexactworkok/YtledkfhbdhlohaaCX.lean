/- Right works of the program. -/
import Derived.Test.YtledkfhbdhlohaaCW
import Derived.Deep.RegionWith
import Derived.Deep.RegionHeld3
namespace Go.Proofs.Ytledkfhbdhlohaa
open Go.RowKit
theorem lB_f {zs : List Int} {l : LinkV} (h : l.f < 0) : linkB zs l = false := by
  have : decide (0 ≤ l.f) = false := by simp; omega
  simp only [linkB, this, Bool.false_and]
theorem lB_t {zs : List Int} {l : LinkV} (h : l.t ≤ l.f) : linkB zs l = false := by
  have : decide (l.f < l.t) = false := by simp; omega
  simp only [linkB, this, Bool.false_and, Bool.and_false]
theorem lB_n {zs : List Int} {l : LinkV} (h : (zs.length : Int) ≤ l.t) : linkB zs l = false := by
  have : decide (l.t < zs.length) = false := by simp; omega
  simp only [linkB, this, Bool.false_and, Bool.and_false]
theorem lB_l {zs : List Int} {l : LinkV} (h : inB l.l 0 1000 = false) : linkB zs l = false := by simp only [linkB, h, Bool.false_and, Bool.and_false]
theorem lB_k {zs : List Int} {l : LinkV} (h : inB l.k 0 1 = false) : linkB zs l = false := by simp only [linkB, h, Bool.false_and, Bool.and_false]
theorem lB_all {zs : List Int} {l : LinkV} (h0 : 0 ≤ l.f) (h1 : l.f < l.t) (h2 : l.t < zs.length) (h3 : inB l.l 0 1000 = true) (h4 : inB l.k 0 1 = true) : linkB zs l = decide (0 ≤ slackI zs l) := by
  simp only [linkB, h0, h1, h2, h3, h4, decide_true, Bool.true_and]

set_option maxHeartbeats 1600000 in
theorem cLinkOk (a : Option Addr) (cap : Nat) (zs : List Int) (l : LinkV) (w : World) (hz : Ints w a zs) (hm : zs.all minB = true) :
    Calls Try.prog 22 #[.slice a zs.length cap, l.val] w fun e w' => e = .returned (.bool (linkB zs l)) ∧ Below w.heap.size w w' := by
  obtain ⟨f, t, l, k⟩ := l
  have hW := balloc w (.cells #[.int .i64 f, .int .i64 t, .int .i64 l, .int .i64 k] 40)
  have X := Bx4.new w (.int .i64 f) (.int .i64 t) (.int .i64 l) (.int .i64 k) 40
  obtain ⟨x0, x1, x2, x3⟩ := id X
  unfold LinkV.val
  by_cases h0 : f < 0
  · have R := hide (lB_f (zs := zs) (l := ⟨f, t, l, k⟩) h0)
    go_enter Try.func22, Try.ntmps22
    go_wp2
    go_ret
    exact ⟨ret_bool R.out.symm, hW⟩
  by_cases h1 : t ≤ f
  · have R := hide (lB_t (zs := zs) (l := ⟨f, t, l, k⟩) h1)
    go_enter Try.func22, Try.ntmps22
    go_wp2
    go_ret
    exact ⟨ret_bool R.out.symm, hW⟩
  by_cases h2 : (zs.length : Int) ≤ t
  · have R := hide (lB_n (zs := zs) (l := ⟨f, t, l, k⟩) h2)
    go_enter Try.func22, Try.ntmps22
    go_wp2
    go_ret
    exact ⟨ret_bool R.out.symm, hW⟩
  have h0' : 0 ≤ f := by omega
  have h1' : f < t := by omega
  have h2' : t < zs.length := by omega
  cases h3 : inB l 0 1000
  · have R := hide (lB_l (zs := zs) (l := ⟨f, t, l, k⟩) h3)
    go_enter Try.func22, Try.ntmps22
    go_wp2_with (go_at_call 19; refine (cWithin _ _ _ _).mono ?_; rintro e w' ⟨rfl, rfl⟩)
    go_ret
    exact ⟨ret_bool R.out.symm, hW⟩
  cases h4 : inB k 0 1
  · have R := hide (lB_k (zs := zs) (l := ⟨f, t, l, k⟩) h4)
    go_enter Try.func22, Try.ntmps22
    go_wp2_with (go_at_call 19; refine (cWithin _ _ _ _).mono ?_; rintro e w' ⟨rfl, rfl⟩)
    go_ret
    exact ⟨ret_bool R.out.symm, hW⟩
  have R := hide (lB_all (zs := zs) (l := ⟨f, t, l, k⟩) h0' h1' h2' h3 h4)
  obtain ⟨h5, h6⟩ := inB_true h3
  have C := fun w' (hb : Below w.heap.size w w') => cSlackOf a cap zs ⟨f, t, l, k⟩ w' (hz.below hb) hm h0' h1' h2' h5 h6
  generalize slackI zs ⟨f, t, l, k⟩ = s at *
  unfold LinkV.val at C
  by_cases hs : 0 ≤ s
  · have R2 := hide (show linkB zs ⟨f, t, l, k⟩ = true by rw [R.out]; simpa using hs)
    go_enter Try.func22, Try.ntmps22
    go_wp2_with (first
      | (go_at_call 19; refine (cWithin _ _ _ _).mono ?_; rintro e w' ⟨rfl, rfl⟩)
      | (go_at_call 25; refine (C _ hW).mono ?_; rintro e w' ⟨rfl, hb⟩; have HB := btrans hW hb))
    go_ret
    exact ⟨ret_bool R2.out.symm, HB⟩
  · have R2 := hide (show linkB zs ⟨f, t, l, k⟩ = false by rw [R.out]; simpa using hs)
    go_enter Try.func22, Try.ntmps22
    go_wp2_with (first
      | (go_at_call 19; refine (cWithin _ _ _ _).mono ?_; rintro e w' ⟨rfl, rfl⟩)
      | (go_at_call 25; refine (C _ hW).mono ?_; rintro e w' ⟨rfl, hb⟩; have HB := btrans hW hb))
    go_ret
    exact ⟨ret_bool (by rw [R2.out]; simpa using hs), HB⟩

set_option maxHeartbeats 800000 in
theorem cWorkFn (a : Option Addr) (cap g : Nat) (zs : List Int) (c1 c2 : Value) (l : LinkV) (w : World) (hg : Bx3 w g (.slice a zs.length cap) c1 c2) (hz : Ints w a zs) (hm : zs.all minB = true) :
    Calls Try.prog 21 #[l.val, .pointer (some ⟨g, 0, none⟩)] w fun e w' => e = .returned (.bool (linkB zs l)) ∧ Below w.heap.size w w' := by
  obtain ⟨f, t, l, k⟩ := l
  unfold LinkV.val
  have hW := balloc w (.cells #[.int .i64 f, .int .i64 t, .int .i64 l, .int .i64 k] 40)
  obtain ⟨x0, x1, x2⟩ := hg.below hW
  have C := fun w' (hb : Below w.heap.size w w') => cLinkOk a cap zs ⟨f, t, l, k⟩ w' (hz.below hb) hm
  unfold LinkV.val at C
  go_enter Try.func21, Try.ntmps21
  go_wp2_with fail
  refine (C _ hW).mono ?_
  rintro e w' ⟨rfl, hb⟩
  have HB := btrans hW hb
  go_wp2
  go_ret
  exact ⟨rfl, HB⟩

set_option maxHeartbeats 1600000 in
theorem cAllLinks (a b : Option Addr) (cap cap2 g : Nat) (zs : List Int) (ls : List LinkV) (c1 c2 : Value) (w : World) (hg : Bx3 w g (.slice a zs.length cap) c1 c2) (hz : Ints w a zs) (hm : zs.all minB = true) (hL : Links w b ls) (hl2 : ls.length ≤ 1048576) :
    Calls Try.prog 20 #[.slice b ls.length cap2, .func (.func 21) #[] #[.pointer (some ⟨g, 0, none⟩)]] w fun e w' => e = .returned (.bool (ls.all (linkB zs))) ∧ Below w.heap.size w w' := by
  generalize hr : ls.all (linkB zs) = res
  have hr0 : Hid ((ls.drop 0).all (linkB zs) = res) := hr
  clear hr
  go_enter Try.func20, Try.ntmps20
  go_wp2
  go_loopw [9] (fun i wr => ∃ k : Nat, k ≤ ls.length ∧ i = .int .i64 k ∧ Hid ((ls.drop k).all (linkB zs) = res) ∧ Below w.heap.size w wr) (fun i _ => ls.length - (intOf i).toNat)
  case atStart => exact ⟨0, Nat.zero_le _, rfl, hr0, Below.refl _ _⟩
  case round =>
    obtain ⟨k, hk, rfl, hres, hb⟩ := hrel
    clear hr0
    by_cases hlt : k < ls.length
    · rcases hL with h | ⟨bb, off, rfl, hc⟩
      · simp [h] at hlt
      obtain ⟨q0, q1, q2, q3⟩ := hc k hlt
      have p0 := ble hb q0
      have p1 := ble hb q1
      have p2 := ble hb q2
      have p3 := ble hb q3
      have hbs := cell_lt q0
      clear hc q0 q1 q2 q3
      have hd := hide ((all_drop (P := linkB zs) hlt).symm.trans hres.out)
      have e0 : ls.getD k LinkV.zero = ls[k] := by simp [List.getD, hlt]
      rw [e0] at p0 p1 p2 p3
      generalize ls[k] = y at *
      clear e0 hres
      have HW := btrans hb (balloc wr (.cells #[.int .i64 y.f, .int .i64 y.t, .int .i64 y.l, .int .i64 y.k] 40))
      go_wp2_with fail
      refine (cWorkFn a cap g zs c1 c2 y _ (hg.below HW) (hz.below HW) hm).mono ?_
      rintro e w1 ⟨rfl, hb1⟩
      have HB := btrans HW hb1
      clear hb1
      cases hy : linkB zs y
      · have hf := hide (show res = false by rw [← hd.out, hy]; rfl)
        clear hd hy
        go_wp2
        go_ret
        exact ⟨ret_bool hf.out.symm, HB⟩
      · have hf := hide (show (ls.drop (k + 1)).all (linkB zs) = res by rw [← hd.out, hy]; rfl)
        clear hd hy
        go_wp2
        go_roundw
        case rel => exact ⟨k + 1, by omega, by go_num, hf, HB⟩
        case measure => simp [intOf]; omega
    · obtain rfl : k = ls.length := by omega
      have hf := hide (show res = true by rw [← hres.out, List.drop_length]; rfl)
      clear hL
      go_wp2
      go_ret
      exact ⟨ret_bool hf.out.symm, hb⟩
end Go.Proofs.Ytledkfhbdhlohaa
