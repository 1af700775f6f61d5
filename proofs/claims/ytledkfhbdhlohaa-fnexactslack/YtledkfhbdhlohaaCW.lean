/- Right works: program and model. -/
import Derived.Test.YtledkfhbdhlohaaWK
import Derived.Deep.RegionWith
import Derived.Deep.RegionHeld3
namespace Go.Proofs.Ytledkfhbdhlohaa
open Go.RowKit
theorem all_drop {α : Type} {P : α → Bool} {zs : List α} {k : Nat} (hk : k < zs.length) : (zs.drop k).all P = (P zs[k] && (zs.drop (k + 1)).all P) := by
  rw [List.drop_eq_getElem_cons hk, List.all_cons]
def minB (x : Int) : Bool := inB x 0 100000
/-- The slack of a link. -/
def slackI (zs : List Int) (l : LinkV) : Int := zs.getD l.t.toNat 0 - zs.getD l.f.toNat 0 - l.l
/-- Is the link right for this plan? -/
def linkB (zs : List Int) (l : LinkV) : Bool := decide (0 ≤ l.f) && (decide (l.f < l.t) && (decide (l.t < zs.length) && (inB l.l 0 1000 && (inB l.k 0 1 && decide (0 ≤ slackI zs l)))))
def workB (zs : List Int) (ls : List LinkV) (x : Int) : Bool := decide (zs.length ≤ 60) && (zs.all minB && (decide (ls.length ≤ 150) && (inB x 0 60 && ls.all (linkB zs))))

theorem minB_at {zs : List Int} (h : zs.all minB = true) (i : Nat) : 0 ≤ zs.getD i 0 ∧ zs.getD i 0 ≤ 100000 := by
  by_cases hi : i < zs.length
  · rw [List.all_eq_true] at h
    have := h zs[i] (List.getElem_mem hi)
    have e : zs.getD i 0 = zs[i] := by simp [List.getD, hi]
    rw [e]
    exact inB_true this
  · have e : zs.getD i 0 = 0 := by simp [List.getD, hi]
    omega

set_option maxHeartbeats 400000 in
theorem cMinute (x : Int) (w : World) : Calls Try.prog 18 #[.int .i64 x] w fun e w' => e = .returned (.bool (minB x)) ∧ w' = w := by
  go_enter Try.func18, Try.ntmps18
  go_wp2_with fail
  refine (cWithin x 0 100000 _).mono ?_
  rintro e w1 ⟨rfl, hw⟩
  subst w1
  go_wp2
  go_ret
  exact ⟨rfl, rfl⟩

set_option maxHeartbeats 800000 in
theorem cAllMin (a : Option Addr) (cap : Nat) (zs : List Int) (w : World) (hz : Ints w a zs) (hl : zs.length ≤ 1048576) :
    Calls Try.prog 17 #[.slice a zs.length cap, .func (.func 18) #[] #[]] w fun e w' => e = .returned (.bool (zs.all minB)) ∧ w' = w := by
  generalize hr : zs.all minB = res
  have hr0 : Hid ((zs.drop 0).all minB = res) := hr
  clear hr
  go_enter Try.func17, Try.ntmps17
  go_wp2
  go_loop [9] (fun i => ∃ k : Nat, k ≤ zs.length ∧ i = .int .i64 k ∧ Hid ((zs.drop k).all minB = res)) (fun i => zs.length - (intOf i).toNat)
  case atStart => exact ⟨0, Nat.zero_le _, rfl, hr0⟩
  case round =>
    obtain ⟨k, hk, rfl, hres⟩ := hrel
    clear hr0
    by_cases hlt : k < zs.length
    · rcases hz with h | ⟨b, off, rfl, hc⟩
      · simp [h] at hlt
      have q0 := hc k hlt
      have e0 : zs.getD k 0 = zs[k] := by simp [List.getD, hlt]
      rw [e0] at q0
      have hd := hide ((all_drop (P := minB) hlt).symm.trans hres.out)
      generalize zs[k] = y at *
      clear hc e0 hres
      go_wp2_with fail
      refine (cMinute y _).mono ?_
      rintro e w1 ⟨rfl, hw⟩
      subst w1
      cases hy : minB y
      · have hf := hide (show res = false by rw [← hd.out, hy]; rfl)
        clear hd hy
        go_wp2
        go_ret
        exact ⟨ret_bool hf.out.symm, rfl⟩
      · have hf := hide (show (zs.drop (k + 1)).all minB = res by rw [← hd.out, hy]; rfl)
        clear hd hy
        go_wp2
        go_round
        case rel => exact ⟨k + 1, by omega, by go_num, hf⟩
        case measure => simp [intOf]; omega
    · obtain rfl : k = zs.length := by omega
      have hf := hide (show res = true by rw [← hres.out, List.drop_length]; rfl)
      clear hz
      go_wp2
      go_ret
      exact ⟨ret_bool hf.out.symm, rfl⟩

set_option maxHeartbeats 1600000 in
theorem cSlackOf (a : Option Addr) (cap : Nat) (zs : List Int) (l : LinkV) (w : World) (hz : Ints w a zs) (hm : zs.all minB = true) (h0 : 0 ≤ l.f) (h1 : l.f < l.t) (h2 : l.t < zs.length) (h3 : 0 ≤ l.l) (h4 : l.l ≤ 1000) :
    Calls Try.prog 25 #[.slice a zs.length cap, l.val] w fun e w' => e = .returned (.int .i64 (slackI zs l)) ∧ Below w.heap.size w w' := by
  obtain ⟨f, t, l, k⟩ := l
  simp only at h0 h1 h2 h3 h4
  obtain ⟨f, rfl⟩ := Int.eq_ofNat_of_zero_le h0
  obtain ⟨t, rfl⟩ := Int.eq_ofNat_of_zero_le (show 0 ≤ t by omega)
  unfold LinkV.val
  have R := hide (show slackI zs ⟨f, t, l, k⟩ = zs.getD t 0 - zs.getD f 0 - l by simp [slackI])
  have hW := balloc w (.cells #[.int .i64 f, .int .i64 t, .int .i64 l, .int .i64 k] 40)
  have X := Bx4.new w (.int .i64 f) (.int .i64 t) (.int .i64 l) (.int .i64 k) 40
  obtain ⟨x0, x1, x2, x3⟩ := id X
  have mt := minB_at hm t
  have mf := minB_at hm f
  rcases hz with h | ⟨b, off, rfl, hc⟩
  · simp [h] at h2; omega
  have pt := ble hW (hc t (by omega))
  have pf := ble hW (hc f (by omega))
  clear hc
  generalize zs.getD t 0 = T at *
  generalize zs.getD f 0 = F at *
  have w1 : IntKind.i64.wrap (T - F) = T - F := wrap_in _ (by omega) (by omega)
  have w2 : IntKind.i64.wrap (T - F - l) = T - F - l := wrap_in _ (by omega) (by omega)
  go_enter Try.func25, Try.ntmps25
  go_wp2
  go_region
  go_wp2
  go_ret
  exact ⟨ret_int R.out.symm, bdraw hW _⟩
end Go.Proofs.Ytledkfhbdhlohaa
