/- The slack of a link: program and model. -/
import Derived.Test.YtledkfhbdhlohaaCY
import Derived.BigQuiet
namespace Go.Proofs.Ytledkfhbdhlohaa
open Go.RowKit
/-- What Slack tells. -/
def slackW (zs : List Int) (ls : List LinkV) (x k : Int) : Int := if workB zs ls x = true ∧ 0 ≤ k ∧ k < ls.length then slackI zs (ls.getD k.toNat LinkV.zero) else -1
theorem slackW_no {zs : List Int} {ls : List LinkV} {x k : Int} (h : workB zs ls x = false) : slackW zs ls x k = -1 := by simp [slackW, h]
theorem slackW_out {zs : List Int} {ls : List LinkV} {x k : Int} (h : inB k 0 (ls.length - 1) = false) : slackW zs ls x k = -1 := by
  have h' := inB_ff h
  simp only [slackW]
  rw [if_neg]
  omega
theorem slackW_at {zs : List Int} {ls : List LinkV} {x : Int} {k : Nat} (h : workB zs ls x = true) (hk : k < ls.length) : slackW zs ls x k = slackI zs ls[k] := by
  have e0 : ls.getD k LinkV.zero = ls[k] := by simp [List.getD, hk]
  simp only [slackW]
  rw [if_pos ⟨h, by omega, by omega⟩, Int.toNat_natCast, e0]
theorem workB_parts {zs : List Int} {ls : List LinkV} {x : Int} (h : workB zs ls x = true) : zs.length ≤ 60 ∧ zs.all minB = true ∧ ls.length ≤ 150 ∧ inB x 0 60 = true ∧ ls.all (linkB zs) = true := by
  simp only [workB, Bool.and_eq_true, decide_eq_true_eq] at h
  exact ⟨h.1, h.2.1, h.2.2.1, h.2.2.2.1, h.2.2.2.2⟩
theorem linkB_parts {zs : List Int} {l : LinkV} (h : linkB zs l = true) : 0 ≤ l.f ∧ l.f < l.t ∧ l.t < zs.length ∧ 0 ≤ l.l ∧ l.l ≤ 1000 ∧ inB l.k 0 1 = true ∧ 0 ≤ slackI zs l := by
  simp only [linkB, Bool.and_eq_true, decide_eq_true_eq] at h
  obtain ⟨h1, h2, h3, h4, h5, h6⟩ := h
  have := inB_true h4
  exact ⟨h1, h2, h3, this.1, this.2, h5, h6⟩
theorem link_at {zs : List Int} {ls : List LinkV} (h : ls.all (linkB zs) = true) {k : Nat} (hk : k < ls.length) : linkB zs ls[k] = true := by
  rw [List.all_eq_true] at h
  exact h _ (List.getElem_mem hk)

set_option maxHeartbeats 1600000 in
theorem cSlackI (a b : Option Addr) (p q : Nat) (zs : List Int) (ls : List LinkV) (x k : Int) (w : World) (hz : Ints w a zs) (hL : Links w b ls) (hl : zs.length ≤ 1048576) (hl2 : ls.length ≤ 1048576) :
    Calls Try.prog 11 #[.agg #[.slice a zs.length p, .slice b ls.length q, .int .i64 x], .int .i64 k] w fun e w' => e = .returned (.int .i64 (slackW zs ls x k)) ∧ Below w.heap.size w w' := by
  have hW := balloc w (.cells #[.slice a zs.length p, .slice b ls.length q, .int .i64 x] 30)
  have X := Bx3.new w (.slice a zs.length p) (.slice b ls.length q) (.int .i64 x) 30
  have C := cWorkI a b p q zs ls x _ (hz.below hW) (hL.below hW) hl hl2
  cases h1 : workB zs ls x
  · have R := hide (slackW_no (k := k) h1)
    rw [h1] at C
    go_enter Try.func11, Try.ntmps11
    go_wp2_with (go_at_call 8; refine C.mono ?_; rintro e w' ⟨rfl, hb⟩; have HB := btrans hW hb)
    go_ret
    exact ⟨ret_int R.out.symm, HB⟩
  rw [h1] at C
  cases h2 : inB k 0 (ls.length - 1)
  · have R := hide (slackW_out (zs := zs) (x := x) h2)
    go_enter Try.func11, Try.ntmps11
    go_wp2_with (first
      | (go_at_call 8; refine C.mono ?_; rintro e w' ⟨rfl, hb⟩; have HB := btrans hW hb; obtain ⟨x0, x1, x2⟩ := X.below hb)
      | (go_at_call 19; refine (cWithin _ _ _ _).mono ?_; rintro e w' ⟨rfl, rfl⟩))
    go_ret
    exact ⟨ret_int R.out.symm, HB⟩
  have h2' := inB_true h2
  obtain ⟨k, rfl⟩ := Int.eq_ofNat_of_zero_le h2'.1
  have hk : k < ls.length := by omega
  have R := hide (slackW_at h1 hk)
  obtain ⟨m1, m2, m3, m4, m5⟩ := workB_parts h1
  obtain ⟨l1, l2, l3, l4, l5, l6, l7⟩ := linkB_parts (link_at m5 hk)
  go_enter Try.func11, Try.ntmps11
  go_wp2_with fail
  refine C.mono ?_
  rintro e w1 ⟨rfl, hb⟩
  have HB := btrans hW hb
  obtain ⟨x0, x1, x2⟩ := X.below hb
  clear hb
  go_wp2_with (go_at_call 19; refine (cWithin _ _ _ _).mono ?_; rintro e w' ⟨rfl, hw'⟩; subst w')
  rcases hL with h | ⟨bb, off, rfl, hc⟩
  · simp [h] at hk
  obtain ⟨q0, q1, q2, q3⟩ := hc k hk
  have p0 := ble HB q0
  have p1 := ble HB q1
  have p2 := ble HB q2
  have p3 := ble HB q3
  clear hc q0 q1 q2 q3
  have e0 : ls.getD k LinkV.zero = ls[k] := by simp [List.getD, hk]
  rw [e0] at p0 p1 p2 p3
  generalize ls[k] = y at *
  have Z := fun w' (h : Below w1.heap.size w1 w') => cSlackOf a p zs y w' ((hz.below HB).below h) m2 l1 l2 l3 l4 l5
  obtain ⟨yf, yt, yl, yk⟩ := y
  unfold LinkV.val at Z
  dsimp only at *
  go_region_with (go_at_call 25; with_reducible refine (Z _ (Below.refl _ _).drew).mono ?_; rintro e w' ⟨rfl, hb2⟩; have HB2 := btrans HB (undrew hb2))
  all_goals
    go_wp2
    go_ret
    exact ⟨ret_int R.out.symm, HB2⟩

set_option maxHeartbeats 1600000 in
theorem cSlackS (a b : Option Addr) (p q : Nat) (zs : List Int) (ls : List LinkV) (x k : Int) (w : World) (hz : Ints w a zs) (hL : Links w b ls) (hl : zs.length ≤ 1048576) (hl2 : ls.length ≤ 1048576) :
    Calls Try.prog 10 #[.agg #[.slice a zs.length p, .slice b ls.length q, .int .i64 x], .int .i64 k] w fun e w' => e = .returned (.int .i64 (slackW zs ls x k)) ∧ Below w.heap.size w w' := by
  have hW := balloc w (.cells #[.slice a zs.length p, .slice b ls.length q, .int .i64 x] 30)
  have X := Bx3.new w (.slice a zs.length p) (.slice b ls.length q) (.int .i64 x) 30
  have C := cWorkS a b p q zs ls x _ (hz.below hW) (hL.below hW) hl hl2
  cases h1 : workB zs ls x
  · have R := hide (slackW_no (k := k) h1)
    rw [h1] at C
    go_enter Try.func10, Try.ntmps10
    go_wp2_with (go_at_call 6; refine C.mono ?_; rintro e w' ⟨rfl, hb⟩; have HB := btrans hW hb)
    go_ret
    exact ⟨ret_int R.out.symm, HB⟩
  rw [h1] at C
  cases h2 : inB k 0 (ls.length - 1)
  · have R := hide (slackW_out (zs := zs) (x := x) h2)
    go_enter Try.func10, Try.ntmps10
    go_wp2_with (first
      | (go_at_call 6; refine C.mono ?_; rintro e w' ⟨rfl, hb⟩; have HB := btrans hW hb; obtain ⟨x0, x1, x2⟩ := X.below hb)
      | (go_at_call 14; refine (cIn _ _ _ _).mono ?_; rintro e w' ⟨rfl, rfl⟩))
    go_ret
    exact ⟨ret_int R.out.symm, HB⟩
  have h2' := inB_true h2
  obtain ⟨k, rfl⟩ := Int.eq_ofNat_of_zero_le h2'.1
  have hk : k < ls.length := by omega
  have R := hide (slackW_at h1 hk)
  obtain ⟨m1, m2, m3, m4, m5⟩ := workB_parts h1
  obtain ⟨l1, l2, l3, l4, l5, l6, l7⟩ := linkB_parts (link_at m5 hk)
  go_enter Try.func10, Try.ntmps10
  go_wp2_with fail
  refine C.mono ?_
  rintro e w1 ⟨rfl, hb⟩
  have HB := btrans hW hb
  obtain ⟨x0, x1, x2⟩ := X.below hb
  clear hb
  go_wp2_with (go_at_call 14; refine (cIn _ _ _ _).mono ?_; rintro e w' ⟨rfl, hw'⟩; subst w')
  rcases hL with h | ⟨bb, off, rfl, hc⟩
  · simp [h] at hk
  obtain ⟨q0, q1, q2, q3⟩ := hc k hk
  have p0 := ble HB q0
  have p1 := ble HB q1
  have p2 := ble HB q2
  have p3 := ble HB q3
  clear hc q0 q1 q2 q3
  have e0 : ls.getD k LinkV.zero = ls[k] := by simp [List.getD, hk]
  rw [e0] at p0 p1 p2 p3
  generalize ls[k] = y at *
  obtain ⟨yf, yt, yl, yk⟩ := y
  dsimp only at *
  obtain ⟨f, rfl⟩ := Int.eq_ofNat_of_zero_le l1
  obtain ⟨t, rfl⟩ := Int.eq_ofNat_of_zero_le (show 0 ≤ yt by omega)
  have ES := hide (show slackI zs ⟨f, t, yl, yk⟩ = zs.getD t 0 - zs.getD f 0 - yl by simp [slackI])
  rcases hz with h | ⟨zb, zo, rfl, hc⟩
  · simp [h] at l3; omega
  have zt := ble HB (hc t (by omega))
  have zf := ble HB (hc f (by omega))
  have htl : t < zs.length := by omega
  have hfl : f < zs.length := by omega
  have mt := minB_at m2 t
  have mf := minB_at m2 f
  clear hc
  generalize zs.getD t 0 = T at *
  generalize zs.getD f 0 = F at *
  have v1 : IntKind.i64.wrap (T - F) = T - F := wrap_in _ (by omega) (by omega)
  have v2 : IntKind.i64.wrap (T - F - yl) = T - F - yl := wrap_in _ (by omega) (by omega)
  go_region
  go_wp2
  go_ret
  exact ⟨ret_int (by rw [R.out, ES.out]), bdraw HB _⟩
end Go.Proofs.Ytledkfhbdhlohaa
