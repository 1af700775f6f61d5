/- Fastest, of both. -/
import Derived.Test.YtpfnnpgielnaeaaSI
namespace Go.Proofs.Ytpfnnpgielnaeaa
open Go.RowKit
/-- An answer that is a row of its own, of numbers for which P holds. -/
def RowAns (w : World) (P : List Int → Prop) (e : Ending) (w' : World) : Prop := ∃ v, e = .returned v ∧ ∃ L, P L ∧ w'.ownsRow w.heap.size 3 1 v L.length (L.map (.int .i64)) ∧ Below w.heap.size w w'
/-- What Fastest tells. -/
def FastL (ts : List TripV) (f u m ch : Int) (L : List Int) : Prop := (¬ AskP ts f u m ch 5 ∧ L = []) ∨ (AskP ts f u m ch 5 ∧ L.length = 5 ∧ ∀ k : Nat, k < 5 → SoonAns ts f u m ch ((k : Int) + 1) (L.getD k 0))
theorem FastL.uniq {ts : List TripV} {f u m ch : Int} {L L' : List Int} (a : FastL ts f u m ch L) (b : FastL ts f u m ch L') : L = L' := by
  rcases a with ⟨a1, a2⟩ | ⟨a1, a2, a3⟩ <;> rcases b with ⟨b1, b2⟩ | ⟨b1, b2, b3⟩
  · rw [a2, b2]
  · exact absurd b1 a1
  · exact absurd a1 b1
  · apply List.ext_getElem (by omega)
    intro i h1 h2
    have := (a3 i (by omega)).uniq (b3 i (by omega))
    simpa [List.getD, h1, h2] using this
theorem FastL.small {ts : List TripV} {f u m ch : Int} {L : List Int} (a : FastL ts f u m ch L) : L.length ≤ 1000 := by
  rcases a with ⟨_, a2⟩ | ⟨_, a2, _⟩
  · rw [a2]; simp
  · omega

set_option maxRecDepth 20000 in
set_option maxHeartbeats 1600000 in
theorem cFastS (a : Option Addr) (cap : Nat) (ts : List TripV) (f u m ch : Int) (w : World) (hz : Trips w a ts) (hS : Small ts) :
    Calls Try.prog 33 #[.slice a ts.length cap, .int .i64 f, .int .i64 u, .int .i64 m, .int .i64 ch] w (RowAns w (FastL ts f u m ch)) := by
  obtain ⟨i0, hi, hz0, hz1, hz2⟩ := info_parts infoInts
  go_enter Try.func33, Try.ntmps33
  go_wp2_with fail
  refine (cAskS a cap ts f u m ch 5 _ hz hS).mono ?_
  rintro e w1 ⟨r, rfl, hr, hb⟩
  cases r
  · have hF : FastL ts f u m ch [] := .inl ⟨fun q => absurd (hr.2 q) (by decide), rfl⟩
    clear hr
    go_wp2
    go_ret
    exact ⟨_, rfl, [], hF, World.ownsRow_nil _ _ _ _, hb⟩
  have q := hide (hr.1 rfl)
  clear hr
  have hsz1 := hb.size
  go_wp2
  go_loopw [11, 12] (fun v hh wr => ∃ (i : Nat) (L : List Int), i ≤ 5 ∧ hh = .int .i64 ((i : Int) + 1) ∧ L.length = i ∧ Hid (∀ k, k < i → SoonAns ts f u m ch ((k : Int) + 1) (L.getD k 0)) ∧ wr.ownsRow w.heap.size 3 1 v i (L.map (.int .i64)) ∧ Below w.heap.size w wr) (fun _ hh _ => 6 - (intOf hh).toNat)
  case atStart => exact ⟨0, [], Nat.zero_le _, rfl, rfl, hide (fun k hk => by omega), by simpa using own_base (World.ownsRow_made w1 #[] 0 (Nat.le_refl _) (by omega) rfl) hsz1, btrans hb (balloc _ _)⟩
  case round =>
    obtain ⟨i, L, hi5, rfl, hLl, hA, ho, hb2⟩ := hrel
    obtain ⟨va, vc, rfl⟩ := own_form ho
    by_cases hlt : i < 5
    · have hlt' : (i : Int) + 1 ≤ 5 := by omega
      have CS := cSoonS a cap ts f u m ch ((i : Int) + 1) wr (hz.below hb2) hS
      go_wp2_with fail
      refine CS.mono ?_
      rintro e w2 ⟨r, rfl, hr, hb3⟩
      have hb4 := btrans hb2 hb3
      have ho2 := own_keep ho hb3
      have hsz := hb4.size
      have hA2 : Hid (∀ k, k < i + 1 → SoonAns ts f u m ch ((k : Int) + 1) ((L ++ [r]).getD k 0)) := hide (fun k hk => by
        by_cases e : k = i
        · subst e; rw [getD_app_r (by omega), hLl, Nat.sub_self]; exact hr
        · rw [getD_app_l (by omega)]; exact hA.out k (by omega))
      clear CS hA hb2 hb3 ho hr
      go_wp2_with (at_builtin; refine wpList_append_own _ rfl _ _ 27 rfl w.heap.size 3 i0 (.int .i64 0) 1 8 Try.underlying27 hi hz0 hz1 hz2 rfl (by decide) _ _ _ rfl (ho2.alloc _) ⟨w2.heap.size, 0, none⟩ 1 1 [.int .i64 r] rfl rfl ?c1 ?c2 ?c3 ?c4 ?c5 ?_)
      case c1 =>
        intro j x hj
        match j, hj with
        | 0, hj => simp at hj; subst hj; simp [Addr.add]
      case c2 => intro x hx; simp at hx; subst hx; rfl
      case c3 => unfold maxLen; omega
      case c4 => omega
      case c5 => simp; omega
      intro v5 w5 hown5 hgrow5 _
      have hfrom := own_from ho2 (Nat.le_refl _)
      have hb5 : Below w.heap.size w w5 := (hb4.alloc hsz _).grown hgrow5 (by simp; omega) (fun j e => by have := hfrom j e; omega)
      have ho5 : w5.ownsRow w.heap.size 3 1 v5 (i + 1) ((L ++ [r]).map (.int .i64)) := by rw [List.map_append]; exact hown5
      have hl2 : (L ++ [r]).length = i + 1 := by simp [hLl]
      clear hown5 hgrow5 hfrom ho2 hb4 hsz
      replace hl2 := hide hl2
      go_wp2
      go_roundw
      case rel => exact ⟨i + 1, L ++ [r], by omega, by go_num, hl2.out, hA2, ho5, hb5⟩
      case measure => simp [intOf]; omega
    · have hlt' : ¬ ((i : Int) + 1 ≤ 5) := by omega
      obtain rfl : i = 5 := by omega
      have hF : FastL ts f u m ch L := .inr ⟨q.out, hLl, hA.out⟩
      have hG : RowAns w (FastL ts f u m ch) (.returned (.slice va 5 vc)) wr := ⟨_, rfl, L, hF, by rw [hLl]; exact ho, hb2⟩
      clear hA ho hF
      go_wp2
      go_ret
      exact hG

set_option maxRecDepth 20000 in
set_option maxHeartbeats 1600000 in
theorem cFastI (a : Option Addr) (cap : Nat) (ts : List TripV) (f u m ch : Int) (w : World) (hz : Trips w a ts) (hS : Small ts) :
    Calls Try.prog 13 #[.slice a ts.length cap, .int .i64 f, .int .i64 u, .int .i64 m, .int .i64 ch] w (RowAns w (FastL ts f u m ch)) := by
  obtain ⟨i0, hi, hz0, hz1, hz2⟩ := info_parts infoInts
  go_enter Try.func13, Try.ntmps13
  go_wp2_with fail
  refine (cAskI a cap ts f u m ch 5 _ hz hS).mono ?_
  rintro e w1 ⟨r, rfl, hr, hb⟩
  cases r
  · have hF : FastL ts f u m ch [] := .inl ⟨fun q => absurd (hr.2 q) (by decide), rfl⟩
    clear hr
    go_wp2
    go_ret
    exact ⟨_, rfl, [], hF, World.ownsRow_nil _ _ _ _, hb⟩
  have q := hide (hr.1 rfl)
  clear hr
  have hsz1 := hb.size
  go_wp2
  go_loopw [11, 12] (fun v hh wr => ∃ (i : Nat) (L : List Int), i ≤ 5 ∧ hh = .int .i64 ((i : Int) + 1) ∧ L.length = i ∧ Hid (∀ k, k < i → SoonAns ts f u m ch ((k : Int) + 1) (L.getD k 0)) ∧ wr.ownsRow w.heap.size 3 1 v i (L.map (.int .i64)) ∧ Below w.heap.size w wr) (fun _ hh _ => 6 - (intOf hh).toNat)
  case atStart => exact ⟨0, [], Nat.zero_le _, rfl, rfl, hide (fun k hk => by omega), World.ownsRow_nil _ _ _ _, hb⟩
  case round =>
    obtain ⟨i, L, hi5, rfl, hLl, hA, ho, hb2⟩ := hrel
    obtain ⟨va, vc, rfl⟩ := own_form ho
    by_cases hlt : i < 5
    · have hlt' : (i : Int) + 1 ≤ 5 := by omega
      have CS := cSoonI a cap ts f u m ch ((i : Int) + 1) wr (hz.below hb2) hS
      go_wp2_with fail
      refine CS.mono ?_
      rintro e w2 ⟨r, rfl, hr, hb3⟩
      have hb4 := btrans hb2 hb3
      have ho2 := own_keep ho hb3
      have hsz := hb4.size
      have hA2 : Hid (∀ k, k < i + 1 → SoonAns ts f u m ch ((k : Int) + 1) ((L ++ [r]).getD k 0)) := hide (fun k hk => by
        by_cases e : k = i
        · subst e; rw [getD_app_r (by omega), hLl, Nat.sub_self]; exact hr
        · rw [getD_app_l (by omega)]; exact hA.out k (by omega))
      clear CS hA hb2 hb3 ho hr
      go_wp2_with (at_builtin; refine wpList_append_own _ rfl _ _ 27 rfl w.heap.size 3 i0 (.int .i64 0) 1 8 Try.underlying27 hi hz0 hz1 hz2 rfl (by decide) _ _ _ rfl (ho2.alloc _) ⟨w2.heap.size, 0, none⟩ 1 1 [.int .i64 r] rfl rfl ?c1 ?c2 ?c3 ?c4 ?c5 ?_)
      case c1 =>
        intro j x hj
        match j, hj with
        | 0, hj => simp at hj; subst hj; simp [Addr.add]
      case c2 => intro x hx; simp at hx; subst hx; rfl
      case c3 => unfold maxLen; omega
      case c4 => omega
      case c5 => simp; omega
      intro v5 w5 hown5 hgrow5 _
      have hfrom := own_from ho2 (Nat.le_refl _)
      have hb5 : Below w.heap.size w w5 := (hb4.alloc hsz _).grown hgrow5 (by simp; omega) (fun j e => by have := hfrom j e; omega)
      have ho5 : w5.ownsRow w.heap.size 3 1 v5 (i + 1) ((L ++ [r]).map (.int .i64)) := by rw [List.map_append]; exact hown5
      have hl2 : (L ++ [r]).length = i + 1 := by simp [hLl]
      clear hown5 hgrow5 hfrom ho2 hb4 hsz
      replace hl2 := hide hl2
      go_wp2
      go_roundw
      case rel => exact ⟨i + 1, L ++ [r], by omega, by go_num, hl2.out, hA2, ho5, hb5⟩
      case measure => simp [intOf]; omega
    · have hlt' : ¬ ((i : Int) + 1 ≤ 5) := by omega
      obtain rfl : i = 5 := by omega
      have hF : FastL ts f u m ch L := .inr ⟨q.out, hLl, hA.out⟩
      have hG : RowAns w (FastL ts f u m ch) (.returned (.slice va 5 vc)) wr := ⟨_, rfl, L, hF, by rw [hLl]; exact ho, hb2⟩
      clear hA ho hF
      go_wp2
      go_ret
      exact hG
end Go.Proofs.Ytpfnnpgielnaeaa
