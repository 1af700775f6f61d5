/- The model's list of aspects. -/
import Derived.Test.YtnbfkkmjehhihaaDoorF
namespace Go.Proofs.YtnbfkkmjehhihaaDoor
open Go.RowKit
theorem info_parts2 {i? : Option TypeInfo} {z : Option Value} {s by' : Nat} (h : i?.map (fun i => (i.zero, i.size, i.bytes)) = some (z, s, by')) : ∃ i, i? = some i ∧ i.zero = z ∧ i.size = s ∧ i.bytes = by' := by
  cases i? with
  | none => cases h
  | some i => simp at h; exact ⟨i, rfl, h⟩
theorem asp_cases (bs : List Bool) (y : Int) (i : Nat) :
    (((i : Int) + free bs i = bs.length ∧ ((3 < (free bs i : Int) + y ∧ asp bs y i = 3) ∨ ((free bs i : Int) + y ≤ 3 ∧ asp bs y i = free bs i + y))) ∨
     (¬ ((i : Int) + free bs i = bs.length) ∧ ((3 < (free bs i : Int) ∧ asp bs y i = 3) ∨ ((free bs i : Int) ≤ 3 ∧ asp bs y i = free bs i)))) := by
  unfold asp
  by_cases c : i + free bs i = bs.length
  · rw [if_pos c]; left; omega
  · rw [if_neg c]; right; omega

set_option maxRecDepth 20000 in
set_option maxHeartbeats 3200000 in
theorem cAspS (a : Option Addr) (cap : Nat) (bs : List Bool) (y : Int) (w : World) (hz : Bools w a bs) (hl : bs.length ≤ 1048576) :
    Calls Tryd.prog 40 #[.slice a bs.length cap, .int .i64 y] w fun e w' => ∃ v, e = .returned v ∧
      w'.ownsRow w.heap.size 3 1 v (aspects bs y).length ((aspects bs y).map (Value.int .i64)) ∧ Below w.heap.size w w' := by
  by_cases hn : 100 < bs.length
  · have R := hide (aspects_no (aspOk_long (y := y) hn))
    generalize aspects bs y = r at *
    go_enter Tryd.func40, Tryd.ntmps40
    go_wp2
    go_ret
    exact ⟨_, rfl, by rw [R.out]; exact World.ownsRow_nil _ _ _ _, Below.refl _ _⟩
  cases h1 : inB y 0 3
  · have R := hide (aspects_no (bs := bs) (aspOk_out h1))
    generalize aspects bs y = r at *
    go_enter Tryd.func40, Tryd.ntmps40
    go_wp2_with fail
    refine (cIn _ _ _ _).mono ?_
    rintro e w1 ⟨rfl, hw⟩
    subst w1
    rw [h1]
    go_wp2
    go_ret
    exact ⟨_, rfl, by rw [R.out]; exact World.ownsRow_nil _ _ _ _, Below.refl _ _⟩
  have R := hide (aspects_yes (bs := bs) (y := y) (by omega) h1)
  have hF : ∀ k, k < bs.length → freeFrom bs (k : Int) = free bs k := fun k h => freeFrom_yes (by omega) h
  have hFl : ∀ k, k < bs.length → k + free bs k ≤ bs.length := fun k h => free_le bs k (by omega)
  have hA := asp_cases bs y
  have hR := fun k => asps_succ bs y k
  have hRl := fun k => asps_len bs y k
  have hR0 : asps bs y 0 = [] := rfl
  generalize aspects bs y = L at *
  generalize asps bs y = AS at *
  generalize asp bs y = f at *
  obtain ⟨h2, h3⟩ := inB_true h1
  obtain ⟨i0, hi, hz0, hz1, hz2⟩ := info_parts2 infoInts
  go_enter Tryd.func40, Tryd.ntmps40
  go_wp2_with fail
  refine (cIn _ _ _ _).mono ?_
  rintro e w1 ⟨rfl, hw⟩
  subst w1
  rw [h1]
  go_wp2
  go_loopw [5, 6, 7, 8] (fun o i _ _ wr => ∃ k : Nat, k ≤ bs.length ∧ i = .int .i64 k ∧ wr.ownsRow w.heap.size 3 1 o k ((AS k).map (Value.int .i64)) ∧ Below w.heap.size w wr) (fun _ i _ _ _ => bs.length - (intOf i).toNat)
  case atStart => exact ⟨0, Nat.zero_le _, rfl, by rw [hR0]; exact World.ownsRow_made _ #[] 0 (Nat.le_refl _) (by omega) rfl, balloc _ _⟩
  case round =>
    obtain ⟨k, hk, rfl, hown, hb⟩ := hrel
    by_cases hlt : k < bs.length
    · have hRk := hide (hR k)
      have hfk := hF k hlt
      have hAk := hA k
      have hfl := hFl k hlt
      have hsz := hb.size
      clear hA hR hRl hR0 hF hFl
      generalize f k = r at *
      generalize free bs k = fr at *
      rcases hAk with ⟨c1, ⟨c2, rfl⟩ | ⟨c2, rfl⟩⟩ | ⟨c1, ⟨c2, rfl⟩ | ⟨c2, rfl⟩⟩
      · go_wp2_with fail
        refine (cFreeS a cap bs k _ (hz.below hb) (by omega)).mono ?_
        rintro e w2 ⟨rfl, hw⟩
        subst w2
        rw [hfk]
        go_wp2_with (at_builtin; refine wpList_append_own _ rfl _ _ 39 rfl w.heap.size 3 i0 (.int .i64 0) 1 8 Tryd.underlying39 hi hz0 hz1 hz2 rfl (by decide) _ _ _ rfl (hown.alloc _) ⟨wr.heap.size, 0, none⟩ 1 1 [.int .i64 (3)] rfl rfl ?c1 ?c2 ?c3 ?c4 ?c5 ?_)
        case c1 =>
          intro j u hj
          match j, hj with
          | 0, hj => simp at hj; subst hj; simp [Addr.add]
        case c2 => intro u hu; simp at hu; subst hu; rfl
        case c3 => unfold maxLen; omega
        case c4 => omega
        case c5 => simp; omega
        intro v' w5 hown' hgrow _
        have hfrom := own_from hown (Nat.le_refl _)
        have hbel' : Below w.heap.size w w5 := (hb.alloc hsz _).grown hgrow (by simp; omega) (fun j e => by have := hfrom j e; omega)
        have hown2 : w5.ownsRow w.heap.size 3 1 v' (k + 1) ((AS (k + 1)).map (Value.int .i64)) := by
          rw [hRk.out, List.map_append]; exact hown'
        clear hown hown' hgrow hb hfrom
        go_wp2
        go_roundw
        case rel => exact ⟨k + 1, by omega, by go_num, hown2, hbel'⟩
        case measure => simp [intOf]; omega
      · go_wp2_with fail
        refine (cFreeS a cap bs k _ (hz.below hb) (by omega)).mono ?_
        rintro e w2 ⟨rfl, hw⟩
        subst w2
        rw [hfk]
        go_wp2_with (at_builtin; refine wpList_append_own _ rfl _ _ 39 rfl w.heap.size 3 i0 (.int .i64 0) 1 8 Tryd.underlying39 hi hz0 hz1 hz2 rfl (by decide) _ _ _ rfl (hown.alloc _) ⟨wr.heap.size, 0, none⟩ 1 1 [.int .i64 ((fr : Int) + y)] rfl rfl ?c1 ?c2 ?c3 ?c4 ?c5 ?_)
        case c1 =>
          intro j u hj
          match j, hj with
          | 0, hj => simp at hj; subst hj; simp [Addr.add]
        case c2 => intro u hu; simp at hu; subst hu; rfl
        case c3 => unfold maxLen; omega
        case c4 => omega
        case c5 => simp; omega
        intro v' w5 hown' hgrow _
        have hfrom := own_from hown (Nat.le_refl _)
        have hbel' : Below w.heap.size w w5 := (hb.alloc hsz _).grown hgrow (by simp; omega) (fun j e => by have := hfrom j e; omega)
        have hown2 : w5.ownsRow w.heap.size 3 1 v' (k + 1) ((AS (k + 1)).map (Value.int .i64)) := by
          rw [hRk.out, List.map_append]; exact hown'
        clear hown hown' hgrow hb hfrom
        go_wp2
        go_roundw
        case rel => exact ⟨k + 1, by omega, by go_num, hown2, hbel'⟩
        case measure => simp [intOf]; omega
      · go_wp2_with fail
        refine (cFreeS a cap bs k _ (hz.below hb) (by omega)).mono ?_
        rintro e w2 ⟨rfl, hw⟩
        subst w2
        rw [hfk]
        go_wp2_with (at_builtin; refine wpList_append_own _ rfl _ _ 39 rfl w.heap.size 3 i0 (.int .i64 0) 1 8 Tryd.underlying39 hi hz0 hz1 hz2 rfl (by decide) _ _ _ rfl (hown.alloc _) ⟨wr.heap.size, 0, none⟩ 1 1 [.int .i64 (3)] rfl rfl ?c1 ?c2 ?c3 ?c4 ?c5 ?_)
        case c1 =>
          intro j u hj
          match j, hj with
          | 0, hj => simp at hj; subst hj; simp [Addr.add]
        case c2 => intro u hu; simp at hu; subst hu; rfl
        case c3 => unfold maxLen; omega
        case c4 => omega
        case c5 => simp; omega
        intro v' w5 hown' hgrow _
        have hfrom := own_from hown (Nat.le_refl _)
        have hbel' : Below w.heap.size w w5 := (hb.alloc hsz _).grown hgrow (by simp; omega) (fun j e => by have := hfrom j e; omega)
        have hown2 : w5.ownsRow w.heap.size 3 1 v' (k + 1) ((AS (k + 1)).map (Value.int .i64)) := by
          rw [hRk.out, List.map_append]; exact hown'
        clear hown hown' hgrow hb hfrom
        go_wp2
        go_roundw
        case rel => exact ⟨k + 1, by omega, by go_num, hown2, hbel'⟩
        case measure => simp [intOf]; omega
      · go_wp2_with fail
        refine (cFreeS a cap bs k _ (hz.below hb) (by omega)).mono ?_
        rintro e w2 ⟨rfl, hw⟩
        subst w2
        rw [hfk]
        go_wp2_with (at_builtin; refine wpList_append_own _ rfl _ _ 39 rfl w.heap.size 3 i0 (.int .i64 0) 1 8 Tryd.underlying39 hi hz0 hz1 hz2 rfl (by decide) _ _ _ rfl (hown.alloc _) ⟨wr.heap.size, 0, none⟩ 1 1 [.int .i64 ((fr : Int))] rfl rfl ?c1 ?c2 ?c3 ?c4 ?c5 ?_)
        case c1 =>
          intro j u hj
          match j, hj with
          | 0, hj => simp at hj; subst hj; simp [Addr.add]
        case c2 => intro u hu; simp at hu; subst hu; rfl
        case c3 => unfold maxLen; omega
        case c4 => omega
        case c5 => simp; omega
        intro v' w5 hown' hgrow _
        have hfrom := own_from hown (Nat.le_refl _)
        have hbel' : Below w.heap.size w w5 := (hb.alloc hsz _).grown hgrow (by simp; omega) (fun j e => by have := hfrom j e; omega)
        have hown2 : w5.ownsRow w.heap.size 3 1 v' (k + 1) ((AS (k + 1)).map (Value.int .i64)) := by
          rw [hRk.out, List.map_append]; exact hown'
        clear hown hown' hgrow hb hfrom
        go_wp2
        go_roundw
        case rel => exact ⟨k + 1, by omega, by go_num, hown2, hbel'⟩
        case measure => simp [intOf]; omega
    · obtain rfl : k = bs.length := by omega
      go_wp2
      go_ret
      exact ⟨_, rfl, by rw [R.out, hRl]; exact hown, hb⟩
end Go.Proofs.YtnbfkkmjehhihaaDoor
