/- A run with a stop. -/
import Derived.Test.YtnhcmjfmfgoakaaK
namespace Go.Proofs.Ytnhcmjfmfgoakaa
open Go.RowKit

/-- The time with a stop at a border. -/
def stopT (m : MotorV) (zs : List Int) (x : Int) : Int :=
  if motorB m && courseB zs && inB x 1 ((zs.length : Int) - 1) then runT (sqs m (zs.take x.toNat)) + runT (sqs m (zs.drop x.toNat)) else -1
theorem stopT_in {m : MotorV} {zs : List Int} {x : Int} (h1 : motorB m = true) (h2 : courseB zs = true) (h3 : inB x 1 ((zs.length : Int) - 1) = true) :
    stopT m zs x = runT (sqs m (zs.take x.toNat)) + runT (sqs m (zs.drop x.toNat)) := by simp [stopT, h1, h2, h3]
theorem Ints.take {w : World} {a : Option Addr} {zs : List Int} (h : Ints w a zs) (q : Nat) : Ints w a (zs.take q) := by
  rcases h with h | ⟨b, off, ha, hc⟩
  · left; simp [h]
  · right
    refine ⟨b, off, ha, fun i hi => ?_⟩
    have hi' : i < q ∧ i < zs.length := by rw [List.length_take] at hi; omega
    rw [hc i hi'.2]
    simp [List.getD, hi'.1]
theorem Ints.drop {w : World} {b off : Nat} {zs : List Int} (hc : ∀ i, i < zs.length → w.cell? ⟨b, off + i, none⟩ = some (.int .i64 (zs.getD i 0))) (q : Nat) : Ints w (some ⟨b, off + q, none⟩) (zs.drop q) := by
  right
  refine ⟨b, off + q, rfl, fun i hi => ?_⟩
  have hi' : q + i < zs.length := by rw [List.length_drop] at hi; omega
  rw [Nat.add_assoc, hc (q + i) hi']
  simp [List.getD, List.getElem?_drop]
theorem cn36 (a : Option Addr) (cap n : Nat) (m : MotorV) (zs : List Int) (w : World) (hn : zs.length = n) (hz : Ints w a zs) (hl : n ≤ 1048576) :
    Calls Try.prog 36 #[m.val, .slice a n cap] w fun e w' => e = .returned (.int .i64 (runT (sqs m zs))) ∧ Below w.heap.size w w' := by
  subst hn; exact c36 a cap m zs w hz hl
theorem cn20 (a : Option Addr) (cap n : Nat) (m : MotorV) (zs : List Int) (w : World) (hn : zs.length = n) (hz : Ints w a zs) (hl : n ≤ 1048576) :
    Calls Try.prog 20 #[m.val, .slice a n cap] w fun e w' => e = .returned (.int .i64 (runT (sqs m zs))) ∧ Below w.heap.size w w' := by
  subst hn; exact c20 a cap m zs w hz hl

set_option maxRecDepth 20000 in
set_option maxHeartbeats 3200000 in
theorem c38 (a : Option Addr) (cap : Nat) (m : MotorV) (zs : List Int) (x : Int) (w : World) (hz : Ints w a zs) (hl : zs.length ≤ 1048576) (hcap : zs.length ≤ cap) :
    Calls Try.prog 38 #[m.val, .slice a zs.length cap, .int .i64 x] w fun e w' => e = .returned (.int .i64 (stopT m zs x)) ∧ Below w.heap.size w w' := by
  have hwl : IntKind.i64.wrap ((zs.length : Int) - 1) = (zs.length : Int) - 1 := wrap_in _ (by omega) (by omega)
  cases hm : motorB m
  · have E : Hid (stopT m zs x = -1) := by show _ = _; simp [stopT, hm]
    obtain ⟨u, d, t⟩ := m
    unfold MotorV.val
    go_enter Try.func38, Try.ntmps38
    go_wp2_with fail
    refine (c26 ⟨u, d, t⟩ _).mono ?_
    rintro e w1 ⟨rfl, hb⟩
    rw [hm]
    have HB := btrans (balloc _ _) hb
    have X := Bx3.mk hb
    clear hb
    clear X
    go_wp2
    go_ret
    exact ⟨ret_int E.out.symm, HB⟩
  cases hg : courseB zs
  · have E : Hid (stopT m zs x = -1) := by show _ = _; simp [stopT, hg]
    obtain ⟨u, d, t⟩ := m
    unfold MotorV.val
    go_enter Try.func38, Try.ntmps38
    go_wp2_with fail
    refine (c26 ⟨u, d, t⟩ _).mono ?_
    rintro e w1 ⟨rfl, hb⟩
    rw [hm]
    have HB := btrans (balloc _ _) hb
    have X := Bx3.mk hb
    clear hb
    go_wp2_with fail
    refine (c51 a cap zs _ (hz.below HB) hl).mono ?_
    rintro e w2 ⟨rfl, hw⟩
    subst hw
    rw [hg]
    clear X
    go_wp2
    go_ret
    exact ⟨ret_int E.out.symm, HB⟩
  cases hx : inB x 1 ((zs.length : Int) - 1)
  · have E : Hid (stopT m zs x = -1) := by show _ = _; simp [stopT, hx]
    have hx := hide hx
    obtain ⟨u, d, t⟩ := m
    unfold MotorV.val
    go_enter Try.func38, Try.ntmps38
    go_wp2_with fail
    refine (c26 ⟨u, d, t⟩ _).mono ?_
    rintro e w1 ⟨rfl, hb⟩
    rw [hm]
    have HB := btrans (balloc _ _) hb
    have X := Bx3.mk hb
    clear hb
    go_wp2_with fail
    refine (c51 a cap zs _ (hz.below HB) hl).mono ?_
    rintro e w2 ⟨rfl, hw⟩
    subst hw
    rw [hg]
    go_wp2_with fail
    refine (c54 _ _ _ _).mono ?_
    rintro e w2 ⟨rfl, hw⟩
    subst hw
    rw [hx.out]
    clear X
    go_wp2
    go_ret
    exact ⟨ret_int E.out.symm, HB⟩
  have E := hide (stopT_in hm hg hx)
  obtain ⟨x1, x2⟩ := inB_true hx
  replace hx := hide hx
  obtain ⟨q, rfl⟩ : ∃ q : Nat, x = (q : Int) := ⟨x.toNat, by omega⟩
  rw [Int.toNat_natCast] at E
  have n1 := (courseB_parts hg).1.2
  have C1 := fun (a' : Option Addr) (cap' n' : Nat) (w' : World) (hz' : Ints w' a' (zs.take q)) (hn : (zs.take q).length = n') => cn36 a' cap' n' m (zs.take q) w' hn hz' (by rw [List.length_take] at hn; omega)
  have C2 := fun (a' : Option Addr) (cap' n' : Nat) (w' : World) (hz' : Ints w' a' (zs.drop q)) (hn : (zs.drop q).length = n') => cn36 a' cap' n' m (zs.drop q) w' hn hz' (by rw [List.length_drop] at hn; omega)
  have r1 := runT_in _ (sqs_len m (zs.take q))
  have r2 := runT_in _ (sqs_len m (zs.drop q))
  have hlt : (zs.take q).length = q := by rw [List.length_take]; omega
  have hld : (zs.drop q).length = zs.length - q := by rw [List.length_drop]
  rcases hz with hz | ⟨b, off, rfl, hc⟩
  · simp [hz] at x2; omega
  have hzt : Ints w (some ⟨b, off, none⟩) (zs.take q) := Ints.take (.inr ⟨b, off, rfl, hc⟩) q
  have hzd : Ints w (some ⟨b, off + q, none⟩) (zs.drop q) := Ints.drop hc q
  have hz : Ints w (some ⟨b, off, none⟩) zs := .inr ⟨b, off, rfl, hc⟩
  clear hc
  generalize runT (sqs m (zs.take q)) = T1 at *
  generalize runT (sqs m (zs.drop q)) = T2 at *
  have es : IntKind.i64.wrap (T1 + T2) = T1 + T2 := wrap_in _ (by omega) (by omega)
  obtain ⟨u, d, t⟩ := m
  unfold MotorV.val at *
  have p1 : (0 : Int) ≤ (q : Int) := by omega
  have p2 : (q : Int) ≤ (zs.length : Int) := by omega
  have p3 : (q : Int) ≤ (cap : Int) := by omega
  have p4 : cap ≠ q := by omega
  have p5 : ¬ (cap - q = 0) := by omega
  go_enter Try.func38, Try.ntmps38
  go_wp2_with fail
  refine (c26 ⟨u, d, t⟩ _).mono ?_
  rintro e w1 ⟨rfl, hb⟩
  rw [hm]
  have HB := btrans (balloc _ _) hb
  have X := Bx3.mk hb
  clear hb
  go_wp2_with fail
  refine (c51 _ cap zs _ (hz.below HB) hl).mono ?_
  rintro e w2 ⟨rfl, hw⟩
  subst hw
  rw [hg]
  go_wp2_with fail
  refine (c54 _ _ _ _).mono ?_
  rintro e w2 ⟨rfl, hw⟩
  subst hw
  rw [hx.out]
  obtain ⟨b0, b1, b2⟩ := id X
  have hlt := hide hlt
  have hld := hide hld
  go_wp2_with fail
  go_region_with (first
    | (go_at_call 36; refine (C2 (some ⟨b, off + q, none⟩) (cap - q) (zs.length - q) _ (hzd.below HB6) hld.out).mono ?_; rintro e w7 ⟨rfl, hb7⟩; have HB7 := btrans HB6 hb7)
    | (go_at_call 36; refine (C1 (some ⟨b, off, none⟩) cap q _ (hzt.below HB.drew) hlt.out).mono ?_; rintro e w6 ⟨rfl, hb6⟩; have HB6 := btrans HB (undrew hb6); obtain ⟨y0, y1, y2⟩ := X.below (undrew hb6)))
  all_goals go_wp2
  all_goals go_ret
  all_goals exact ⟨ret_int E.out.symm, HB7⟩

set_option maxRecDepth 20000 in
set_option maxHeartbeats 3200000 in
theorem c23 (a : Option Addr) (cap : Nat) (m : MotorV) (zs : List Int) (x : Int) (w : World) (hz : Ints w a zs) (hl : zs.length ≤ 1048576) (hcap : zs.length ≤ cap) :
    Calls Try.prog 23 #[m.val, .slice a zs.length cap, .int .i64 x] w fun e w' => e = .returned (.int .i64 (stopT m zs x)) ∧ Below w.heap.size w w' := by
  have hwl : IntKind.i64.wrap ((zs.length : Int) - 1) = (zs.length : Int) - 1 := wrap_in _ (by omega) (by omega)
  cases hm : motorB m
  · have E : Hid (stopT m zs x = -1) := by show _ = _; simp [stopT, hm]
    obtain ⟨u, d, t⟩ := m
    unfold MotorV.val
    go_enter Try.func23, Try.ntmps23
    go_wp2_with fail
    refine (c28 ⟨u, d, t⟩ _).mono ?_
    rintro e w1 ⟨rfl, hb⟩
    rw [hm]
    have HB := btrans (balloc _ _) hb
    have X := Bx3.mk hb
    clear hb
    clear X
    go_wp2
    go_ret
    exact ⟨ret_int E.out.symm, HB⟩
  cases hg : courseB zs
  · have E : Hid (stopT m zs x = -1) := by show _ = _; simp [stopT, hg]
    obtain ⟨u, d, t⟩ := m
    unfold MotorV.val
    go_enter Try.func23, Try.ntmps23
    go_wp2_with fail
    refine (c28 ⟨u, d, t⟩ _).mono ?_
    rintro e w1 ⟨rfl, hb⟩
    rw [hm]
    have HB := btrans (balloc _ _) hb
    have X := Bx3.mk hb
    clear hb
    go_wp2_with fail
    refine (c44 a cap zs _ (hz.below HB) hl).mono ?_
    rintro e w2 ⟨rfl, hw⟩
    subst hw
    rw [hg]
    clear X
    go_wp2
    go_ret
    exact ⟨ret_int E.out.symm, HB⟩
  cases hx : inB x 1 ((zs.length : Int) - 1)
  · have E : Hid (stopT m zs x = -1) := by show _ = _; simp [stopT, hx]
    have hx := hide hx
    obtain ⟨u, d, t⟩ := m
    unfold MotorV.val
    go_enter Try.func23, Try.ntmps23
    go_wp2_with fail
    refine (c28 ⟨u, d, t⟩ _).mono ?_
    rintro e w1 ⟨rfl, hb⟩
    rw [hm]
    have HB := btrans (balloc _ _) hb
    have X := Bx3.mk hb
    clear hb
    go_wp2_with fail
    refine (c44 a cap zs _ (hz.below HB) hl).mono ?_
    rintro e w2 ⟨rfl, hw⟩
    subst hw
    rw [hg]
    go_wp2_with fail
    refine (c53 _ _ _ _).mono ?_
    rintro e w2 ⟨rfl, hw⟩
    subst hw
    rw [hx.out]
    clear X
    go_wp2
    go_ret
    exact ⟨ret_int E.out.symm, HB⟩
  have E := hide (stopT_in hm hg hx)
  obtain ⟨x1, x2⟩ := inB_true hx
  replace hx := hide hx
  obtain ⟨q, rfl⟩ : ∃ q : Nat, x = (q : Int) := ⟨x.toNat, by omega⟩
  rw [Int.toNat_natCast] at E
  have n1 := (courseB_parts hg).1.2
  have C1 := fun (a' : Option Addr) (cap' n' : Nat) (w' : World) (hz' : Ints w' a' (zs.take q)) (hn : (zs.take q).length = n') => cn20 a' cap' n' m (zs.take q) w' hn hz' (by rw [List.length_take] at hn; omega)
  have C2 := fun (a' : Option Addr) (cap' n' : Nat) (w' : World) (hz' : Ints w' a' (zs.drop q)) (hn : (zs.drop q).length = n') => cn20 a' cap' n' m (zs.drop q) w' hn hz' (by rw [List.length_drop] at hn; omega)
  have r1 := runT_in _ (sqs_len m (zs.take q))
  have r2 := runT_in _ (sqs_len m (zs.drop q))
  have hlt : (zs.take q).length = q := by rw [List.length_take]; omega
  have hld : (zs.drop q).length = zs.length - q := by rw [List.length_drop]
  rcases hz with hz | ⟨b, off, rfl, hc⟩
  · simp [hz] at x2; omega
  have hzt : Ints w (some ⟨b, off, none⟩) (zs.take q) := Ints.take (.inr ⟨b, off, rfl, hc⟩) q
  have hzd : Ints w (some ⟨b, off + q, none⟩) (zs.drop q) := Ints.drop hc q
  have hz : Ints w (some ⟨b, off, none⟩) zs := .inr ⟨b, off, rfl, hc⟩
  clear hc
  generalize runT (sqs m (zs.take q)) = T1 at *
  generalize runT (sqs m (zs.drop q)) = T2 at *
  have es : IntKind.i64.wrap (T1 + T2) = T1 + T2 := wrap_in _ (by omega) (by omega)
  obtain ⟨u, d, t⟩ := m
  unfold MotorV.val at *
  have p1 : (0 : Int) ≤ (q : Int) := by omega
  have p2 : (q : Int) ≤ (zs.length : Int) := by omega
  have p3 : (q : Int) ≤ (cap : Int) := by omega
  have p4 : cap ≠ q := by omega
  have p5 : ¬ (cap - q = 0) := by omega
  go_enter Try.func23, Try.ntmps23
  go_wp2_with fail
  refine (c28 ⟨u, d, t⟩ _).mono ?_
  rintro e w1 ⟨rfl, hb⟩
  rw [hm]
  have HB := btrans (balloc _ _) hb
  have X := Bx3.mk hb
  clear hb
  go_wp2_with fail
  refine (c44 _ cap zs _ (hz.below HB) hl).mono ?_
  rintro e w2 ⟨rfl, hw⟩
  subst hw
  rw [hg]
  go_wp2_with fail
  refine (c53 _ _ _ _).mono ?_
  rintro e w2 ⟨rfl, hw⟩
  subst hw
  rw [hx.out]
  obtain ⟨b0, b1, b2⟩ := id X
  have hlt := hide hlt
  have hld := hide hld
  go_wp2_with fail
  go_region_with (first
    | (go_at_call 20; refine (C2 (some ⟨b, off + q, none⟩) (cap - q) (zs.length - q) _ (hzd.below HB6) hld.out).mono ?_; rintro e w7 ⟨rfl, hb7⟩; have HB7 := btrans HB6 hb7)
    | (go_at_call 20; refine (C1 (some ⟨b, off, none⟩) cap q _ (hzt.below HB.drew) hlt.out).mono ?_; rintro e w6 ⟨rfl, hb6⟩; have HB6 := btrans HB (undrew hb6); obtain ⟨y0, y1, y2⟩ := X.below (undrew hb6)))
  all_goals go_wp2
  all_goals go_ret
  all_goals exact ⟨ret_int E.out.symm, HB7⟩
end Go.Proofs.Ytnhcmjfmfgoakaa
