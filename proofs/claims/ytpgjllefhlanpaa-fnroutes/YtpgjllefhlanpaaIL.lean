/- The program's LockingOk. -/
import Derived.Test.YtpgjllefhlanpaaIQ
import Derived.Test.YtpgjllefhlanpaaSU
import Derived.Test.YtpgjllefhlanpaaSV
namespace Go.Proofs.Ytpgjllefhlanpaa
open Go.RowKit

set_option maxHeartbeats 800000 in
theorem cAllOf (a : Option Addr) (cap : Nat) (zs : List Int) (w : World) (hz : Ints w a zs) (hl : zs.length ≤ 1048576) :
    Calls Try.prog 25 #[.slice a zs.length cap, .func (.func 26) #[] #[]] w fun e w' => e = .returned (.bool (zs.all (fun x => inB x 0 1))) ∧ w' = w := by
  generalize hr : zs.all (fun x => inB x 0 1) = res
  have hr0 : Hid ((zs.drop 0).all (fun x => inB x 0 1) = res) := hr
  clear hr
  go_enter Try.func25, Try.ntmps25
  go_wp2
  go_loop [9] (fun i => ∃ k : Nat, k ≤ zs.length ∧ i = .int .i64 k ∧ Hid ((zs.drop k).all (fun x => inB x 0 1) = res)) (fun i => zs.length - (intOf i).toNat)
  case atStart => exact ⟨0, Nat.zero_le _, rfl, hr0⟩
  case round =>
    obtain ⟨k, hk, rfl, hres⟩ := hrel
    clear hr0
    by_cases hlt : k < zs.length
    · rcases hz with h | ⟨b, off, rfl, hc⟩
      · simp [h] at hlt
      have q0 := hc k hlt
      have e0 : zs.getD k 0 = zs[k] := by simp [List.getD, hlt]
      rw [e0] at q0
      have hd := hide ((all_drop (P := fun x => inB x 0 1) hlt).symm.trans hres.out)
      generalize zs[k] = y at *
      clear hc e0 hres
      go_wp2_with fail
      refine (cPosOk y _).mono ?_
      rintro e w1 ⟨rfl, hw⟩
      subst w1
      cases hy : inB y 0 1
      · have hf := hide (show res = false by rw [← hd.out, hy]; rfl)
        clear hd hy
        go_wp2
        go_ret
        exact ⟨ret_bool hf.out.symm, rfl⟩
      · have hf := hide (show (zs.drop (k + 1)).all (fun x => inB x 0 1) = res by rw [← hd.out, hy]; rfl)
        clear hd hy
        go_wp2
        go_round
        case rel => exact ⟨k + 1, by omega, by go_num, hf⟩
        case measure => simp [intOf]; omega
    · obtain rfl : k = zs.length := by omega
      have hf := hide (show res = true by rw [← hres.out, List.drop_length]; rfl)
      clear hz
      go_wp2
      go_ret
      exact ⟨ret_bool hf.out.symm, rfl⟩

theorem lockOk_parts (p : PlantV) (l : LockV) : lockOk p l = (plantOk p && decide (l.pos.length = p.under.length) && decide (l.set.length = p.routes.length) && decide ((l.taken.length : Int) = p.blocks) && l.pos.all (fun x => inB x 0 1) && (List.range l.set.length).all fun r => !l.set.getD r false || (!barred p l r && laid p l r)) := by
  unfold lockOk fits
  simp only [Bool.and_assoc]

set_option maxRecDepth 20000 in
set_option maxHeartbeats 3200000 in
theorem cLockOkI (a b x y z : Option Addr) (ca cb cx cy cz : Nat) (p : PlantV) (l : LockV) (w : World) (hP : PlantIn w a b p) (hL : LockIn w x y z l) (hS : Small p) (hT : LSmall l) :
    Calls Try.prog 9 #[plantVal a ca b cb p, lockVal x cx y cy z cz l] w fun e w' => e = .returned (.bool (lockOk p l)) ∧ Below w.heap.size w w' := by
  have CP := fun w hP => cPlantOkI a b ca cb p w hP hS
  have CA := fun w hz => cAllOf x cx l.pos w hz hT.pos
  have CB := fun r w hP hy hF hr => cBarredI a b x y z ca cb cx cy cz p l r w hP hy hS hF hr
  have CD := fun r w hP hx hF hr => cLaid a b x y z ca cb cx cy cz p l r w hP hx hS hF hr
  generalize hres : lockOk p l = res
  rw [lockOk_parts] at hres
  replace hres := hide hres
  have t1 := hT.pos
  have t2 := hT.set
  have t3 := hT.taken
  have u1 := hS.under
  have u2 := hS.routes
  generalize hok : plantOk p = ok at *
  unfold plantVal lockVal stVal at *
  have HB := btrans (balloc w (.cells #[.slice a p.under.length ca, .int .i64 p.blocks, .slice b p.routes.length cb] 27)) (balloc _ (.cells #[.slice x l.pos.length cx, .slice y l.set.length cy, .slice z l.taken.length cz] 33))
  have hk : ((w.alloc (.cells #[.slice a p.under.length ca, .int .i64 p.blocks, .slice b p.routes.length cb] 27)).alloc (.cells #[.slice x l.pos.length cx, .slice y l.set.length cy, .slice z l.taken.length cz] 33)).heap[w.heap.size]? = some (.cells #[.slice a p.under.length ca, .int .i64 p.blocks, .slice b p.routes.length cb] 27 (0, 0)) := two_blocks1 _ _ _
  have hj : ((w.alloc (.cells #[.slice a p.under.length ca, .int .i64 p.blocks, .slice b p.routes.length cb] 27)).alloc (.cells #[.slice x l.pos.length cx, .slice y l.set.length cy, .slice z l.taken.length cz] 33)).heap[w.heap.size + 1]? = some (.cells #[.slice x l.pos.length cx, .slice y l.set.length cy, .slice z l.taken.length cz] 33 (0, 0)) := two_blocks2 _ _ _
  go_enter Try.func9, Try.ntmps9
  go_wp2_with fail
  refine (CP _ (hP.below HB)).mono ?_
  rintro e w1 ⟨rfl, hb⟩
  replace hk := blk_keep hb hk
  replace hj := blk_keep hb hj
  replace HB := btrans HB hb
  clear hb CP
  cases ok
  · have hf := hide (show res = false by rw [← hres.out]; simp)
    replace hok := hide hok
    clear CA CB CD
    go_wp2
    go_ret
    exact ⟨ret_bool hf.out.symm, HB⟩
  obtain ⟨⟨z0, z1, z2⟩, -⟩ := blk3 hk
  obtain ⟨⟨z3, z4, z5⟩, -⟩ := blk3 hj
  replace hok := hide hok
  by_cases h1 : l.pos.length = p.under.length
  rotate_left
  · have hf := hide (show res = false by rw [← hres.out]; simp [h1])
    have q1 : ((l.pos.length : Int) == (p.under.length : Int)) = false := by simp; omega
    have q2 : (l.pos.length == p.under.length) = false := by simp [h1]
    have q3 : ((l.pos.length : Int) != (p.under.length : Int)) = true := by simp; omega
    clear CA CB CD
    go_wp2
    go_ret
    exact ⟨ret_bool hf.out.symm, HB⟩
  by_cases h2 : l.set.length = p.routes.length
  rotate_left
  · have hf := hide (show res = false by rw [← hres.out]; simp [h2])
    have q0 : ((l.pos.length : Int) != (p.under.length : Int)) = false := by simp; omega
    have q3 : ((l.set.length : Int) != (p.routes.length : Int)) = true := by simp; omega
    replace h1 := hide h1
    clear CA CB CD
    go_wp2
    go_ret
    exact ⟨ret_bool hf.out.symm, HB⟩
  by_cases h3 : (l.taken.length : Int) = p.blocks
  rotate_left
  · have hf := hide (show res = false by rw [← hres.out]; simp [h3])
    have q0 : ((l.pos.length : Int) != (p.under.length : Int)) = false := by simp; omega
    have q1 : ((l.set.length : Int) != (p.routes.length : Int)) = false := by simp; omega
    have q3 : ((l.taken.length : Int) != p.blocks) = true := by simp; omega
    replace h1 := hide h1
    replace h2 := hide h2
    clear CA CB CD
    go_wp2
    go_ret
    exact ⟨ret_bool hf.out.symm, HB⟩
  have hF : Fits p l := ⟨right_of hok.out, h1, h2, h3⟩
  replace CB := fun r w hP hy hr => CB r w hP hy hF hr
  replace CD := fun r w hP hx hr => CD r w hP hx hF hr
  have r12 := hF.ok.r12
  have hs12 : l.set.length ≤ 12 := by omega
  replace hres := hide (show (l.pos.all (fun x => inB x 0 1) && ((List.range l.set.length).drop 0).all fun r => !l.set.getD r false || (!barred p l r && laid p l r)) = res by rw [← hres.out]; simp [h1, h2, h3])
  have q0 : ((l.pos.length : Int) != (p.under.length : Int)) = false := by simp; omega
  have q1 : ((l.set.length : Int) != (p.routes.length : Int)) = false := by simp; omega
  have q3 : ((l.taken.length : Int) != p.blocks) = false := by simp; omega
  replace h1 := hide h1
  replace h2 := hide h2
  replace h3 := hide h3
  go_wp2_with fail
  refine (CA _ (hL.pos.below HB)).mono ?_
  rintro e w2 ⟨rfl, hw⟩
  subst w2
  generalize l.pos.all (fun x => inB x 0 1) = pa at *
  cases pa
  · have hf := hide (show res = false by rw [← hres.out]; rfl)
    clear CA CB CD
    go_wp2
    go_ret
    exact ⟨ret_bool hf.out.symm, HB⟩
  replace hres := hide (show (((List.range l.set.length).drop 0).all fun r => !l.set.getD r false || (!barred p l r && laid p l r)) = res by rw [← hres.out]; rfl)
  have hba := balloc w1 (.cells #[.slice a p.under.length ca, .int .i64 p.blocks, .slice b p.routes.length cb, .slice x l.pos.length cx, .slice y l.set.length cy, .slice z l.taken.length cz] 61)
  have hst : (w1.alloc (.cells #[.slice a p.under.length ca, .int .i64 p.blocks, .slice b p.routes.length cb, .slice x l.pos.length cx, .slice y l.set.length cy, .slice z l.taken.length cz] 61)).heap[w1.heap.size]? = some (.cells #[.slice a p.under.length ca, .int .i64 p.blocks, .slice b p.routes.length cb, .slice x l.pos.length cx, .slice y l.set.length cy, .slice z l.taken.length cz] 61 (0, 0)) := new1
  have HB2 := btrans HB hba
  have z4' := ble hba z4
  go_wp2
  clear z0 z1 z2 z3 z4 z5 z4' q0 q1 q3 CA
  go_loopw [47] (fun i wr => ∃ k : Nat, k ≤ l.set.length ∧ i = .int .i64 k ∧ Hid ((((List.range l.set.length).drop k).all fun r => !l.set.getD r false || (!barred p l r && laid p l r)) = res) ∧ Below w.heap.size w wr ∧ wr.heap[w1.heap.size]? = some (.cells #[.slice a p.under.length ca, .int .i64 p.blocks, .slice b p.routes.length cb, .slice x l.pos.length cx, .slice y l.set.length cy, .slice z l.taken.length cz] 61 (0, 0))) (fun i _ => l.set.length - (intOf i).toNat)
  case atStart => exact ⟨0, Nat.zero_le _, rfl, hres, HB2, hst⟩
  case round =>
    obtain ⟨k, hk', rfl, hres', hb, hs⟩ := hrel
    clear hres HB2 hst hba HB hk hj
    by_cases hlt : k < l.set.length
    · have hkr : k < p.routes.length := by have := h2.out; omega
      have hy := hL.set
      rcases hL.set with h | ⟨yb, yo, rfl, hyc⟩
      · simp [h] at hlt
      have v0 := ble hb (hyc k hlt)
      have hd := hide ((all_drop (P := fun r => !l.set.getD r false || (!barred p l r && laid p l r)) (zs := List.range l.set.length) (k := k) (by simpa using hlt)).symm.trans hres'.out)
      simp only [List.getElem_range] at hd
      have CBk := fun w1 (hb1 : Below w.heap.size w w1) => CB k w1 (hP.below hb1) (hy.below hb1) hkr
      have CDk := fun w1 (hb1 : Below w.heap.size w w1) => CD k w1 (hP.below hb1) (hL.pos.below hb1) hkr
      generalize barred p l k = ba at *
      generalize laid p l k = la at *
      generalize l.set.getD k false = v at *
      clear hres' hyc CB CD
      obtain ⟨g0, g1, g2, g3, g4, g5⟩ := blk6 hs
      cases v
      · have hf := hide (show (((List.range l.set.length).drop (k + 1)).all fun r => !l.set.getD r false || (!barred p l r && laid p l r)) = res by rw [← hd.out]; rfl)
        clear hd CBk CDk
        go_wp2
        go_roundw
        case rel => exact ⟨k + 1, by omega, by go_num, hf, hb, hs⟩
        case measure => simp [intOf]; omega
      · go_wp2_with fail
        clear g0 g1 g2 g3 g4 g5
        refine (CBk _ hb).mono ?_
        rintro e w3 ⟨rfl, hb3⟩
        replace hs := blk_keep hb3 hs
        replace hb := btrans hb hb3
        clear hb3 v0 CBk
        cases ba
        · obtain ⟨g0, g1, g2, g3, g4, g5⟩ := blk6 hs
          go_wp2_with fail
          clear g0 g1 g2 g3 g4 g5
          refine (CDk _ hb).mono ?_
          rintro e w4 ⟨rfl, hb3⟩
          replace hs := blk_keep hb3 hs
          replace hb := btrans hb hb3
          clear hb3 CDk
          cases la
          · have hf := hide (show res = false by rw [← hd.out]; rfl)
            clear hd
            go_wp2
            go_ret
            exact ⟨ret_bool hf.out.symm, hb⟩
          · have hf := hide (show (((List.range l.set.length).drop (k + 1)).all fun r => !l.set.getD r false || (!barred p l r && laid p l r)) = res by rw [← hd.out]; rfl)
            clear hd
            go_wp2
            go_roundw
            case rel => exact ⟨k + 1, by omega, by go_num, hf, hb, hs⟩
            case measure => simp [intOf]; omega
        · have hf := hide (show res = false by rw [← hd.out]; rfl)
          clear hd CDk
          go_wp2
          go_ret
          exact ⟨ret_bool hf.out.symm, hb⟩
    · obtain rfl : k = l.set.length := by omega
      have hf := hide (show res = true by rw [← hres'.out, List.drop_of_length_le (by simp)]; rfl)
      clear CB CD
      go_wp2
      go_ret
      exact ⟨ret_bool hf.out.symm, hb⟩
end Go.Proofs.Ytpgjllefhlanpaa
