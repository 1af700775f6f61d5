/- The model's routes that stand against each other. -/
import Derived.Test.YtpgjllefhlanpaaSP
import Derived.Test.YtpgjllefhlanpaaCL
namespace Go.Proofs.Ytpgjllefhlanpaa
open Go.RowKit

set_option maxHeartbeats 3200000 in
theorem cAgainst (a1 b1 a2 b2 : Option Addr) (p1 q1 p2 q2 : Nat) (r s : RouteV) (w : World) (n1 : Needs w a1 r.needs) (i1 : Ints w b1 r.blocks) (n2 : Needs w a2 s.needs) (i2 : Ints w b2 s.blocks) (hr : RSmall r) (hs : RSmall s) :
    Calls Try.prog 55 #[routeVal a1 p1 b1 q1 r, routeVal a2 p2 b2 q2 s] w fun e w' => e = .returned (.bool (clash r s)) ∧ Below w.heap.size w w' := by
  generalize hres : clash r s = res
  obtain ⟨es, bs⟩ := r
  obtain ⟨fs, cs⟩ := s
  have hr0 : Hid (((bs.drop 0).any (fun x => decide (x ∈ cs)) || apart ⟨es, bs⟩ ⟨fs, cs⟩) = res) := hres
  clear hres
  obtain ⟨l1, l2⟩ := hr
  obtain ⟨l3, l4⟩ := hs
  unfold routeVal
  dsimp only at *
  have hb0 := btrans (balloc w (.cells #[.slice a1 es.length p1, .slice b1 bs.length q1] 48)) (balloc _ (.cells #[.slice a2 fs.length p2, .slice b2 cs.length q2] 48))
  have k0 : ((w.alloc (.cells #[.slice a1 es.length p1, .slice b1 bs.length q1] 48)).alloc (.cells #[.slice a2 fs.length p2, .slice b2 cs.length q2] 48)).heap[w.heap.size]? = some (.cells #[.slice a1 es.length p1, .slice b1 bs.length q1] 48 (0, 0)) := two_blocks1 _ _ _
  have j0 : ((w.alloc (.cells #[.slice a1 es.length p1, .slice b1 bs.length q1] 48)).alloc (.cells #[.slice a2 fs.length p2, .slice b2 cs.length q2] 48)).heap[w.heap.size + 1]? = some (.cells #[.slice a2 fs.length p2, .slice b2 cs.length q2] 48 (0, 0)) := two_blocks2 _ _ _
  go_enter Try.func55, Try.ntmps55
  go_wp2
  go_loopw [5] (fun i wr => ∃ k : Nat, k ≤ bs.length ∧ i = .int .i64 k ∧ Hid (((bs.drop k).any (fun x => decide (x ∈ cs)) || apart ⟨es, bs⟩ ⟨fs, cs⟩) = res) ∧ Below w.heap.size w wr ∧ wr.heap[w.heap.size]? = some (.cells #[.slice a1 es.length p1, .slice b1 bs.length q1] 48 (0, 0)) ∧ wr.heap[w.heap.size + 1]? = some (.cells #[.slice a2 fs.length p2, .slice b2 cs.length q2] 48 (0, 0))) (fun i _ => bs.length - (intOf i).toNat)
  case atStart => exact ⟨0, Nat.zero_le _, rfl, hr0, hb0, k0, j0⟩
  case round =>
    obtain ⟨k, hk, rfl, hres, hb, hk1, hj1⟩ := hrel
    clear hr0 hb0 j0 k0
    obtain ⟨⟨g0, g1⟩, -⟩ := blk2 hj1
    obtain ⟨⟨g2, g3⟩, -⟩ := blk2 hk1
    by_cases hlt : k < bs.length
    · rcases i1 with h | ⟨nb, off, rfl, hc⟩
      · simp [h] at hlt
      have q0 := ble hb (hc k hlt)
      have e0 : bs.getD k 0 = bs[k] := by simp [List.getD, hlt]
      rw [e0] at q0
      have hd := hide (any_drop (P := fun x => decide (x ∈ cs)) hlt)
      have hI := i2.below hb
      generalize bs[k] = y at *
      clear hc e0 n1 n2
      cases hy : decide (y ∈ cs)
      · have hf := hide (show ((bs.drop (k + 1)).any (fun x => decide (x ∈ cs)) || apart ⟨es, bs⟩ ⟨fs, cs⟩) = res by rw [← hres.out, hd.out, hy]; rfl)
        replace hy := hide hy
        clear hd hres
        go_wp2
        go_quiet ((go_at_call 40; with_reducible exact Calls.quiet_of_same (cHasV hy.out rfl (hI.below (bdraw (Below.refl _ _) _)) l4)))
        go_wp2
        go_roundw
        case rel => exact ⟨k + 1, by omega, by go_num, hf, bdraw hb _, hk1, hj1⟩
        case measure => simp [intOf]; omega
      · have hf := hide (show res = true by rw [← hres.out, hd.out, hy]; rfl)
        replace hy := hide hy
        clear hd hres
        go_wp2
        go_quiet ((go_at_call 40; with_reducible exact Calls.quiet_of_same (cHasV hy.out rfl (hI.below (bdraw (Below.refl _ _) _)) l4)))
        go_wp2
        go_ret
        exact ⟨ret_bool hf.out.symm, bdraw hb _⟩
    · obtain rfl : k = bs.length := by omega
      have hr2 := hide (show (es.drop 0).any (fun n => fs.any fun m => decide (n.point = m.point) && !decide (n.pos = m.pos)) = res by rw [← hres.out, List.drop_length]; rfl)
      clear hres i1 i2
      go_wp2
      clear g0 g1 g2 g3
      obtain ⟨wo, hwo⟩ : ∃ wo, wo = wr := ⟨wr, rfl⟩
      rw [← hwo] at hb hk1 hj1
      rw [← hwo]
      clear hwo
      go_loopw [6, 7] (fun i _ wr => ∃ k : Nat, k ≤ es.length ∧ i = .int .i64 k ∧ Hid ((es.drop k).any (fun n => fs.any fun m => decide (n.point = m.point) && !decide (n.pos = m.pos)) = res) ∧ Below w.heap.size w wr ∧ wr.heap[w.heap.size]? = some (.cells #[.slice a1 es.length p1, .slice b1 bs.length q1] 48 (0, 0)) ∧ wr.heap[w.heap.size + 1]? = some (.cells #[.slice a2 fs.length p2, .slice b2 cs.length q2] 48 (0, 0))) (fun i _ _ => es.length - (intOf i).toNat)
      case atStart => exact ⟨0, Nat.zero_le _, rfl, hr2, hb, hk1, hj1⟩
      case round =>
        obtain ⟨k, hk, rfl, hres, hb2, hk2, hj2⟩ := hrel
        clear hr2 hb hk1 hj1
        obtain ⟨⟨g0, g1⟩, -⟩ := blk2 hj2
        obtain ⟨⟨g2, g3⟩, -⟩ := blk2 hk2
        by_cases hlt : k < es.length
        · rcases n1 with h | ⟨nb, off, rfl, hc⟩
          · simp [h] at hlt
          obtain ⟨v0, v1⟩ := hc k hlt
          have e0 : es.getD k NeedV.zero = es[k] := by simp [List.getD, hlt]
          rw [e0] at v0 v1
          have hd := hide (any_drop (P := fun n : NeedV => fs.any fun m => decide (n.point = m.point) && !decide (n.pos = m.pos)) hlt)
          generalize es[k] = E at *
          obtain ⟨pt, ps⟩ := E
          dsimp only at *
          have hr3 := hide (show ((fs.drop 0).any (fun m => decide (pt = m.point) && !decide (ps = m.pos)) || (es.drop (k + 1)).any (fun n => fs.any fun m => decide (n.point = m.point) && !decide (n.pos = m.pos))) = res by rw [← hres.out, hd.out]; rfl)
          clear hd hres hc e0
          go_wp2
          clear g0 g1 g2 g3
          obtain ⟨wi, hwi⟩ : ∃ wi, wi = wr := ⟨wr, rfl⟩
          rw [← hwi] at hb2 hk2 hj2
          rw [← hwi]
          clear hwi
          go_loopw [7] (fun i wr => ∃ m : Nat, m ≤ fs.length ∧ i = .int .i64 m ∧ Hid (((fs.drop m).any (fun m => decide (pt = m.point) && !decide (ps = m.pos)) || (es.drop (k + 1)).any (fun n => fs.any fun m => decide (n.point = m.point) && !decide (n.pos = m.pos))) = res) ∧ Below w.heap.size w wr ∧ wr.heap[w.heap.size]? = some (.cells #[.slice (some ⟨nb, off, none⟩) es.length p1, .slice b1 bs.length q1] 48 (0, 0)) ∧ wr.heap[w.heap.size + 1]? = some (.cells #[.slice a2 fs.length p2, .slice b2 cs.length q2] 48 (0, 0))) (fun i _ => fs.length - (intOf i).toNat)
          case atStart => exact ⟨0, Nat.zero_le _, rfl, hr3, hb2, hk2, hj2⟩
          case round =>
            obtain ⟨m, hm, rfl, hres, hb3, hk3, hj3⟩ := hrel
            clear hr3 hb2 hk2 hj2
            obtain ⟨⟨g0, g1⟩, -⟩ := blk2 hj3
            obtain ⟨⟨g2, g3⟩, -⟩ := blk2 hk3
            by_cases hlm : m < fs.length
            · rcases n2 with h | ⟨mb, mo, rfl, hc⟩
              · simp [h] at hlm
              obtain ⟨r0, r1⟩ := hc m hlm
              have e0 : fs.getD m NeedV.zero = fs[m] := by simp [List.getD, hlm]
              rw [e0] at r0 r1
              have hd := hide (any_drop (P := fun m : NeedV => decide (pt = m.point) && !decide (ps = m.pos)) hlm)
              generalize fs[m] = E at *
              obtain ⟨qt, qs⟩ := E
              dsimp only at *
              replace r0 := ble hb3 r0
              replace r1 := ble hb3 r1
              have z0 := ble hb3 v0
              have z1 := ble hb3 v1
              clear hc e0
              by_cases h1 : pt = qt
              · subst h1
                by_cases h2 : ps = qs
                · subst h2
                  have hf := hide (show ((fs.drop (m + 1)).any (fun m => decide (pt = m.point) && !decide (ps = m.pos)) || (es.drop (k + 1)).any (fun n => fs.any fun m => decide (n.point = m.point) && !decide (n.pos = m.pos))) = res by rw [← hres.out, hd.out]; simp)
                  clear hd hres
                  go_wp2
                  go_quiet (fail)
                  go_wp2
                  go_roundw
                  case rel => exact ⟨m + 1, by omega, by go_num, hf, bdraw hb3 _, hk3, hj3⟩
                  case measure => simp [intOf]; omega
                · have hf := hide (show res = true by rw [← hres.out, hd.out]; simp [h2])
                  have h2' : (ps == qs) = false := by simp [h2]
                  clear hd hres
                  go_wp2
                  go_quiet (fail)
                  go_wp2
                  go_ret
                  exact ⟨ret_bool hf.out.symm, bdraw hb3 _⟩
              · have hf := hide (show ((fs.drop (m + 1)).any (fun m => decide (pt = m.point) && !decide (ps = m.pos)) || (es.drop (k + 1)).any (fun n => fs.any fun m => decide (n.point = m.point) && !decide (n.pos = m.pos))) = res by rw [← hres.out, hd.out]; simp [h1])
                have h1' : (pt == qt) = false := by simp [h1]
                clear hd hres
                go_wp2
                go_quiet (fail)
                go_wp2
                go_roundw
                case rel => exact ⟨m + 1, by omega, by go_num, hf, bdraw hb3 _, hk3, hj3⟩
                case measure => simp [intOf]; omega
            · obtain rfl : m = fs.length := by omega
              have hf := hide (show (es.drop (k + 1)).any (fun n => fs.any fun m => decide (n.point = m.point) && !decide (n.pos = m.pos)) = res by rw [← hres.out, List.drop_length]; rfl)
              clear hres n2
              go_wp2
              go_roundw
              case rel => exact ⟨k + 1, by omega, by go_num, hf, hb3, hk3, hj3⟩
              case measure => simp [intOf]; omega
        · obtain rfl : k = es.length := by omega
          have hf := hide (show res = false by rw [← hres.out, List.drop_length]; rfl)
          clear n1 n2
          go_wp2
          go_ret
          exact ⟨ret_bool hf.out.symm, hb2⟩
end Go.Proofs.Ytpgjllefhlanpaa
