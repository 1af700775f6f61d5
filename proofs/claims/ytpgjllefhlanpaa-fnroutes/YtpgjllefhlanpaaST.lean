/- The program's station: what is laid, held, stuck. -/
import Derived.Test.YtpgjllefhlanpaaCL
namespace Go.Proofs.Ytpgjllefhlanpaa
open Go.RowKit
def stVal (a : Option Addr) (ca : Nat) (b : Option Addr) (cb : Nat) (p : PlantV) (x : Option Addr) (cx : Nat) (y : Option Addr) (cy : Nat) (z : Option Addr) (cz : Nat) (l : LockV) : Value :=
  .agg #[.slice a p.under.length ca, .int .i64 p.blocks, .slice b p.routes.length cb, .slice x l.pos.length cx, .slice y l.set.length cy, .slice z l.taken.length cz]
theorem blk6 {w : World} {g : Nat} {c0 c1 c2 c3 c4 c5 : Value} {t : TypeId} (h : w.heap[g]? = some (.cells #[c0, c1, c2, c3, c4, c5] t (0, 0))) :
    w.cell? ⟨g, 0, none⟩ = some c0 ∧ w.cell? ⟨g, 1, none⟩ = some c1 ∧ w.cell? ⟨g, 2, none⟩ = some c2 ∧ w.cell? ⟨g, 3, none⟩ = some c3 ∧ w.cell? ⟨g, 4, none⟩ = some c4 ∧ w.cell? ⟨g, 5, none⟩ = some c5 :=
  ⟨Go.Joins.cell_of_block h 0, Go.Joins.cell_of_block h 1, Go.Joins.cell_of_block h 2, Go.Joins.cell_of_block h 3, Go.Joins.cell_of_block h 4, Go.Joins.cell_of_block h 5⟩
theorem new1 {w : World} {o : Obj} : (w.alloc o).heap[w.heap.size]? = some o := by
  show (w.heap.push _)[w.heap.size]? = _
  simp
theorem all_drop {α : Type} {P : α → Bool} {zs : List α} {k : Nat} (hk : k < zs.length) : (zs.drop k).all P = (P zs[k] && (zs.drop (k + 1)).all P) := by
  rw [List.drop_eq_getElem_cons hk]; rfl
theorem getD_nat {α : Type} (l : List α) (d : α) {i : Nat} (h : i < l.length) : l.getD i d = l[i] := by simp [List.getD, h]

set_option maxHeartbeats 1600000 in
theorem cLaid (a b x y z : Option Addr) (ca cb cx cy cz : Nat) (p : PlantV) (l : LockV) (r : Nat) (w : World) (hP : PlantIn w a b p) (hx : Ints w x l.pos) (hS : Small p) (hF : Fits p l) (hr : r < p.routes.length) :
    Calls Try.prog 28 #[stVal a ca b cb p x cx y cy z cz l, .int .i64 r] w fun e w' => e = .returned (.bool (laid p l r)) ∧ Below w.heap.size w w' := by
  have hsm := hS.at hr
  have hnd : ∀ (k : Nat) (hk : k < (p.route r).needs.length), 0 ≤ (p.route r).needs[k].point ∧ (p.route r).needs[k].point < l.pos.length := fun k hk => by
    have := hF.ok.need hr (List.getElem_mem hk); rw [hF.pos]; exact ⟨this.1, this.2.1⟩
  have r12 := hF.ok.r12
  obtain ⟨g, off, n, cn, m, cm, rfl, c1, c2, -, c3, -⟩ := hP.at hr
  clear hP hS hF c2
  generalize hres : laid p l r = res
  have hr0 : Hid (((p.route r).needs.drop 0).all (fun n => decide (l.pos.getD n.point.toNat 0 = n.pos)) = res) := hres
  clear hres
  generalize (p.route r).needs = es at *
  obtain ⟨U, B, R⟩ := p
  obtain ⟨po, se, ta⟩ := l
  unfold stVal
  dsimp only at *
  have hb0 := balloc w (.cells #[.slice a U.length ca, .int .i64 B, .slice (some ⟨g, off, none⟩) R.length cb, .slice x po.length cx, .slice y se.length cy, .slice z ta.length cz] 61)
  have k0 : (w.alloc (.cells #[.slice a U.length ca, .int .i64 B, .slice (some ⟨g, off, none⟩) R.length cb, .slice x po.length cx, .slice y se.length cy, .slice z ta.length cz] 61)).heap[w.heap.size]? = some (.cells #[.slice a U.length ca, .int .i64 B, .slice (some ⟨g, off, none⟩) R.length cb, .slice x po.length cx, .slice y se.length cy, .slice z ta.length cz] 61 (0, 0)) := new1
  have d1 := ble hb0 c1
  go_enter Try.func28, Try.ntmps28
  go_wp2
  go_loopw [15] (fun i wr => ∃ k : Nat, k ≤ es.length ∧ i = .int .i64 k ∧ Hid ((es.drop k).all (fun n => decide (po.getD n.point.toNat 0 = n.pos)) = res) ∧ Below w.heap.size w wr ∧ wr.heap[w.heap.size]? = some (.cells #[.slice a U.length ca, .int .i64 B, .slice (some ⟨g, off, none⟩) R.length cb, .slice x po.length cx, .slice y se.length cy, .slice z ta.length cz] 61 (0, 0))) (fun i _ => es.length - (intOf i).toNat)
  case atStart => exact ⟨0, Nat.zero_le _, rfl, hr0, hb0, k0⟩
  case round =>
    obtain ⟨k, hk, rfl, hres, hb, hk1⟩ := hrel
    clear hr0 hb0 k0 d1 c1
    by_cases hlt : k < es.length
    · rcases c3 with h | ⟨nb, no, rfl, hc⟩
      · simp [h] at hlt
      obtain ⟨q0, q1⟩ := hc k hlt
      replace q0 := ble hb q0
      replace q1 := ble hb q1
      have e0 : es.getD k NeedV.zero = es[k] := by simp [List.getD, hlt]
      rw [e0] at q0 q1
      have hd := hide (all_drop (P := fun n : NeedV => decide (po.getD n.point.toNat 0 = n.pos)) hlt)
      have hbk := hnd k hlt
      generalize es[k] = E at *
      obtain ⟨pt, ps⟩ := E
      dsimp only at *
      obtain ⟨j, rfl⟩ := Int.eq_ofNat_of_zero_le hbk.1
      have hj : j < po.length := by omega
      rcases hx with h | ⟨xb, xo, rfl, hxc⟩
      · simp [h] at hj
      have v0 := ble hb (hxc j hj)
      have hba := balloc wr (.cells #[.int .i64 j, .int .i64 ps] 74)
      replace hk1 := blk_keep hba hk1
      replace hb := btrans hb hba
      replace v0 := ble hba v0
      obtain ⟨g0, g1, g2, g3, g4, g5⟩ := blk6 hk1
      have hd' := hide (hd.out.symm.trans hres.out)
      rw [show ((j : Int)).toNat = j from rfl] at hd'
      generalize po.getD j 0 = v at *
      clear hc e0 hba hd hres hxc hnd
      by_cases hv : v = ps
      · subst hv
        have hf := hide (show (es.drop (k + 1)).all (fun n => decide (po.getD n.point.toNat 0 = n.pos)) = res by rw [← hd'.out]; simp)
        clear hd'
        go_wp2
        go_quiet (fail)
        go_wp2
        go_roundw
        case rel => exact ⟨k + 1, by omega, by go_num, hf, bdraw hb _, hk1⟩
        case measure => simp [intOf]; omega
      · have hf := hide (show res = false by rw [← hd'.out]; simp [hv])
        have hv' : (v == ps) = false := by simp [hv]
        clear hd'
        go_wp2
        go_quiet (fail)
        go_wp2
        go_ret
        exact ⟨ret_bool hf.out.symm, bdraw hb _⟩
    · obtain rfl : k = es.length := by omega
      have hf := hide (show res = true by rw [← hres.out, List.drop_length]; rfl)
      clear hx c3
      go_wp2
      go_ret
      exact ⟨ret_bool hf.out.symm, hb⟩
end Go.Proofs.Ytpgjllefhlanpaa
