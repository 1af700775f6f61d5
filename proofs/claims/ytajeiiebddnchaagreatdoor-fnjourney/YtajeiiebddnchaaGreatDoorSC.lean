/- When one is ready, which calls are wanted, and the departures that are. -/
import Derived.Test.YtajeiiebddnchaaGreatDoorSB
namespace Go.Proofs.YtajeiiebddnchaaGreatDoor
open Go.RowKit Go.Maps

set_option maxHeartbeats 800000 in
theorem cReady (bs bm B : Nat) (lv v : Value) (ch : Int) (bks : List Nat) (R : List Rec) (D : DataW Unit) (j : Nat) (w : World) (hS : Stt w bs bm B lv ch v bks R D) (hj : j < R.length)
    (hm0 : 0 ≤ (R.getD j Rec.zero).m) (hm1 : (R.getD j Rec.zero).m ≤ 1000000) (hc0 : 0 ≤ ch) (hc1 : ch ≤ 60) :
    Calls Tryz.prog 66 #[.pointer (some ⟨bs, 0, none⟩), .pointer (some ⟨bks.getD j 0, 0, none⟩)] w fun e w' => e = .returned (.int .i64 (rdyF ch j (R.getD j Rec.zero))) ∧ Below w.heap.size w w' := by
  have hg := hS.st j hj
  obtain ⟨-, -, -, -, y4, y5⟩ := six_cells (by unfold recCells at hg; exact hg)
  have x1 := cell_of_blk (i := 1) hS.blk rfl
  unfold rdyF
  by_cases e : j = 0
  · rw [if_pos e] at y5 ⊢
    clear hS hg
    generalize bks.getD j 0 = g at *
    generalize (R.getD j Rec.zero).m = m at *
    go_enter Tryz.func66, Tryz.ntmps66
    go_wp2
    go_ret
    exact ⟨rfl, Below.refl _ _⟩
  · rw [if_neg e] at y5 ⊢
    clear hS hg
    generalize bks.getD j 0 = g at *
    generalize bks.getD (R.getD j Rec.zero).par 0 = g2 at *
    generalize (R.getD j Rec.zero).m = m at *
    have hw : IntKind.i64.wrap (m + ch) = m + ch := wrap_in _ (by omega) (by omega)
    go_enter Tryz.func66, Tryz.ntmps66
    go_wp2_with fail
    go_quiet (fail)
    go_wp2
    go_ret
    exact ⟨rfl, bdraw (Below.refl _ _) _⟩

set_option maxHeartbeats 800000 in
theorem cWanted (bn br : Nat) (n r : Int) (c : HaltV) (w : World) (h1 : w.cell? ⟨bn, 0, none⟩ = some (.int .i64 n)) (h2 : w.cell? ⟨br, 0, none⟩ = some (.int .i64 r)) :
    Calls Tryz.prog 68 #[c.val, .pointer (some ⟨bn, 0, none⟩), .pointer (some ⟨br, 0, none⟩)] w fun e w' => e = .returned (.bool (wantB n r c)) ∧ Below w.heap.size w w' := by
  obtain ⟨cn, ca, cd⟩ := c
  unfold HaltV.val
  have hb := balloc w (.cells #[.int .i64 cn, .int .i64 ca, .int .i64 cd] 33)
  have hl1 := cell_lt h1
  have hl2 := cell_lt h2
  by_cases e : cn = n
  · by_cases e2 : r ≤ cd
    · have hF : wantB n r ⟨cn, ca, cd⟩ = true := by simp [wantB, e, e2]
      rw [hF]
      subst e
      clear hF
      go_enter Tryz.func68, Tryz.ntmps68
      go_wp2
      go_ret
      exact ⟨by first | rfl | simp, hb⟩
    · have hF : wantB n r ⟨cn, ca, cd⟩ = false := by simp [wantB, e2]
      rw [hF]
      subst e
      clear hF
      go_enter Tryz.func68, Tryz.ntmps68
      go_wp2
      go_ret
      exact ⟨by first | rfl | simp | (simp; omega), hb⟩
  · have hF : wantB n r ⟨cn, ca, cd⟩ = false := by simp [wantB, e]
    rw [hF]
    clear hF
    go_enter Tryz.func68, Tryz.ntmps68
    go_wp2
    go_ret
    exact ⟨by first | rfl | simp, hb⟩

def depsI (ts : List TripV) (wn : HaltV → Bool) (i : Nat) : List (Nat × Nat) := (List.range i).flatMap fun i => ((List.range (ncA ts i - 1)).filter fun k => wn (hcA ts i k)).map fun k => (i, k)
def depsK (ts : List TripV) (wn : HaltV → Bool) (i k : Nat) : List (Nat × Nat) := depsI ts wn i ++ ((List.range k).filter fun k => wn (hcA ts i k)).map fun k => (i, k)
theorem depsK_zero (ts : List TripV) (wn : HaltV → Bool) (i : Nat) : depsK ts wn i 0 = depsI ts wn i := by simp [depsK]
theorem depsK_yes {ts : List TripV} {wn : HaltV → Bool} {i k : Nat} (h : wn (hcA ts i k) = true) : depsK ts wn i (k + 1) = depsK ts wn i k ++ [(i, k)] := by
  unfold depsK
  rw [List.range_succ, List.filter_append, List.map_append, List.append_assoc]
  simp [h]
theorem depsK_no {ts : List TripV} {wn : HaltV → Bool} {i k : Nat} (h : wn (hcA ts i k) = false) : depsK ts wn i (k + 1) = depsK ts wn i k := by
  unfold depsK
  rw [List.range_succ, List.filter_append, List.map_append]
  simp [h]
theorem depsI_succ (ts : List TripV) (wn : HaltV → Bool) (i : Nat) : depsI ts wn (i + 1) = depsK ts wn i (ncA ts i - 1) := by
  unfold depsI depsK depsI
  rw [List.range_succ, List.flatMap_append]
  simp
def depCells (b off : Nat) (d : Nat × Nat) : List Value := [.pointer (some ⟨b, off + d.1 * 2, none⟩), .int .i64 d.1, .int .i64 d.2]
def flatD (b off : Nat) (ds : List (Nat × Nat)) : List Value := ds.flatMap (depCells b off)
theorem flatD_app (b off : Nat) (xs ys : List (Nat × Nat)) : flatD b off (xs ++ ys) = flatD b off xs ++ flatD b off ys := by simp [flatD]
theorem flatD_len (b off : Nat) (ds : List (Nat × Nat)) : (flatD b off ds).length = ds.length * 3 := by
  induction ds with
  | nil => rfl
  | cons d ds ih =>
    have e : flatD b off (d :: ds) = depCells b off d ++ flatD b off ds := rfl
    rw [e, List.length_append, ih]
    simp [depCells]; omega
theorem infoDep : (Tryz.prog.info? 115).map (fun i => (i.zero, i.size, i.bytes)) = some (some (.agg #[.pointer none, .int .i64 0, .int .i64 0]), 3, 24) := by kernel_rfl
theorem row_eq {w : World} {B b off : Nat} {v : Value} {ds ds' : List (Nat × Nat)} (h : w.ownsRow B 115 3 v ds.length (flatD b off ds)) (e : ds' = ds) : w.ownsRow B 115 3 v ds'.length (flatD b off ds') := by rw [e]; exact h
theorem depCells_one (b off : Nat) (d : Nat × Nat) : ∀ u ∈ depCells b off d, u.oneCell' = true := by
  intro u hu
  simp only [depCells, List.mem_cons, List.not_mem_nil, or_false] at hu
  rcases hu with rfl | rfl | rfl <;> rfl
theorem news3 {W : World} {c0 c1 c2 : Value} {t : TypeId} : ∀ j u, [c0, c1, c2][j]? = some u → (W.alloc (.cells #[c0, c1, c2] t)).cell? ((⟨W.heap.size, 0, none⟩ : Addr).add j) = some u := by
  intro j u hj
  match j, hj with
  | 0, hj => simp at hj; subst hj; simp [Addr.add, go_sem]
  | 1, hj => simp at hj; subst hj; simp [Addr.add, go_sem]
  | 2, hj => simp at hj; subst hj; simp [Addr.add, go_sem]

set_option maxRecDepth 20000 in
set_option maxHeartbeats 3200000 in
theorem cDeps (a : Option Addr) (b off cap : Nat) (ts : List TripV) (bn br : Nat) (n r : Int) (w : World) (hz : Trips w a ts) (ha : 0 < ts.length → a = some ⟨b, off, none⟩) (hg : Gd ts) (h1 : w.cell? ⟨bn, 0, none⟩ = some (.int .i64 n)) (h2 : w.cell? ⟨br, 0, none⟩ = some (.int .i64 r)) :
    Calls Tryz.prog 67 #[.slice a ts.length cap, .func (.func 68) #[] #[.pointer (some ⟨bn, 0, none⟩), .pointer (some ⟨br, 0, none⟩)]] w fun e w' => ∃ v, e = .returned v ∧
      w'.ownsRow w.heap.size 115 3 v (depsOf ts (wantB n r)).length (flatD b off (depsOf ts (wantB n r))) ∧ (depsOf ts (wantB n r)).length ≤ 288 ∧ Below w.heap.size w w' := by
  obtain ⟨i0, hi, hz0, hz1, hz2⟩ := info_parts infoDep
  have hfew := hg.few
  have hE : Hid (depsI ts (wantB n r) ts.length = depsOf ts (wantB n r)) := rfl
  go_enter Tryz.func67, Tryz.ntmps67
  go_wp2
  go_loopw [5, 12] (fun v ii wr => ∃ i : Nat, i ≤ ts.length ∧ ii = .int .i64 i ∧ wr.ownsRow w.heap.size 115 3 v (depsI ts (wantB n r) i).length (flatD b off (depsI ts (wantB n r) i)) ∧ (depsI ts (wantB n r) i).length ≤ i * 12 ∧ Below w.heap.size w wr) (fun _ ii _ => ts.length - (intOf ii).toNat)
  case atStart => exact ⟨0, Nat.zero_le _, rfl, by simpa [depsI, flatD] using World.ownsRow_nil w w.heap.size _ 3, by simp [depsI], Below.refl _ _⟩
  case round =>
    obtain ⟨i, hil, rfl, ho, hlen, hb⟩ := hrel
    obtain ⟨va, vc, rfl⟩ := own_form ho
    by_cases hlt : i < ts.length
    · have hlt' : (i : Int) < (ts.length : Int) := by omega
      obtain ⟨b', off', na, cn, hA, -, c2, hcn, hHl⟩ := hz.at hlt
      rw [ha (by omega)] at hA
      simp only [Option.some.injEq, Addr.mk.injEq, and_true] at hA
      obtain ⟨rfl, rfl⟩ := hA
      obtain rfl := ha (by omega)
      have c2' : wr.cell? ⟨b, off + i * 2 + 1, none⟩ = some (.slice na (ncA ts i) cn) := ble hb c2
      have hcn' : ncA ts i ≤ cn := hcn
      obtain ⟨hn2, hn12⟩ := hg.len i hlt
      have hi0 : (0 : Int) ≤ (i : Int) := Int.natCast_nonneg _
      have hw1 : IntKind.i64.wrap ((ncA ts i : Int) - 1) = ((ncA ts i - 1 : Nat) : Int) := by rw [wrap_in _ (by omega) (by omega)]; omega
      have hk0 : (0 : Int) ≤ ((ncA ts i - 1 : Nat) : Int) := by omega
      have hk1 : ((ncA ts i - 1 : Nat) : Int) ≤ (cn : Int) := by omega
      have hk2 : ncA ts i - 1 ≤ cn := by omega
      have hK0 : Hid (depsK ts (wantB n r) i 0 = depsI ts (wantB n r) i) := hide (depsK_zero _ _ _)
      have hK1 : Hid (depsI ts (wantB n r) (i + 1) = depsK ts (wantB n r) i (ncA ts i - 1)) := hide (depsI_succ _ _ _)
      have hlen0 : Hid ((depsK ts (wantB n r) i 0).length ≤ i * 12 + 0) := hide (by rw [hK0.out]; omega)
      clear hcn c2
      rcases hHl with hH | ⟨bc, oc, rfl, hcs⟩
      · exfalso; unfold ncA at hn2; rw [hH] at hn2; simp at hn2
      have hHl : Halts w (some ⟨bc, oc, none⟩) (ts.getD i TripV.zero).calls := .inr ⟨bc, oc, rfl, hcs⟩
      clear hcs
      go_wp2_with fail
      go_quiet (fail)
      go_wp2
      clear c2'
      go_loopw [5, 30] (fun v kk wr => ∃ k : Nat, k ≤ ncA ts i - 1 ∧ kk = .int .i64 k ∧ wr.ownsRow w.heap.size 115 3 v (depsK ts (wantB n r) i k).length (flatD b off (depsK ts (wantB n r) i k)) ∧ (depsK ts (wantB n r) i k).length ≤ i * 12 + k ∧ Below w.heap.size w wr) (fun _ kk _ => (ncA ts i - 1) - (intOf kk).toNat)
      case atStart => exact ⟨0, Nat.zero_le _, rfl, row_eq (own_keep ho (bdraw (Below.refl _ _) _)) hK0.out, hlen0.out, bdraw hb _⟩
      case round =>
        clear ho hlen hb hlen0 hK0
        obtain ⟨k, hkl, rfl, ho, hlen, hb⟩ := hrel
        obtain ⟨va, vc, rfl⟩ := own_form ho
        by_cases hklt : k < ncA ts i - 1
        · have hklt' : (k : Int) < ((ncA ts i - 1 : Nat) : Int) := by omega
          have hk00 : (0 : Int) ≤ (k : Int) := Int.natCast_nonneg _
          obtain ⟨b2, off2, hE2, q0, q1, q2⟩ := call_cells (hHl.below hb) (k := k) (by omega)
          simp only [Option.some.injEq, Addr.mk.injEq, and_true] at hE2
          obtain ⟨rfl, rfl⟩ := hE2
          have hbc := cell_lt q0
          have CW := fun w' (hw : Below wr.heap.size wr w') => cWanted bn br n r (hcA ts i k) w' (ble hw (ble hb h1)) (ble hw (ble hb h2))
          have hY : Hid (wantB n r (hcA ts i k) = true → depsK ts (wantB n r) i (k + 1) = depsK ts (wantB n r) i k ++ [(i, k)]) := hide depsK_yes
          have hN : Hid (wantB n r (hcA ts i k) = false → depsK ts (wantB n r) i (k + 1) = depsK ts (wantB n r) i k) := hide depsK_no
          generalize hcA ts i k = c at *
          obtain ⟨c0, c1, c2⟩ := c
          unfold HaltV.val at CW
          dsimp only at *
          have hba := balloc wr (.cells #[.int .i64 c0, .int .i64 c1, .int .i64 c2] 33)
          go_wp2_with fail
          refine (CW _ hba).mono ?_
          rintro e w1 ⟨rfl, hb1⟩
          have HB := btrans hb (btrans hba hb1)
          have O1 := own_keep ho (btrans hba hb1)
          clear q0 q1 q2 hba CW ho hb hb1
          cases hw : wantB n r ⟨c0, c1, c2⟩
          · have hD := hN.out hw
            have O2 := row_eq O1 hD
            clear O1
            have hlen2 : (depsK ts (wantB n r) i (k + 1)).length ≤ i * 12 + (k + 1) := by rw [hD]; omega
            replace hlen2 := hide hlen2
            clear hD hY hN hw
            go_wp2
            go_roundw
            case rel => exact ⟨k + 1, by omega, by go_num, O2, hlen2.out, HB⟩
            case measure => simp [intOf]; omega
          · have hD := hide (hY.out hw)
            have hsz := HB.size
            clear hY hN hw
            go_wp2_with (at_builtin; refine wpList_append_own _ rfl _ _ 110 rfl w.heap.size 115 i0 _ 3 24 Tryz.underlying110 hi hz0 hz1 hz2 rfl (by decide) _ _ _ rfl (O1.alloc _) ⟨w1.heap.size, 0, none⟩ 1 1 (depCells b off (i, k)) rfl rfl ?c1 ?c2 ?c3 ?c4 ?c5 ?_)
            case c1 => exact news3
            case c2 => exact depCells_one _ _ _
            case c3 => unfold maxLen; omega
            case c4 => omega
            case c5 => simp; omega
            intro v5 w5 hown5 hgrow5 _
            have hfrom := own_from O1 (Nat.le_refl _)
            have HB5 : Below w.heap.size w w5 := (HB.alloc hsz _).grown hgrow5 (by simp; omega) (fun j e => by have := hfrom j e; omega)
            have O5 : w5.ownsRow w.heap.size 115 3 v5 (depsK ts (wantB n r) i (k + 1)).length (flatD b off (depsK ts (wantB n r) i (k + 1))) := by
              rw [hD.out, flatD_app, List.length_append]
              have e1 : flatD b off [(i, k)] = depCells b off (i, k) := by simp [flatD]
              rw [e1]
              exact hown5
            have hlen2 : (depsK ts (wantB n r) i (k + 1)).length ≤ i * 12 + (k + 1) := by rw [hD.out, List.length_append]; simp; omega
            replace hlen2 := hide hlen2
            clear hD O1 hown5 hgrow5 HB hfrom
            go_wp2
            go_roundw
            case rel => exact ⟨k + 1, by omega, by go_num, O5, hlen2.out, HB5⟩
            case measure => simp [intOf]; omega
        · have hklt' : ¬ (k : Int) < ((ncA ts i - 1 : Nat) : Int) := by omega
          have hkk : k = ncA ts i - 1 := by omega
          have hd : depsI ts (wantB n r) (i + 1) = depsK ts (wantB n r) i k := by rw [hkk]; exact hK1.out
          have ho2 := row_eq ho hd
          have hlen2 : Hid ((depsI ts (wantB n r) (i + 1)).length ≤ (i + 1) * 12) := hide (by rw [hd]; omega)
          clear hkk hlen hd ho
          go_wp2
          go_roundw
          case rel => exact ⟨i + 1, by omega, by go_num, ho2, hlen2.out, hb⟩
          case measure => simp [intOf]; omega
    · have hlt' : ¬ (i : Int) < (ts.length : Int) := by omega
      obtain rfl : i = ts.length := by omega
      rw [hE.out] at ho hlen
      have hlen2 : Hid ((depsOf ts (wantB n r)).length ≤ 288) := hide (by omega)
      clear hE hlen
      go_wp2
      go_ret
      exact ⟨_, rfl, ho, hlen2.out, hb⟩
end Go.Proofs.YtajeiiebddnchaaGreatDoor
