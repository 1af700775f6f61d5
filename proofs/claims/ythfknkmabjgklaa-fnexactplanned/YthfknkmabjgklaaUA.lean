/- The program's uses of a timetable. -/
import Derived.Test.YthfknkmabjgklaaCJ
import Derived.Test.YthfknkmabjgklaaZA
import Derived.Test.YthfknkmabjgklaaH
import Derived.Deep.AppendLies
namespace Go.Proofs.Ythfknkmabjgklaa
open Go.RowKit
/-- The uses as an answer: a row of its own and true; nothing and false where it isn't ridden. -/
def AnsUses (w : World) (n : Int) (es : List EdgeV) (ts : List TripV) (e : Ending) (w' : World) : Prop :=
  Below w.heap.size w w' ∧ ((Ridden n es ts ∧ ∃ v, e = .returned (.tuple #[v, .bool true]) ∧ w'.ownsRow w.heap.size 78 5 v (usesL es ts).length (flatRides (usesL es ts))) ∨
    (¬ Ridden n es ts ∧ e = .returned (.tuple #[.slice none 0 0, .bool false])))
theorem AnsUses.no {w w' : World} {n : Int} {es : List EdgeV} {ts : List TripV} (h : ¬ Ridden n es ts) (hb : Below w.heap.size w w') : AnsUses w n es ts (.returned (.tuple #[.slice none 0 0, .bool false])) w' := ⟨hb, .inr ⟨h, rfl⟩⟩
def Bx3 (w : World) (b : Nat) (c0 c1 c2 : Value) : Prop := w.cell? ⟨b, 0, none⟩ = some c0 ∧ w.cell? ⟨b, 1, none⟩ = some c1 ∧ w.cell? ⟨b, 2, none⟩ = some c2
theorem Bx3.below {w w1 : World} {b : Nat} {c0 c1 c2 : Value} (h : Bx3 w b c0 c1 c2) (hb : Below w.heap.size w w1) : Bx3 w1 b c0 c1 c2 := ⟨ble hb h.1, ble hb h.2.1, ble hb h.2.2⟩
theorem Bx3.new (w : World) (c0 c1 c2 : Value) (t : TypeId) : Bx3 (w.alloc (.cells #[c0, c1, c2] t)) w.heap.size c0 c1 c2 := ⟨by simp, by simp, by simp⟩
theorem Bx3.new1 (w : World) (o : Obj) (c0 c1 c2 : Value) (t : TypeId) : Bx3 ((w.alloc o).alloc (.cells #[c0, c1, c2] t)) (w.heap.size + 1) c0 c1 c2 := by
  have h := Bx3.new (w.alloc o) c0 c1 c2 t
  rwa [sz1] at h
/-- A block of another type than the row stands behind an append. -/
theorem blk_app {w w' : World} {base e sz n : Nat} {v : Value} {xs : List Value} (ho : w.ownsRow base e sz v n xs) (hg : w.grownBy w' v.ownBlock) {g : Nat} {cs : Array Value} {t : TypeId} {f : Nat × Nat} (h : w.heap[g]? = some (.cells cs t f)) (hne : t ≠ e) : w'.heap[g]? = some (.cells cs t f) := by
  refine (hg.block g (lt_of_block h) ?_).trans h
  intro hv
  rcases ho.2 with ⟨rfl, _⟩ | ⟨g', cap', cur, rfl, _, hh, _⟩
  · simp [Value.ownBlock] at hv
  · simp only [Value.ownBlock, Option.some.injEq] at hv
    subst hv
    rw [h] at hh
    simp only [Option.some.injEq, Obj.cells.injEq] at hh
    exact hne hh.2.1
theorem joinA_yes {es : List EdgeV} {x y : Int} (h : placeE es x y < es.length) : joinA es x y = ((placeE es x y : Int), dirE es x y) := by unfold joinA; rw [if_pos h]
theorem joinA_no {es : List EdgeV} {x y : Int} (h : ¬ placeE es x y < es.length) : joinA es x y = (-1, 0) := by unfold joinA; rw [if_neg h]
theorem flat_one_ride (x : RideV) : flatRides [x] = x.vs := by simp [flatRides]
theorem table_trip {ts : List TripV} (h : Table ts) {k : Nat} (hk : k < ts.length) : 2 ≤ (clA ts k).length ∧ (clA ts k).length ≤ 12 := by
  have := trip_parts (h.2.1 k hk)
  exact ⟨this.2.1, this.2.2.1⟩
theorem usesTo_small {es : List EdgeV} {ts : List TripV} (h : Table ts) : ∀ k, k ≤ ts.length → (usesTo es ts k).length ≤ 11 * k
  | 0, _ => by simp [usesTo]
  | k + 1, hk => by
    have h1 := usesTo_small (es := es) h k (by omega)
    have h2 := table_trip h (k := k) (by omega)
    rw [usesTo_succ, List.length_append, legsTo_len]
    omega

set_option maxRecDepth 20000 in
set_option maxHeartbeats 6400000 in
theorem cUsesOf (a : Option Addr) (cap : Nat) (n : Int) (es : List EdgeV) (ta : Option Addr) (tc : Nat) (ts : List TripV) (w : World) (he : Edges w a es) (hl : es.length ≤ 1048576) (hz : Trips w ta ts) (hS : Small ts) :
    Calls Try.prog 59 #[.agg #[.int .i64 n, .slice a es.length cap], .slice ta ts.length tc] w (AnsUses w n es ts) := by
  obtain ⟨i0, hi, hz0, hz1, hz2⟩ := info_parts infoRides
  have hW := balloc w (.cells #[.int .i64 n, .slice a es.length cap] 32)
  have X := one_block w (.cells #[.int .i64 n, .slice a es.length cap] 32)
  go_enter Try.func59, Try.ntmps59
  go_wp2_with fail
  refine (cNetI a cap n es _ (he.below hW) hl).mono ?_
  rintro e w1 ⟨rfl, hb1⟩
  have HB := btrans hW hb1
  replace X := blk_keep hb1 X
  clear hW hb1
  cases hN : netB n es
  · have hF : Hid (¬ Ridden n es ts) := hide (fun h => by rw [h.1] at hN; cases hN)
    clear hN
    go_wp2
    go_ret2
    exact AnsUses.no hF.out HB
  replace hN := hide hN
  obtain ⟨⟨x0, x1⟩, -⟩ := blk2 X
  go_wp2_with fail
  refine (cTableI ta tc ts _ (hz.below HB) hS).mono ?_
  rintro e w2 ⟨r, rfl, hr, hb2⟩
  replace HB := btrans HB hb2
  replace X := blk_keep hb2 X
  clear hb2 x0 x1
  cases r
  · have hF : Hid (¬ Ridden n es ts) := hide (fun h => by have := hr.2 h.2.1; cases this)
    clear hr hN
    go_wp2
    go_ret2
    exact AnsUses.no hF.out HB
  have hT := hide (hr.1 rfl)
  have hT24 : ts.length ≤ 24 := hT.out.1
  clear hr
  go_wp2
  go_loopw [6, 24] (fun v i wr => ∃ k : Nat, k ≤ ts.length ∧ i = .int .i64 k ∧ wr.ownsRow w.heap.size 78 5 v (usesTo es ts k).length (flatRides (usesTo es ts k)) ∧ Hid (∀ i, i < k → Rode es (clA ts i) ((clA ts i).length - 1)) ∧ Below w.heap.size w wr ∧ wr.heap[w.heap.size]? = some (.cells #[.int .i64 n, .slice a es.length cap] 32)) (fun _ i _ => ts.length - (intOf i).toNat)
  case atStart => exact ⟨0, Nat.zero_le _, rfl, World.ownsRow_nil _ _ _ _, hide (fun i h => by omega), HB, X⟩
  case round =>
    obtain ⟨k, hk, rfl, ho, hR, hb, X⟩ := hrel
    clear HB
    by_cases hlt : k < ts.length
    · have hlt' : (k : Int) < (ts.length : Int) := by omega
      obtain ⟨wo, rfl⟩ : ∃ wo, wo = wr := ⟨wr, rfl⟩
      obtain ⟨tb, toff, na, nc, rfl, c1, c2, hcap, c3⟩ := hz.at hlt
      replace c1 := ble hb c1
      replace c2 := ble hb c2
      have hCl := table_trip hT.out hlt
      have hU := hide (usesTo_succ es ts k)
      have hUl := usesTo_small (es := es) hT.out k hk
      have hD : Hid (∀ i, i < k + 1 → Rode es (clA ts i) ((clA ts i).length - 1)) ∨ True := .inr trivial
      have hNo : Hid (∀ j, j < (clA ts k).length - 1 → ¬ placeE es ((clA ts k).getD j HaltV.zero).n ((clA ts k).getD (j + 1) HaltV.zero).n < es.length → ¬ Ridden n es ts) := hide (fun j hj h1 h2 => h1 (h2.2.2 k hlt j hj))
      change wo.cell? _ = some (.slice na (clA ts k).length nc) at c2
      change (clA ts k).length ≤ nc at hcap
      change Halts w na (clA ts k) at c3
      have hcs : Hid (clA ts k = clA ts k) := rfl
      generalize hcl : clA ts k = cs at *
      replace hcl := hide hcl
      generalize (ts.getD k TripV.zero).name = s at *
      generalize hus : usesTo es ts k = us at *
      replace hus := hide hus
      obtain ⟨l1, l2⟩ := hCl
      clear hD hcs
      rcases c3 with h | ⟨b, off, rfl, hc⟩
      · simp [h] at l1
      have T0 := one_block wo (.cells #[.string s, .slice (some ⟨b, off, none⟩) cs.length nc] 63)
      have hbT := btrans hb (balloc wo (.cells #[.string s, .slice (some ⟨b, off, none⟩) cs.length nc] 63))
      have XT := blk_keep (balloc wo (.cells #[.string s, .slice (some ⟨b, off, none⟩) cs.length nc] 63)) X
      have oT := own_keep ho (balloc wo (.cells #[.string s, .slice (some ⟨b, off, none⟩) cs.length nc] 63))
      have k1 : (0 : Int) ≤ 1 := by omega
      have k2 : (1 : Int) ≤ (cs.length : Int) := by omega
      have k3 : (cs.length : Int) ≤ (nc : Int) := by omega
      have k4 : nc ≠ 1 := by omega
      have hcT : Hid (∀ i, i < cs.length → w.cell? ⟨b, off + i * 3, none⟩ = some (.int .i64 (cs.getD i HaltV.zero).n) ∧ w.cell? ⟨b, off + i * 3 + 1, none⟩ = some (.int .i64 (cs.getD i HaltV.zero).a) ∧ w.cell? ⟨b, off + i * 3 + 2, none⟩ = some (.int .i64 (cs.getD i HaltV.zero).d)) := hide hc
      clear hc
      go_wp2
      generalize wo.alloc (.cells #[.string s, .slice (some ⟨b, off, none⟩) cs.length nc] 63) = wT at *
      go_loopw [6, 33] (fun v i wr => ∃ j : Nat, j + 1 ≤ cs.length ∧ i = .int .i64 j ∧ wr.ownsRow w.heap.size 78 5 v (us ++ legsTo es k cs j).length (flatRides (us ++ legsTo es k cs j)) ∧ Hid (Rode es cs j) ∧ Below w.heap.size w wr ∧ wr.heap[w.heap.size]? = some (.cells #[.int .i64 n, .slice a es.length cap] 32) ∧ wr.heap[wo.heap.size]? = some (.cells #[.string s, .slice (some ⟨b, off, none⟩) cs.length nc] 63)) (fun _ i _ => cs.length - (intOf i).toNat)
      case atStart => exact ⟨0, by omega, rfl, by simpa [legsTo] using oT, hide (fun j h => by omega), hbT, XT, T0⟩
      case round =>
        obtain ⟨j, hj, rfl, ho, hQ, hb, X, T⟩ := hrel
        obtain ⟨va, vc, rfl⟩ := own_form ho
        clear oT hbT XT T0
        by_cases hjl : j + 1 < cs.length
        · have hjl' : (j : Int) < (cs.length : Int) - 1 := by omega
          obtain ⟨q0, q1, q2⟩ := hcT.out j (by omega)
          obtain ⟨p0, p1, p2⟩ := hcT.out (j + 1) hjl
          replace q0 := ble hb q0
          replace q1 := ble hb q1
          replace q2 := ble hb q2
          replace p0 := ble hb p0
          replace p1 := ble hb p1
          replace p2 := ble hb p2
          have hL := hide (legsTo_succ es k cs j)
          have hNj := fun h => hide (hNo.out j (by omega) h)
          have hYj := fun h => hide (hQ.out.succ (k := j) h)
          have CJ := fun V (hV : Edges V a es) => cJoining a cap n es (cs.getD j HaltV.zero).n (cs.getD (j + 1) HaltV.zero).n V hV hl
          have hUse : Hid (useOf es k (cs.getD j HaltV.zero) (cs.getD (j + 1) HaltV.zero) = ⟨placeE es (cs.getD j HaltV.zero).n (cs.getD (j + 1) HaltV.zero).n, dirE es (cs.getD j HaltV.zero).n (cs.getD (j + 1) HaltV.zero).n, (cs.getD j HaltV.zero).d, (cs.getD (j + 1) HaltV.zero).a, k⟩) := rfl
          have hlen : (us ++ legsTo es k cs j).length ≤ 300 := by rw [List.length_append, legsTo_len]; omega
          generalize hA : us ++ legsTo es k cs j = acc at *
          replace hA := hide hA
          generalize useOf es k (cs.getD j HaltV.zero) (cs.getD (j + 1) HaltV.zero) = U at *
          generalize cs.getD j HaltV.zero = x at *
          generalize cs.getD (j + 1) HaltV.zero = y at *
          obtain ⟨xn, xa, xd⟩ := x
          obtain ⟨yn, ya, yd⟩ := y
          dsimp only at *
          rw [show off + (j + 1) * 3 = off + 3 + j * 3 by omega] at p0 p1 p2
          obtain ⟨⟨x0, x1⟩, -⟩ := blk2 X
          obtain ⟨⟨t0, t1⟩, -⟩ := blk2 T
          have hs1 : w.heap.size < wr.heap.size := cell_lt x0
          have hs2 : wo.heap.size < wr.heap.size := lt_of_block T
          have hs3 : b < wr.heap.size := cell_lt q0
          have B2 := btrans (balloc wr (.cells #[.int .i64 yn, .int .i64 ya, .int .i64 yd] 70)) (balloc _ (.cells #[.int .i64 xn, .int .i64 xa, .int .i64 xd] 70))
          have Y2 := (Bx3.new wr (.int .i64 yn) (.int .i64 ya) (.int .i64 yd) 70).below (balloc _ (.cells #[.int .i64 xn, .int .i64 xa, .int .i64 xd] 70))
          have F2 := Bx3.new1 wr (.cells #[.int .i64 yn, .int .i64 ya, .int .i64 yd] 70) (.int .i64 xn) (.int .i64 xa) (.int .i64 xd) 70
          clear hNo hQ hcT
          go_wp2_with fail
          generalize (wr.alloc (.cells #[.int .i64 yn, .int .i64 ya, .int .i64 yd] 70)).alloc (.cells #[.int .i64 xn, .int .i64 xa, .int .i64 xd] 70) = w2 at *
          refine (CJ _ (he.below (btrans hb B2))).mono ?_
          rintro e w3 ⟨rfl, hb3⟩
          replace B2 := btrans B2 hb3
          have Y3 := Y2.below hb3
          have F3 := F2.below hb3
          have HB3 := btrans hb B2
          have X3 := blk_keep B2 X
          have T3 := blk_keep B2 T
          have o3 := own_keep ho B2
          clear hb3 Y2 F2 x0 x1 t0 t1 q0 q1 q2 p0 p1 p2 CJ
          by_cases hp : placeE es xn yn < es.length
          · have hJ := hide (joinA_yes hp)
            have hR2 := hYj hp
            have hU2 := hUse.out
            generalize dirE es xn yn = dr at *
            generalize placeE es xn yn = pl at *
            rw [hJ.out]
            dsimp only
            have hpl : ¬ ((pl : Int) < 0) := by omega
            clear hNj hYj hUse hp hJ
            obtain ⟨y0, y1, y2⟩ := id Y3
            obtain ⟨f0, f1, f2⟩ := id F3
            subst hU2
            have ho2 := own_keep o3 (balloc w3 (.cells #[.int .i64 pl, .int .i64 dr, .int .i64 xd, .int .i64 ya, .int .i64 k] 78))
            have hb2 := btrans HB3 (balloc w3 (.cells #[.int .i64 pl, .int .i64 dr, .int .i64 xd, .int .i64 ya, .int .i64 k] 78))
            have X4 := blk_keep (balloc w3 (.cells #[.int .i64 pl, .int .i64 dr, .int .i64 xd, .int .i64 ya, .int .i64 k] 78)) X3
            have T4 := blk_keep (balloc w3 (.cells #[.int .i64 pl, .int .i64 dr, .int .i64 xd, .int .i64 ya, .int .i64 k] 78)) T3
            clear X3 T3 Y3 F3
            go_wp2_with (at_builtin; refine wpList_append_own _ rfl _ _ 76 rfl w.heap.size 78 i0 _ 5 40 Try.underlying76 hi hz0 hz1 hz2 rfl (by decide) _ _ _ rfl ho2 ⟨w3.heap.size, 0, none⟩ 1 1 (RideV.vs ⟨pl, dr, xd, ya, k⟩) rfl rfl ?c1 ?c2 ?c3 ?c4 ?c5 ?_)
            case c1 => exact fun j u h => h
            case c2 => simp [Value.oneCell', RideV.vs]
            case c3 => unfold maxLen; omega
            case c4 => omega
            case c5 => have := HB3.size; simp; omega
            intro v2 w5 hown hgrow _
            have hb5 := hb2.grown hgrow hb2.size (own_from o3 (Nat.le_refl _))
            have X5 := blk_app ho2 hgrow X4 (by decide)
            have T5 := blk_app ho2 hgrow T4 (by decide)
            have hown2 : w5.ownsRow w.heap.size 78 5 v2 (us ++ legsTo es k cs (j + 1)).length (flatRides (us ++ legsTo es k cs (j + 1))) := by
              rw [hL.out, ← List.append_assoc, hA.out, flatRides_app, flat_one_ride, List.length_append]
              exact hown
            clear hgrow hown ho2 hb2 o3 X4 T4 hL
            go_wp2
            go_roundw
            case rel => exact ⟨j + 1, by omega, by go_num, hown2, hR2, hb5, X5, T5⟩
            case measure => simp [intOf]; omega
          · have hJ := hide (joinA_no hp)
            have hF := hNj hp
            rw [hJ.out]
            dsimp only
            clear hNj hYj hUse hp hJ
            go_wp2
            go_ret2
            exact AnsUses.no hF.out HB3
        · have hjl' : ¬ ((j : Int) < (cs.length : Int) - 1) := by omega
          have hje : j = cs.length - 1 := by omega
          have hR2 : Hid (∀ i, i < k + 1 → Rode es (clA ts i) ((clA ts i).length - 1)) := hide (fun i hi => by
            by_cases e : i = k
            · subst e; rw [hcl.out, ← hje]; exact hQ.out
            · exact hR.out i (by omega))
          have ho2 : wr.ownsRow w.heap.size 78 5 (.slice va (us ++ legsTo es k cs j).length vc) (usesTo es ts (k + 1)).length (flatRides (usesTo es ts (k + 1))) := by rw [hU.out, ← hje]; exact ho
          clear hQ hR ho
          go_wp2
          go_roundw
          case rel => exact ⟨k + 1, by omega, by go_num, ho2, hR2, hb, X⟩
          case measure => simp [intOf]; omega
    · have hlt' : ¬ ((k : Int) < (ts.length : Int)) := by omega
      obtain rfl : k = ts.length := by omega
      have hF : Hid (Ridden n es ts) := hide ⟨hN.out, hT.out, hR.out⟩
      clear hR
      go_wp2
      go_ret2
      exact ⟨hb, .inl ⟨hF.out, _, rfl, ho⟩⟩
end Go.Proofs.Ythfknkmabjgklaa
