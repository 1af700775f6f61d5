/- PushOf of the model. -/
import Derived.Test.YtbghfihlpbcomaaPY
import Derived.Deep.RegionHeld3
namespace Go.Proofs.Ytbghfihlpbcomaa
open Go.RowKit
set_option maxRecDepth 100000 in
set_option maxHeartbeats 6400000 in
theorem cPushS (a : Option Addr) (cap : Nat) (n : Int) (es : List EdgeV) (ta : Option Addr) (tc : Nat) (ts : List TripV) (s : ByteArray) (ca : Option Addr) (cc : Nat) (cs : List HaltV) (h : Int) (w : World) (he : Edges w a es) (hl : es.length ≤ 1048576) (hz : Trips w ta ts) (hS : Small ts)
    (hc : Halts w ca cs) (hcl : cs.length ≤ 1048576) (hs : s.size ≤ 1048576) :
    Calls Try.prog 41 #[.agg #[.int .i64 n, .slice a es.length cap], .slice ta ts.length tc, .agg #[.string s, .slice ca cs.length cc], .int .i64 h] w fun e w' => ∃ r, e = .returned (.int .i64 r) ∧ PushAns n es ts ⟨s, cs⟩ h r ∧ Below w.heap.size w w' := by
  have hW := btrans (balloc w (.cells #[.int .i64 n, .slice a es.length cap] 26)) (balloc _ (.cells #[.string s, .slice ca cs.length cc] 35))
  have X := blk_keep (balloc _ (.cells #[.string s, .slice ca cs.length cc] 35)) (one_block w (.cells #[.int .i64 n, .slice a es.length cap] 26))
  have Y := one_block (w.alloc (.cells #[.int .i64 n, .slice a es.length cap] 26)) (.cells #[.string s, .slice ca cs.length cc] 35)
  rw [sz1] at Y
  obtain ⟨⟨x0, x1⟩, -⟩ := blk2 X
  go_enter Try.func41, Try.ntmps41
  go_wp2_with fail
  refine (cRiddenS a cap n es _ tc ts _ (he.below hW) hl (hz.below hW) hS).mono ?_
  rintro e w1 ⟨r, rfl, hr, hb⟩
  have HB := btrans hW hb
  replace X := blk_keep hb X
  replace Y := blk_keep hb Y
  clear hb hW x0 x1
  cases r
  · have hN : ¬ CleanP n es ts h := fun g => by have := hr.2 g.1; cases this
    replace hN := hide hN
    clear hr
    go_wp2
    go_ret
    exact ⟨_, rfl, .inl ⟨hN.out, rfl⟩, HB⟩
  clear hr
  obtain ⟨⟨y0, y1⟩, -⟩ := blk2 Y
  go_wp2_with fail
  refine (cTripS s ca cc cs _ (hc.below HB) hcl hs).mono ?_
  rintro e w2 ⟨rfl, hb⟩
  replace HB := btrans HB hb
  replace X := blk_keep hb X
  replace Y := blk_keep hb Y
  clear hb y0 y1
  cases ht : tripB ⟨s, cs⟩
  · have hno : ∀ j, ¬ PushAt n es ts ⟨s, cs⟩ h j := fun j g => by have := g.right; rw [ht] at this; cases this
    have hA : PushAns n es ts ⟨s, cs⟩ h (-1) := by
      by_cases hC : CleanP n es ts h
      · exact .inr ⟨hC, .inr ⟨rfl, fun j _ => hno j⟩⟩
      · exact .inl ⟨hC, rfl⟩
    replace hA := hide hA
    clear hno
    go_wp2
    go_ret
    exact ⟨_, rfl, hA.out, HB⟩
  obtain ⟨⟨x0, x1⟩, -⟩ := blk2 X
  clear ht
  go_wp2_with fail
  refine (cCleanS a cap n es _ tc ts h _ (he.below HB) hl (hz.below HB) hS).mono ?_
  rintro e w3 ⟨r, rfl, hr, hb⟩
  replace HB := btrans HB hb
  replace X := blk_keep hb X
  replace Y := blk_keep hb Y
  clear hb x0 x1
  cases r
  · have hN : ¬ CleanP n es ts h := fun g => by have := hr.2 g; cases this
    replace hN := hide hN
    clear hr
    go_wp2
    go_ret
    exact ⟨_, rfl, .inl ⟨hN.out, rfl⟩, HB⟩
  have hC := hr.1 rfl
  have hfew := hC.few
  replace hC := hide hC
  clear hr
  obtain ⟨vs, hP, hI⟩ := hz.pairs
  have hvl := hI.1
  go_wp2
  go_loopw [9] (fun i wr => ∃ k : Nat, k ≤ 121 ∧ i = .int .i64 k ∧ Hid (∀ j, j < k → ¬ PushAt n es ts ⟨s, cs⟩ h j) ∧ wr.heap[w.heap.size]? = some (.cells #[.int .i64 n, .slice a es.length cap] 26) ∧ wr.heap[w.heap.size + 1]? = some (.cells #[.string s, .slice ca cs.length cc] 35) ∧ Below w.heap.size w wr) (fun i _ => 121 - (intOf i).toNat)
  case atStart => exact ⟨0, by omega, rfl, hide (fun j hj => by omega), X, Y, HB⟩
  case round =>
    clear X Y HB
    obtain ⟨k, hk, rfl, hno, X, Y, HB⟩ := hrel
    by_cases hlt : k < 121
    · obtain ⟨⟨x0, x1⟩, -⟩ := blk2 X
      obtain ⟨⟨y0, y1⟩, -⟩ := blk2 Y
      have M := cMovedS s ca cc cs k wr.drew (hc.below HB.drew) hcl hs
      have hsm := movedT_small ⟨s, cs⟩ k hs hcl
      have hT := Small.snoc hS (by omega) hsm.1 hsm.2
      have PA : Hid (CleanP n es (ts ++ [movedT ⟨s, cs⟩ k]) h → PushAt n es ts ⟨s, cs⟩ h k) := hide (fun g => g)
      have PB : Hid (PushAt n es ts ⟨s, cs⟩ h k → CleanP n es (ts ++ [movedT ⟨s, cs⟩ k]) h) := hide (fun g => g)
      generalize movedT ⟨s, cs⟩ k = tm at *
      have n1 := hI.one
      have CD : ∀ (va vb : Value) (w' : World), Below w.heap.size w w' → va.oneCell' = true → vb.oneCell' = true → Calls Try.prog 66 #[.slice ta ts.length tc, .agg #[va, vb]] w' fun e w2 =>
          ∃ ao cp, e = .returned (.slice ao (ts.length + 1) cp) ∧ w2.ownsRow w'.heap.size 35 2 (.slice ao (ts.length + 1) cp) (ts.length + 1) (flatP (vs ++ [(va, vb)])) ∧ Below w'.heap.size w' w2 := by
        intro va vb w' hb n2 n3
        have := cWith ta tc vs va vb w' (hP.below hb) n1 n2 n3 (by omega)
        rw [hvl] at this
        exact this
      have CL : ∀ (ao : Option Addr) (cp : Nat) (w' : World), Below w.heap.size w w' → Trips w' ao (ts ++ [tm]) → Calls Try.prog 39 #[.agg #[.int .i64 n, .slice a es.length cap], .slice ao (ts.length + 1) cp, .int .i64 h] w' (fun e w2 => ∃ r, e = .returned (.bool r) ∧ (r = true ↔ CleanP n es (ts ++ [tm]) h) ∧ Below w'.heap.size w' w2) := by
        intro ao cp w' hb hT'
        have := cCleanS a cap n es ao cp (ts ++ [tm]) h w' (he.below hb) hl hT' hT
        rw [show (ts ++ [tm]).length = ts.length + 1 by simp] at this
        exact this
      have IW := fun w' (hb : Below w.heap.size w w') => hI.below hb
      clear hP hI n1 hvl hsm hT
      go_wp2_with fail
      go_region_held3 (fun w' => w'.cell? ⟨w.heap.size, 0, none⟩ = some (.int .i64 n) ∧ w'.cell? ⟨w.heap.size, 1, none⟩ = some (.slice a es.length cap) ∧ w'.cell? ⟨w.heap.size + 1, 0, none⟩ = some (.string s) ∧ w'.cell? ⟨w.heap.size + 1, 1, none⟩ = some (.slice ca cs.length cc)) (go_keep) (first
        | (go_at_call 39; with_reducible refine (CL ao cp wq Bq Tq).mono ?_; rintro e wz ⟨rz, rfl, hrz, hbz⟩; have Bz := btrans Bq hbz; have Cz := btrans Cq hbz; clear hbz; obtain ⟨⟨v0, v1⟩, -⟩ := blk2 (blk_keep Cz X); obtain ⟨⟨v2, v3⟩, -⟩ := blk2 (blk_keep Cz Y))
        | (go_at_call 66; with_reducible refine (CD va vb wm Bm n2 n3).mono ?_; rintro e wq ⟨ao, cp, rfl, oq, hbq⟩; have Bq := btrans Bm hbq; have Cq := btrans Cm hbq; have Tq := Trips.of_pairs oq ((IW wq Bq).snoc (Im.below hbq)); clear hbq oq; obtain ⟨⟨v0, v1⟩, -⟩ := blk2 (blk_keep Cq X); obtain ⟨⟨v2, v3⟩, -⟩ := blk2 (blk_keep Cq Y))
        | (go_at_call 67; with_reducible refine M.mono ?_; intro e wm hA; obtain ⟨va, vb, rfl, Im, hbm⟩ := hA.parts; have Cm := undrew hbm; have Bm := btrans HB Cm; obtain ⟨n2, n3⟩ := Im.one; clear hbm hA; obtain ⟨⟨v0, v1⟩, -⟩ := blk2 (blk_keep Cm X); obtain ⟨⟨v2, v3⟩, -⟩ := blk2 (blk_keep Cm Y)))
      replace X := blk_keep Cz X
      replace Y := blk_keep Cz Y
      clear v0 v1 v2 v3 x0 x1 y0 y1
      cases rz
      · have hno2 : Hid (∀ j, j < k + 1 → ¬ PushAt n es ts ⟨s, cs⟩ h j) := by
          refine hide (fun j hj g => ?_)
          by_cases hjk : j = k
          · subst hjk
            have := hrz.2 (PB.out g)
            cases this
          · exact hno.out j (by omega) g
        clear hrz
        go_wp2
        go_roundw
        case rel => exact ⟨k + 1, by omega, by go_num, hno2, X, Y, Bz⟩
        case measure => simp [intOf]; omega
      · have hyes := hide (PA.out (hrz.1 rfl))
        clear hrz
        go_wp2
        go_ret
        exact ⟨_, rfl, .inr ⟨hC.out, .inl ⟨k, by omega, rfl, hyes.out, hno.out⟩⟩, Bz⟩
    · obtain rfl : k = 121 := by omega
      go_wp2
      go_ret
      exact ⟨_, rfl, .inr ⟨hC.out, .inr ⟨rfl, fun j hj => hno.out j (by omega)⟩⟩, HB⟩
end Go.Proofs.Ytbghfihlpbcomaa
