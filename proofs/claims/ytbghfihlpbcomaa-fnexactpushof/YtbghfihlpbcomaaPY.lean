/- PushOf of the program. -/
import Derived.Test.YtbghfihlpbcomaaPX
import Derived.Deep.RegionHeld3
namespace Go.Proofs.Ytbghfihlpbcomaa
open Go.RowKit
theorem TripIn.one {w : World} {va vb : Value} {t : TripV} (h : TripIn w va vb t) : va.oneCell' = true ∧ vb.oneCell' = true := by
  obtain ⟨e1, a, c, e2, _, _⟩ := h
  subst e1 e2
  exact ⟨rfl, rfl⟩
theorem AnsTrip.parts {w w' : World} {t : TripV} {e : Ending} (h : AnsTrip w t e w') : ∃ va vb, e = .returned (.agg #[va, vb]) ∧ TripIn w' va vb t ∧ Below w.heap.size w w' := by
  obtain ⟨ao, cp, rfl, ho, hb⟩ := h
  exact ⟨_, _, rfl, ⟨rfl, ao, cp, rfl, own_cap ho, Halts.own ho⟩, hb⟩

set_option maxRecDepth 100000 in
set_option maxHeartbeats 6400000 in
theorem cPushI (a : Option Addr) (cap : Nat) (n : Int) (es : List EdgeV) (tb tf tc : Nat) (ts : List TripV) (s : ByteArray) (ca : Option Addr) (cc : Nat) (cs : List HaltV) (h : Int) (w : World) (he : Edges w a es) (hl : es.length ≤ 1048576) (hz : Trips w (some ⟨tb, tf, none⟩) ts) (hS : Small ts)
    (hc : Halts w ca cs) (hcl : cs.length ≤ 1048576) (hcap : cs.length ≤ cc) (hs : s.size ≤ 1048576) :
    Calls Try.prog 43 #[.agg #[.int .i64 n, .slice a es.length cap], .slice (some ⟨tb, tf, none⟩) ts.length tc, .agg #[.string s, .slice ca cs.length cc], .int .i64 h] w fun e w' => ∃ r, e = .returned (.int .i64 r) ∧ PushAns n es ts ⟨s, cs⟩ h r ∧ Below w.heap.size w w' := by
  have hW := btrans (balloc w (.cells #[.int .i64 n, .slice a es.length cap] 26)) (balloc _ (.cells #[.string s, .slice ca cs.length cc] 35))
  have X := blk_keep (balloc _ (.cells #[.string s, .slice ca cs.length cc] 35)) (one_block w (.cells #[.int .i64 n, .slice a es.length cap] 26))
  have Y := one_block (w.alloc (.cells #[.int .i64 n, .slice a es.length cap] 26)) (.cells #[.string s, .slice ca cs.length cc] 35)
  rw [sz1] at Y
  obtain ⟨⟨x0, x1⟩, -⟩ := blk2 X
  go_enter Try.func43, Try.ntmps43
  go_wp2_with fail
  refine (cCleanI a cap n es _ tc ts h _ (he.below hW) hl (hz.below hW) hS).mono ?_
  rintro e w1 ⟨r, rfl, hr, hb⟩
  have HB := btrans hW hb
  replace X := blk_keep hb X
  replace Y := blk_keep hb Y
  clear hb hW x0 x1
  cases r
  · have hN : ¬ CleanP n es ts h := fun g => by have := hr.2 g; cases this
    replace hN := hide hN
    clear hr
    go_wp2
    go_ret
    exact ⟨_, rfl, .inl ⟨hN.out, rfl⟩, HB⟩
  have hC := hr.1 rfl
  have hfew := hC.few
  replace hC := hide hC
  clear hr
  obtain ⟨vs, hP, hI⟩ := hz.pairs
  have hvl := hI.1
  go_wp2
  go_loopw [9, 15] (fun _ i wr => ∃ k : Nat, k ≤ 121 ∧ i = .int .i64 k ∧ Hid (∀ j, j < k → ¬ PushAt n es ts ⟨s, cs⟩ h j) ∧ wr.heap[w.heap.size]? = some (.cells #[.int .i64 n, .slice a es.length cap] 26) ∧ wr.heap[w.heap.size + 1]? = some (.cells #[.string s, .slice ca cs.length cc] 35) ∧ Below w.heap.size w wr) (fun _ i _ => 121 - (intOf i).toNat)
  case atStart => exact ⟨0, by omega, rfl, hide (fun j hj => by omega), X, Y, HB⟩
  case round =>
    clear X Y HB
    obtain ⟨k, hk, rfl, hno, X, Y, HB⟩ := hrel
    by_cases hlt : k < 121
    · obtain ⟨⟨x0, x1⟩, -⟩ := blk2 X
      obtain ⟨⟨y0, y1⟩, -⟩ := blk2 Y
      have M := cMovedI s ca cc cs k wr.drew (hc.below HB.drew) hcl hcap
      have hsm := movedT_small ⟨s, cs⟩ k hs hcl
      have hT := Small.snoc hS (by omega) hsm.1 hsm.2
      have PA : Hid (CleanP n es (ts ++ [movedT ⟨s, cs⟩ k]) h → PushAt n es ts ⟨s, cs⟩ h k) := hide (fun g => g)
      have PB : Hid (PushAt n es ts ⟨s, cs⟩ h k → CleanP n es (ts ++ [movedT ⟨s, cs⟩ k]) h) := hide (fun g => g)
      generalize movedT ⟨s, cs⟩ k = tm at *
      have hlm : (ts ++ [tm]).length = vs.length + 1 := by simp [hvl]
      have n1 := hI.one
      have hP' : ∀ j u, (flatP vs)[j]? = some u → w.cell? ⟨tb, tf + j, none⟩ = some u := by
        rcases hP with h0 | ⟨b', o', e', hc'⟩
        · subst h0; intro j u hu; simp [flatP] at hu
        · simp only [Option.some.injEq, Addr.mk.injEq, and_true] at e'
          obtain ⟨rfl, rfl⟩ := e'
          exact hc'
      have CD : ∀ (va vb : Value) (w' : World), Below w.heap.size w w' → va.oneCell' = true → vb.oneCell' = true → Calls Try.prog 69 #[.slice (some ⟨w'.heap.size + 1, 0, none⟩) 2 2] ((w'.alloc (.cells #[va, vb] 35)).alloc (.cells #[.slice (some ⟨tb, tf, none⟩) ts.length tc, .slice (some ⟨w'.heap.size, 0, none⟩) 1 1] 27)) fun e w2 =>
          ∃ ao cp, e = .returned (.slice ao (ts.length + 1) cp) ∧ w2.ownsRow w'.heap.size 35 2 (.slice ao (ts.length + 1) cp) (ts.length + 1) (flatP (vs ++ [(va, vb)])) ∧ Below w'.heap.size w' w2 := by
        intro va vb w' hb n2 n3
        have := cConcatD tb tf tc vs va vb w' (fun j u hu => ble hb (hP' j u hu)) n1 n2 n3 (by omega)
        rw [hvl] at this
        exact this
      have CL : ∀ (ao : Option Addr) (cp : Nat) (w' : World), Below w.heap.size w w' → Trips w' ao (ts ++ [tm]) → Calls Try.prog 16 #[.agg #[.int .i64 n, .slice a es.length cap], .slice ao (ts.length + 1) cp, .int .i64 h] w' (fun e w2 => ∃ r, e = .returned (.bool r) ∧ (r = true ↔ CleanP n es (ts ++ [tm]) h) ∧ Below w'.heap.size w' w2) := by
        intro ao cp w' hb hT'
        have := cCleanI a cap n es ao cp (ts ++ [tm]) h w' (he.below hb) hl hT' hT
        rw [show (ts ++ [tm]).length = ts.length + 1 by simp] at this
        exact this
      have IW := fun w' (hb : Below w.heap.size w w') => hI.below hb
      clear hP hI hP' n1 hlm hvl hsm hT
      go_wp2_with fail
      go_region_held3 (fun w' => w'.cell? ⟨w.heap.size, 0, none⟩ = some (.int .i64 n) ∧ w'.cell? ⟨w.heap.size, 1, none⟩ = some (.slice a es.length cap) ∧ w'.cell? ⟨w.heap.size + 1, 0, none⟩ = some (.string s) ∧ w'.cell? ⟨w.heap.size + 1, 1, none⟩ = some (.slice ca cs.length cc)) (go_keep) (first
        | (go_at_call 16; with_reducible refine (CL ao cp wq Bq Tq).mono ?_; rintro e wz ⟨rz, rfl, hrz, hbz⟩; have Bz := btrans Bq hbz; have Cz := btrans Cq hbz; clear hbz; obtain ⟨⟨v0, v1⟩, -⟩ := blk2 (blk_keep Cz X); obtain ⟨⟨v2, v3⟩, -⟩ := blk2 (blk_keep Cz Y))
        | (go_at_call 69; with_reducible refine (CD va vb wm Bm n2 n3).mono ?_; rintro e wq ⟨ao, cp, rfl, oq, hbq⟩; have Bq := btrans Bm hbq; have Cq := btrans Cm hbq; have Tq := Trips.of_pairs oq ((IW wq Bq).snoc (Im.below hbq)); clear hbq oq; obtain ⟨⟨v0, v1⟩, -⟩ := blk2 (blk_keep Cq X); obtain ⟨⟨v2, v3⟩, -⟩ := blk2 (blk_keep Cq Y))
        | (go_at_call 70; with_reducible refine M.mono ?_; intro e wm hA; obtain ⟨va, vb, rfl, Im, hbm⟩ := hA.parts; have Cm := undrew hbm; have Bm := btrans HB Cm; obtain ⟨n2, n3⟩ := Im.one; clear hbm hA; obtain ⟨⟨v0, v1⟩, -⟩ := blk2 (blk_keep Cm X); obtain ⟨⟨v2, v3⟩, -⟩ := blk2 (blk_keep Cm Y)))
      replace X := blk_keep Cz X
      replace Y := blk_keep Cz Y
      clear v0 v1 v2 v3 x0 x1 y0 y1
      cases rz
      · have hno2 : Hid (∀ j, j < k + 1 → ¬ PushAt n es ts ⟨s, cs⟩ h j) := by
          refine hide (fun j hj g => ?_)
          by_cases hjk : j = k
          · subst hjk
            have := hrz.2 (PB.out g)
            cases this
          · exact hno.out j (by omega) g
        clear hrz
        go_wp2
        go_roundw
        case rel => exact ⟨k + 1, by omega, by go_num, hno2, X, Y, Bz⟩
        case measure => simp [intOf]; omega
      · have hyes := hide (PA.out (hrz.1 rfl))
        clear hrz
        go_wp2
        go_ret
        exact ⟨_, rfl, .inr ⟨hC.out, .inl ⟨k, by omega, rfl, hyes.out, hno.out⟩⟩, Bz⟩
    · obtain rfl : k = 121 := by omega
      go_wp2
      go_ret
      exact ⟨_, rfl, .inr ⟨hC.out, .inr ⟨rfl, fun j hj => hno.out j (by omega)⟩⟩, HB⟩
end Go.Proofs.Ytbghfihlpbcomaa
