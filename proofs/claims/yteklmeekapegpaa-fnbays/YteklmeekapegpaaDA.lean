/- Drawn bays, drawn stays, a drawn gap: all of them right. -/
import Derived.Test.YteklmeekapegpaaDK
import Derived.Test.YteklmeekapegpaaFB
namespace Go.Proofs.Yteklmeekapegpaa
open Go.RowKit

set_option maxRecDepth 20000 in
set_option maxHeartbeats 3200000 in
theorem cDrawBays (cb cap : Nat) (a : Option Addr) (bs : List Int) (w : World) (hc : Cur w cb a cap bs) (hl : bs.length ≤ 1048576) :
    Calls Try.prog 40 #[.pointer (some ⟨cb, 0, none⟩)] w fun e w' => ∃ (u : Value) (zs : List Int), e = .returned u ∧ baysB zs = true ∧ w'.ownsRow w.heap.size 3 1 u zs.length (zs.map (Value.int .i64)) ∧ Cur w' cb a cap bs ∧ w.grownBy w' (some cb) := by
  obtain ⟨i0, hi, hz0, hz1, hz2⟩ := info_parts infoInts
  have hB : ∀ k, OnCur cb a bs k → k < w.heap.size := fun k hk => hc.lt hk
  have hcb := hB cb (.inl rfl)
  have C0 := hc.below (balloc w (.cells #[] 3))
  have O0 : (w.alloc (.cells #[] 3)).ownsRow w.heap.size 3 1 (.slice (some ⟨w.heap.size, 0, none⟩) 0 0) 0 (([] : List Int).map (Value.int .i64)) := World.ownsRow_made w #[] 0 (Nat.le_refl _) (by unfold maxLen; omega) (by simp)
  go_enter Try.func40, Try.ntmps40
  go_wp2_with fail
  refine (cbelow cb cap a bs 5 _ C0 hl (by omega) (by omega)).mono ?_
  rintro e w1 ⟨x, rfl, x0, x1, C1, G1⟩
  have GW1 : w.grownBy w1 (some cb) := gtrans (gof (balloc w _)) G1
  have O1 := own_far O0 G1 (fun k hk e => by have := own_from O0 (Nat.le_refl _) k hk; cases e; omega)
  clear C0 O0 G1 hc
  go_wp2
  go_loopw [3, 4] (fun o ii wr => ∃ (ms : List Int) (I : Int), ii = .int .i64 I ∧ 0 ≤ I ∧ (ms.length : Int) + I = 1 + x ∧ (∀ y ∈ ms, 1 ≤ y ∧ y ≤ 1000) ∧ wr.ownsRow w.heap.size 3 1 o ms.length (ms.map (Value.int .i64)) ∧ Cur wr cb a cap bs ∧ w.grownBy wr (some cb)) (fun _ ii _ => (intOf ii).toNat)
  case atStart => exact ⟨[], 1 + x, rfl, by omega, by simp, (fun y hy => by simp at hy), O1, C1, GW1⟩
  case round =>
    obtain ⟨ms, I, rfl, I0, hLI, hall, O, C, G⟩ := hrel
    clear O1 C1 GW1
    obtain ⟨go, co, rfl⟩ := own_form O
    by_cases hI : 0 < I
    · go_wp2_with fail
      refine (cbelow cb cap a bs 12 _ C hl (by omega) (by omega)).mono ?_
      rintro e w3 ⟨y, rfl, y0, y1, C3, G3⟩
      have O3 := own_far O G3 (fun k hk e => by have := own_from O (Nat.le_refl _) k hk; cases e; omega)
      have GW3 := gtrans G G3
      clear O C G G3
      have hsz := GW3.size
      have hall2 : ∀ z ∈ ms ++ [60 + 20 * y], 1 ≤ z ∧ z ≤ 1000 := by
        intro z hz
        rw [List.mem_append] at hz
        rcases hz with hz | hz
        · exact hall z hz
        · simp at hz; omega
      replace hall2 := hide hall2
      have hI5 : I ≤ 5 := by omega
      replace hLI := hide hLI
      have hml : ms.length ≤ 100 := by have := hLI.out; omega
      clear hall
      go_wp2_with (at_builtin; refine wpList_append_own _ rfl _ _ 24 rfl w.heap.size 3 i0 (.int .i64 0) 1 8 Try.underlying24 hi hz0 hz1 hz2 rfl (by decide) _ _ _ rfl (O3.alloc _) ⟨w3.heap.size, 0, none⟩ 1 1 [.int .i64 (60 + 20 * y)] rfl rfl ?c1 ?c2 ?c3 ?c4 ?c5 ?_)
      case c1 => exact World.news_of_block (heap_alloc_new w3 _)
      case c2 => intro u hu; simp at hu; subst hu; rfl
      case c3 => unfold maxLen; omega
      case c4 => omega
      case c5 => simp; omega
      intro v' w5 hown' hgrow _
      have hfrom := own_from O3 (Nat.le_refl _)
      have GW5 : w.grownBy w5 (some cb) := grown_far (gtrans GW3 (gof (balloc w3 _))) hgrow hfrom
      have C5 := Cur.grow (C3.below (balloc w3 _)) hB hgrow hfrom
      have O5 : w5.ownsRow w.heap.size 3 1 v' (ms ++ [60 + 20 * y]).length ((ms ++ [60 + 20 * y]).map (Value.int .i64)) := by
        rw [List.length_append, List.map_append]; exact hown'
      clear O3 C3 GW3 hown' hgrow hfrom
      go_wp2
      go_roundw
      case rel => exact ⟨ms ++ [60 + 20 * y], I - 1, by go_num, by omega, by have := hLI.out; simp; omega, hall2.out, O5, C5, GW5⟩
      case measure => simp [intOf]; omega
    · obtain rfl : I = 0 := by omega
      have hok : baysB ms = true := by
        simp only [baysB, Bool.and_eq_true, List.all_eq_true]
        exact ⟨inB_yes (by omega) (by omega), fun z hz => inB_yes (hall z hz).1 (hall z hz).2⟩
      clear hall
      go_wp2
      go_ret
      exact ⟨_, rfl, ms, hok, O, C, G⟩

theorem flat_one_stay (e : StayV) : flatStays [e] = e.vs := by simp [flatStays]
set_option maxRecDepth 20000 in
set_option maxHeartbeats 6400000 in
theorem cDrawStays (cb cap : Nat) (a : Option Addr) (bs : List Int) (w : World) (hc : Cur w cb a cap bs) (hl : bs.length ≤ 1048576) :
    Calls Try.prog 41 #[.pointer (some ⟨cb, 0, none⟩), .slice a bs.length cap] w fun e w' => ∃ (u : Value) (ss : List StayV), e = .returned u ∧ staysB ss = true ∧ w'.ownsRow w.heap.size 37 3 u ss.length (flatStays ss) ∧ Cur w' cb a cap bs ∧ w.grownBy w' (some cb) := by
  obtain ⟨i0, hi, hz0, hz1, hz2⟩ := info_parts infoStays
  have hB : ∀ k, OnCur cb a bs k → k < w.heap.size := fun k hk => hc.lt hk
  have hcb := hB cb (.inl rfl)
  have C0 := hc.below (balloc w (.cells #[] 37))
  have O0 : (w.alloc (.cells #[] 37)).ownsRow w.heap.size 37 3 (.slice (some ⟨w.heap.size, 0, none⟩) 0 0) 0 (flatStays []) := World.ownsRow_made w #[] 0 (Nat.le_refl _) (by unfold maxLen; omega) (by simp)
  go_enter Try.func41, Try.ntmps41
  go_wp2_with fail
  refine (csize a bs.length cap 14 _ hl (by omega) (by omega)).mono ?_
  rintro e w0 ⟨r0, rfl, hr1, hr2, hw⟩
  subst w0
  go_wp2_with fail
  refine (cbelow cb cap a bs (2 + r0) _ C0 hl (by omega) (by omega)).mono ?_
  rintro e w1 ⟨x, rfl, x0, x1, C1, G1⟩
  have GW1 : w.grownBy w1 (some cb) := gtrans (gof (balloc w _)) G1
  have O1 := own_far O0 G1 (fun k hk e => by have := own_from O0 (Nat.le_refl _) k hk; cases e; omega)
  clear C0 O0 G1 hc
  go_wp2
  go_loopw [5, 6] (fun o ii wr => ∃ (ms : List StayV) (I : Int), ii = .int .i64 I ∧ 0 ≤ I ∧ (ms.length : Int) + I = x ∧ (∀ y ∈ ms, stayB y = true) ∧ wr.ownsRow w.heap.size 37 3 o ms.length (flatStays ms) ∧ Cur wr cb a cap bs ∧ w.grownBy wr (some cb)) (fun _ ii _ => (intOf ii).toNat)
  case atStart => exact ⟨[], x, rfl, by omega, by simp, (fun y hy => by simp at hy), O1, C1, GW1⟩
  case round =>
    obtain ⟨ms, I, rfl, I0, hLI, hall, O, C, G⟩ := hrel
    clear O1 C1 GW1
    obtain ⟨go, co, rfl⟩ := own_form O
    by_cases hI : 0 < I
    · go_wp2_with fail
      refine (cbelow cb cap a bs 60 _ C hl (by omega) (by omega)).mono ?_
      rintro e w2 ⟨f, rfl, f0, f1, C2, G2⟩
      have O2 := own_far O G2 (fun k hk e => by have := own_from O (Nat.le_refl _) k hk; cases e; omega)
      have GW2 := gtrans G G2
      clear O C G G2
      go_wp2_with fail
      refine (cbelow cb cap a bs 12 _ C2 hl (by omega) (by omega)).mono ?_
      rintro e w3 ⟨d, rfl, d0, d1, C3, G3⟩
      have O3 := own_far O2 G3 (fun k hk e => by have := own_from O2 (Nat.le_refl _) k hk; cases e; omega)
      have GW3 := gtrans GW2 G3
      clear O2 C2 GW2 G3
      go_wp2_with fail
      refine (cbelow cb cap a bs 9 _ C3 hl (by omega) (by omega)).mono ?_
      rintro e w4 ⟨y, rfl, y0, y1, C4, G4⟩
      have O4 := own_far O3 G4 (fun k hk e => by have := own_from O3 (Nat.le_refl _) k hk; cases e; omega)
      have GW4 := gtrans GW3 G4
      clear O3 C3 GW3 G4
      have hsz := GW4.size
      have hall2 : ∀ z ∈ ms ++ [(⟨f, f + d, 40 + 20 * y⟩ : StayV)], stayB z = true := by
        intro z hz
        rw [List.mem_append] at hz
        rcases hz with hz | hz
        · exact hall z hz
        · simp at hz
          subst hz
          simp only [stayB, metB, inB, Bool.and_eq_true, decide_eq_true_eq]; omega
      replace hall2 := hide hall2
      have hI5 : I ≤ 16 := by omega
      replace hLI := hide hLI
      have hml : ms.length ≤ 100 := by have := hLI.out; omega
      clear hall
      go_wp2_with (at_builtin; refine wpList_append_own _ rfl _ _ 25 rfl w.heap.size 37 i0 _ 3 24 Try.underlying25 hi hz0 hz1 hz2 rfl (by decide) _ _ _ rfl (O4.alloc _) ⟨w4.heap.size, 0, none⟩ 1 1 (StayV.vs ⟨f, f + d, 40 + 20 * y⟩) rfl rfl ?c1 ?c2 ?c3 ?c4 ?c5 ?_)
      case c1 => exact World.news_of_block (heap_alloc_new w4 _)
      case c2 => simp [Value.oneCell', StayV.vs]
      case c3 => unfold maxLen; omega
      case c4 => omega
      case c5 => simp; omega
      intro v' w5 hown' hgrow _
      have hfrom := own_from O4 (Nat.le_refl _)
      have GW5 : w.grownBy w5 (some cb) := grown_far (gtrans GW4 (gof (balloc w4 _))) hgrow hfrom
      have C5 := Cur.grow (C4.below (balloc w4 _)) hB hgrow hfrom
      have O5 : w5.ownsRow w.heap.size 37 3 v' (ms ++ [(⟨f, f + d, 40 + 20 * y⟩ : StayV)]).length (flatStays (ms ++ [(⟨f, f + d, 40 + 20 * y⟩ : StayV)])) := by
        rw [List.length_append, flatStays_app, flat_one_stay]; exact hown'
      clear O4 C4 GW4 hown' hgrow hfrom
      go_wp2
      go_roundw
      case rel => exact ⟨ms ++ [(⟨f, f + d, 40 + 20 * y⟩ : StayV)], I - 1, by go_num, by omega, by have := hLI.out; simp; omega, hall2.out, O5, C5, GW5⟩
      case measure => simp [intOf]; omega
    · obtain rfl : I = 0 := by omega
      have hok : staysB ms = true := by
        simp only [staysB, Bool.and_eq_true, List.all_eq_true, decide_eq_true_eq]
        exact ⟨by omega, hall⟩
      clear hall
      go_wp2
      go_ret
      exact ⟨_, rfl, ms, hok, O, C, G⟩

/-- What is drawn: right bays, right stays, a gap, in rows of their own. -/
def Drawn (w : World) (e : Ending) (w' : World) : Prop :=
  ∃ (u v : Value) (zs : List Int) (ss : List StayV) (g : Int), e = .returned (.tuple #[u, v, .int .i64 g]) ∧ assignOk zs ss g = true ∧ w'.ownsRow w.heap.size 3 1 u zs.length (zs.map (Value.int .i64)) ∧ w'.ownsRow w.heap.size 37 3 v ss.length (flatStays ss) ∧ Below w.heap.size w w'
set_option maxRecDepth 20000 in
set_option maxHeartbeats 1600000 in
theorem cDrawRight (cap : Nat) (a : Option Addr) (bs : List Int) (w : World) (hz : Bytes w a bs) (hl : bs.length ≤ 1048576) :
    Calls Try.prog 13 #[.slice a bs.length cap] w (Drawn w) := by
  go_enter Try.func13, Try.ntmps13
  go_wp2_with fail
  refine (cnew a cap bs _ hz hl).mono ?_
  rintro e w1 ⟨cb, rfl, hcb, C1, b1⟩
  have hcl := C1.lt (.inl rfl)
  go_wp2_with fail
  refine (cDrawBays cb cap a bs _ C1 hl).mono ?_
  rintro e w2 ⟨u, zs, rfl, hzs, O2, C2, G2⟩
  have b2 : Below w.heap.size w w2 := b1.grown G2 b1.size (fun k hk => by cases hk; exact hcb)
  obtain ⟨ua, uc, rfl⟩ := own_form O2
  have s2 := G2.size
  go_wp2_with fail
  refine (cDrawStays cb cap a bs _ C2 hl).mono ?_
  rintro e w3 ⟨v, ss, rfl, hss, O3, C3, G3⟩
  have b3 : Below w.heap.size w w3 := b2.grown G3 b2.size (fun k hk => by cases hk; exact hcb)
  obtain ⟨va, vc, rfl⟩ := own_form O3
  have O23 := own_far O2 G3 (fun k hk e => by have := own_from O2 (Nat.le_refl _) k hk; cases e; omega)
  have s3 := G3.size
  go_wp2_with fail
  refine (cbelow cb cap a bs 6 _ C3 hl (by omega) (by omega)).mono ?_
  rintro e w4 ⟨x, rfl, x0, x1, C4, G4⟩
  have b4 : Below w.heap.size w w4 := b3.grown G4 b3.size (fun k hk => by cases hk; exact hcb)
  have O24 := own_base (own_far O23 G4 (fun k hk e => by have := own_from O23 (Nat.le_refl _) k hk; cases e; omega)) b1.size
  have O34 := own_base (own_far O3 G4 (fun k hk e => by have := own_from O3 (Nat.le_refl _) k hk; cases e; omega)) b2.size
  have hok : Hid (assignOk zs ss (1 + x) = true) := hide (by simp only [assignOk, hzs, hss, Bool.true_and]; exact inB_yes (by omega) (by omega))
  clear O23 O3 O2 hzs hss
  go_wp2
  go_ret3
  exact ⟨_, _, zs, ss, 1 + x, rfl, hok.out, O24, O34, b4⟩
end Go.Proofs.Yteklmeekapegpaa
