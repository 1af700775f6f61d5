/- Drawn lines and drawn trains. -/
import Derived.Test.YtggdejceobagcaaDK
import Derived.Test.YtggdejceobagcaaN
namespace Go.Proofs.Ytggdejceobagcaa
open Go.RowKit

set_option maxHeartbeats 800000 in
theorem cPick (cb cap : Nat) (a : Option Addr) (zs : List Int) (b : Option Addr) (cp : Nat) (xs : List Int) (w : World) (hc : Cur w cb a cap zs) (hl : zs.length ≤ 1048576) (hx : Ints w b xs) (hbc : ∀ x, b = some x → x.block ≠ cb) (h1 : 1 ≤ xs.length) (h2 : xs.length ≤ 1000) :
    Calls Try.prog 61 #[.pointer (some ⟨cb, 0, none⟩), .slice b xs.length cp] w fun e w' => ∃ r, e = .returned (.int .i64 r) ∧ r ∈ xs ∧ Cur w' cb a cap zs ∧ w.grownBy w' (some cb) := by
  go_enter Try.func61, Try.ntmps61
  go_wp2_with fail
  refine (cbelow cb cap a zs xs.length _ hc hl (by omega) (by omega)).mono ?_
  rintro e w1 ⟨y, rfl, y0, y1, C1, G1⟩
  have hx1 := hx.off G1 hbc
  rcases hx1 with h | ⟨nb, off, rfl, hcl⟩
  · simp [h] at h1
  have hy : y.toNat < xs.length := by omega
  have q := hcl y.toNat hy
  have hmem : xs.getD y.toNat 0 ∈ xs := by simp [List.getD, hy]
  generalize xs.getD y.toNat 0 = r at *
  clear hcl hc hx
  go_wp2
  go_ret
  exact ⟨r, rfl, hmem, C1, G1⟩

set_option maxRecDepth 20000 in
set_option maxHeartbeats 3200000 in
theorem cDrawLine (cb cap : Nat) (a : Option Addr) (zs : List Int) (w : World) (hc : Cur w cb a cap zs) (hl : zs.length ≤ 1048576) :
    Calls Try.prog 38 #[.pointer (some ⟨cb, 0, none⟩)] w fun e w' => ∃ (u : Value) (ls : List Int), e = .returned u ∧ lineOk ls = true ∧ w'.ownsRow w.heap.size 3 1 u ls.length (ls.map (Value.int .i64)) ∧ Cur w' cb a cap zs ∧ w.grownBy w' (some cb) := by
  obtain ⟨i0, hi, hz0, hz1, hz2⟩ := info_parts2 infoInts
  have hB : ∀ k, OnCur cb a zs k → k < w.heap.size := fun k hk => hc.lt hk
  have hcb := hB cb (.inl rfl)
  have C0 := hc.below (balloc w (.cells #[] 3))
  have O0 : (w.alloc (.cells #[] 3)).ownsRow w.heap.size 3 1 (.slice (some ⟨w.heap.size, 0, none⟩) 0 0) 0 (([] : List Int).map (Value.int .i64)) := World.ownsRow_made w #[] 0 (Nat.le_refl _) (by omega) (by simp)
  go_enter Try.func38, Try.ntmps38
  go_wp2_with fail
  refine (cbelow cb cap a zs 4 _ C0 hl (by omega) (by omega)).mono ?_
  rintro e w1 ⟨x, rfl, x0, x1, C1, G1⟩
  have GW1 : w.grownBy w1 (some cb) := gtrans (gof (balloc w _)) G1
  have O1 := own_far O0 G1 (fun k hk e => by have := own_from O0 (Nat.le_refl _) k hk; cases e; omega)
  clear C0 O0 G1 hc
  go_wp2
  go_loopw [3, 4] (fun o ii wr => ∃ (ms : List Int) (I : Int), ii = .int .i64 I ∧ 0 ≤ I ∧ (ms.length : Int) + I = 2 + x ∧ (∀ y ∈ ms, 1 ≤ y ∧ y ≤ 4) ∧ wr.ownsRow w.heap.size 3 1 o ms.length (ms.map (Value.int .i64)) ∧ Cur wr cb a cap zs ∧ w.grownBy wr (some cb)) (fun _ ii _ => (intOf ii).toNat)
  case atStart => exact ⟨[], 2 + x, rfl, by omega, by simp, (fun y hy => by simp at hy), O1, C1, GW1⟩
  case round =>
    obtain ⟨ms, I, rfl, I0, hLI, hall, O, C, G⟩ := hrel
    clear O1 C1 GW1
    obtain ⟨go, co, rfl⟩ := own_form O
    by_cases hI : 0 < I
    · go_wp2_with fail
      refine (cbelow cb cap a zs 3 _ C hl (by omega) (by omega)).mono ?_
      rintro e w3 ⟨y, rfl, y0, y1, C3, G3⟩
      have O3 := own_far O G3 (fun k hk e => by have := own_from O (Nat.le_refl _) k hk; cases e; omega)
      have GW3 := gtrans G G3
      clear O C G G3
      have hsz := GW3.size
      have hall2 : ∀ z ∈ ms ++ [1 + y], 1 ≤ z ∧ z ≤ 4 := by
        intro z hz
        rw [List.mem_append] at hz
        rcases hz with hz | hz
        · exact hall z hz
        · simp at hz; omega
      replace hall2 := hide hall2
      have hI5 : I ≤ 5 := by omega
      replace hLI := hide hLI
      have hml : ms.length ≤ 100 := by have := hLI.out; omega
      clear hall
      go_wp2_with (at_builtin; refine wpList_append_own _ rfl _ _ 24 rfl w.heap.size 3 i0 (.int .i64 0) 1 8 Try.underlying24 hi hz0 hz1 hz2 rfl (by decide) _ _ _ rfl (O3.alloc _) ⟨w3.heap.size, 0, none⟩ 1 1 [.int .i64 (1 + y)] rfl rfl ?c1 ?c2 ?c3 ?c4 ?c5 ?_)
      case c1 =>
        intro j u hj
        match j, hj with
        | 0, hj => simp at hj; subst hj; simp [Addr.add]
      case c2 => intro u hu; simp at hu; subst hu; rfl
      case c3 => unfold maxLen; omega
      case c4 => omega
      case c5 => simp; omega
      intro v' w5 hown' hgrow _
      have hfrom := own_from O3 (Nat.le_refl _)
      have GW5 : w.grownBy w5 (some cb) := grown_far (gtrans GW3 (gof (balloc w3 _))) hgrow hfrom
      have C5 := Cur.grow (C3.below (balloc w3 _)) hB hgrow hfrom
      have O5 : w5.ownsRow w.heap.size 3 1 v' (ms ++ [1 + y]).length ((ms ++ [1 + y]).map (Value.int .i64)) := by
        rw [List.length_append, List.map_append]; exact hown'
      clear O3 C3 GW3 hown' hgrow hfrom
      go_wp2
      go_roundw
      case rel => exact ⟨ms ++ [1 + y], I - 1, by go_num, by omega, by have := hLI.out; simp; omega, hall2.out, O5, C5, GW5⟩
      case measure => simp [intOf]; omega
    · obtain rfl : I = 0 := by omega
      have hok : lineOk ms = true := by
        simp only [lineOk, Bool.and_eq_true, List.all_eq_true]
        exact ⟨fun z hz => inB_yes (hall z hz).1 (hall z hz).2, inB_yes (by omega) (by omega)⟩
      clear hall
      go_wp2
      go_ret
      exact ⟨_, rfl, ms, hok, O, C, G⟩

/-- Trains that are right one by one, and no more of them at a spot than fit. -/
structure GoodT (ls : List Int) (ts : List SingleV) : Prop where
  one : ∀ t ∈ ts, oneOk ls t = true
  fit : ∀ t ∈ ts, (atN ts t.s : Int) ≤ fits ls t.s
theorem GoodT.ok {ls : List Int} {ts : List SingleV} (h : GoodT ls ts) (hl : lineOk ls = true) (h4 : ts.length ≤ 4) : singlesOk ls ts = true := by
  simp only [singlesOk, hl, Bool.true_and, Bool.and_eq_true, decide_eq_true_eq, List.all_eq_true]
  refine ⟨h4, fun t ht => ?_⟩
  simp only [trainOk, Bool.and_eq_true, decide_eq_true_eq]
  exact ⟨h.one t ht, h.fit t ht⟩
theorem GoodT.app {ls : List Int} {ts : List SingleV} {t : SingleV} (h : GoodT ls ts) (h1 : oneOk ls t = true) (h2 : (atN ts t.s : Int) < fits ls t.s) : GoodT ls (ts ++ [t]) := by
  refine ⟨fun u hu => ?_, fun u hu => ?_⟩
  · rw [List.mem_append] at hu
    rcases hu with hu | hu
    · exact h.one u hu
    · simp at hu; rw [hu]; exact h1
  · rw [atN_snoc]
    by_cases e : t.s = u.s
    · rw [if_pos e, ← e]; omega
    · rw [if_neg e]
      rw [List.mem_append] at hu
      rcases hu with hu | hu
      · have := h.fit u hu; omega
      · simp at hu; rw [hu] at e; exact absurd rfl e

set_option maxRecDepth 20000 in
set_option maxHeartbeats 6400000 in
theorem cDrawRight (cb cap : Nat) (a : Option Addr) (zs : List Int) (b : Option Addr) (lc : Nat) (ls : List Int) (w : World) (hc : Cur w cb a cap zs) (hl : zs.length ≤ 1048576) (hz : Ints w b ls) (hbc : ∀ x, b = some x → x.block ≠ cb) (hok : lineOk ls = true) :
    Calls Try.prog 39 #[.pointer (some ⟨cb, 0, none⟩), .slice b ls.length lc] w fun e w' => ∃ (u : Value) (ts : List SingleV), e = .returned u ∧ singlesOk ls ts = true ∧ w'.ownsRow w.heap.size 31 2 u ts.length (flatSingles ts) ∧ Cur w' cb a cap zs ∧ w.grownBy w' (some cb) := by
  obtain ⟨i0, hi, hz0, hz1, hz2⟩ := info_parts2 infoSingles
  obtain ⟨-, hl2, hl5⟩ := lineOk_parts hok
  have hB : ∀ k, OnCur cb a zs k → k < w.heap.size := fun k hk => hc.lt hk
  have hcb := hB cb (.inl rfl)
  have C0 := hc.below (balloc w (.cells #[] 31))
  have O0 : (w.alloc (.cells #[] 31)).ownsRow w.heap.size 31 2 (.slice (some ⟨w.heap.size, 0, none⟩) 0 0) 0 (flatSingles []) := World.ownsRow_made w #[] 0 (Nat.le_refl _) (by omega) (by simp)
  go_enter Try.func39, Try.ntmps39
  go_wp2_with fail
  refine (cbelow cb cap a zs 4 _ C0 hl (by omega) (by omega)).mono ?_
  rintro e w1 ⟨x, rfl, x0, x1, C1, G1⟩
  have GW1 : w.grownBy w1 (some cb) := gtrans (gof (balloc w _)) G1
  have O1 := own_far O0 G1 (fun k hk e => by have := own_from O0 (Nat.le_refl _) k hk; cases e; omega)
  clear C0 O0 G1 hc
  go_wp2
  go_loopw [5, 6] (fun o ii wr => ∃ (ts : List SingleV) (I : Int), ii = .int .i64 I ∧ 0 ≤ I ∧ (ts.length : Int) + I ≤ 1 + x ∧ GoodT ls ts ∧ wr.ownsRow w.heap.size 31 2 o ts.length (flatSingles ts) ∧ Cur wr cb a cap zs ∧ w.grownBy wr (some cb)) (fun _ ii _ => (intOf ii).toNat)
  case atStart => exact ⟨[], 1 + x, rfl, by omega, by simp, ⟨(fun y hy => by simp at hy), (fun y hy => by simp at hy)⟩, O1, C1, GW1⟩
  case round =>
    obtain ⟨ts, I, rfl, I0, hLI, hgood, O, C, G⟩ := hrel
    clear O1 C1 GW1
    obtain ⟨go, co, rfl⟩ := own_form O
    by_cases hI : 0 < I
    · have hI5 : I ≤ 4 := by omega
      have ht4 : ts.length ≤ 4 := by omega
      replace hLI := hide hLI
      go_wp2_with fail
      refine (cbelow cb cap a zs (2 * (ls.length : Int) - 1) _ C hl (by omega) (by omega)).mono ?_
      rintro e w3 ⟨y, rfl, y0, y1, C3, G3⟩
      have O3 := own_far O G3 (fun k hk e => by have := own_from O (Nat.le_refl _) k hk; cases e; omega)
      have GW3 := gtrans G G3
      clear O C G G3
      go_wp2_with fail
      refine (cbelow cb cap a zs (ls.length : Int) _ C3 hl (by omega) (by omega)).mono ?_
      rintro e w4 ⟨z, rfl, z0, z1, C4, G4⟩
      have O4 := own_far O3 G4 (fun k hk e => by have := own_from O3 (Nat.le_refl _) k hk; cases e; omega)
      have GW4 := gtrans GW3 G4
      clear O3 C3 GW3 G4
      have hsz4 := GW4.size
      have hA := balloc w4 (.cells #[.int .i64 0, .int .i64 (2 * (ls.length : Int) - 2), .int .i64 (2 * z)] 3)
      have hx4 : Ints (w4.alloc (.cells #[.int .i64 0, .int .i64 (2 * (ls.length : Int) - 2), .int .i64 (2 * z)] 3)) (some ⟨w4.heap.size, 0, none⟩) [0, 2 * (ls.length : Int) - 2, 2 * z] := by
        refine .inr ⟨_, 0, rfl, fun j hj => ?_⟩
        match j, hj with
        | 0, _ => simp [go_sem]
        | 1, _ => simp [go_sem]
        | 2, _ => simp [go_sem]
      have CP := cPick cb cap a zs (some ⟨w4.heap.size, 0, none⟩) 3 _ _ (C4.below hA) hl hx4 (fun q hq => by cases hq; show w4.heap.size ≠ cb; omega) (by simp) (by simp)
      have O5 := own_keep O4 hA
      have GW5 := gbelow GW4 hA
      clear hx4 O4 GW4
      go_wp2_with fail
      refine CP.mono ?_
      rintro e w6 ⟨g, rfl, hg, C6, G6⟩
      have O6 := own_far O5 G6 (fun k hk e => by have := own_from O5 (Nat.le_refl _) k hk; cases e; omega)
      have GW6 := gtrans GW5 G6
      have hg2 : 0 ≤ g ∧ g ≤ 2 * (ls.length : Int) - 2 ∧ g.tmod 2 = 0 := by
        have h : g = 0 ∨ g = 2 * (ls.length : Int) - 2 ∨ g = 2 * z := by simpa using hg
        have h0 : 0 ≤ g := by omega
        rw [Int.tmod_eq_emod_of_nonneg h0]
        omega
      have h1 : oneOk ls ⟨y, g⟩ = true := by
        simp only [oneOk, spotB, Bool.and_eq_true, decide_eq_true_eq]
        exact ⟨⟨inB_yes y0 (by omega), inB_yes hg2.1 hg2.2.1⟩, hg2.2.2⟩
      have happ := hide (fun h2 => hgood.app h1 h2)
      replace hgood := hide hgood
      have CA := fun w' (h : Below w6.heap.size w6 w') => cAtS go co ts y w' ((Singles.own O6).below h) (by omega)
      have CF := fun w' (h : Below w6.heap.size w6 w') => cFitsS b lc ls y w' ((hz.off GW6 hbc).below h) (by omega) y0 (by omega)
      have hA7 := balloc w6 (.cells #[.int .i64 y, .int .i64 g] 31)
      have hsz6 := GW6.size
      dsimp only at happ
      generalize ((atN ts y : Nat) : Int) = CC at *
      generalize fits ls y = FF at *
      clear CP O5 GW5 G6 hg hg2 h1 hA C4
      go_wp2
      go_quiet (first | (go_at_call 54; refine Calls.quiet_of_same (CA _ (bdraw hA7 _))) | (go_at_call 55; refine Calls.quiet_of_same (CF _ (bdraw hA7 _))))
      by_cases hq : CC < FF
      · have hG := hide (happ.out hq)
        clear happ hgood CA CF
        go_wp2_with (at_builtin; refine wpList_append_own _ rfl _ _ 25 rfl w.heap.size 31 i0 (.agg #[.int .i64 0, .int .i64 0]) 2 16 Try.underlying25 hi hz0 hz1 hz2 rfl (by decide) _ _ _ rfl ((own_keep O6 (bdraw hA7 _)).alloc _) _ 1 1 [.int .i64 y, .int .i64 g] rfl rfl ?c1 ?c2 ?c3 ?c4 ?c5 ?_)
        case c1 => exact new_two' _ _ _ _ _ (by simp)
        case c2 => intro u hu; simp at hu; rcases hu with rfl | rfl <;> rfl
        case c3 => unfold maxLen; omega
        case c4 => omega
        case c5 => simp; omega
        intro v' w9 hown' hgrow _
        have hfrom := own_from O6 (Nat.le_refl _)
        have GW9 : w.grownBy w9 (some cb) := grown_far (gbelow GW6 (btrans (bdraw hA7 _) (balloc _ _))) hgrow hfrom
        have C9 := Cur.grow (C6.below (btrans (bdraw hA7 _) (balloc _ _))) hB hgrow hfrom
        have O9 : w9.ownsRow w.heap.size 31 2 v' (ts ++ [(⟨y, g⟩ : SingleV)]).length (flatSingles (ts ++ [⟨y, g⟩])) := by
          rw [flatSingles_app, List.length_append]; exact hown'
        clear O6 C6 GW6 hown' hgrow hfrom hA7
        go_wp2
        go_roundw
        case rel => exact ⟨_, I - 1, by go_num, by omega, by have := hLI.out; simp; omega, hG.out, O9, C9, GW9⟩
        case measure => simp [intOf]; omega
      · clear happ CA CF
        go_wp2
        go_roundw
        case rel => exact ⟨ts, I - 1, by go_num, by omega, by have := hLI.out; omega, hgood.out, own_keep O6 (bdraw hA7 _), C6.below (bdraw hA7 _), gbelow GW6 (bdraw hA7 _)⟩
        case measure => simp [intOf]; omega
    · obtain rfl : I = 0 := by omega
      have hs := hgood.ok hok (by omega)
      clear hgood
      go_wp2
      go_ret
      exact ⟨_, rfl, ts, hs, O, C, G⟩

set_option maxHeartbeats 1600000 in
theorem cDrawRS (a : Option Addr) (cap : Nat) (zs : List Int) (w : World) (hz : Bytes w a zs) (hl : zs.length ≤ 1048576) :
    Calls Try.prog 13 #[.slice a zs.length cap] w fun e w' => ∃ (la : Option Addr) (lc : Nat) (ls : List Int) (tb : Option Addr) (tc : Nat) (ts : List SingleV), e = .returned (.tuple #[.slice la ls.length lc, .slice tb ts.length tc]) ∧ singlesOk ls ts = true ∧
      w'.ownsRow w.heap.size 3 1 (.slice la ls.length lc) ls.length (ls.map (Value.int .i64)) ∧ w'.ownsRow w.heap.size 31 2 (.slice tb ts.length tc) ts.length (flatSingles ts) ∧ Below w.heap.size w w' := by
  go_enter Try.func13, Try.ntmps13
  go_wp2_with fail
  refine (cnew a cap zs _ hz hl).mono ?_
  rintro e w1 ⟨cb, rfl, hcb, C1, hb1⟩
  go_wp2_with fail
  refine (cDrawLine cb cap a zs _ C1 hl).mono ?_
  rintro e w2 ⟨u, ls, rfl, hok, O2, C2, G2⟩
  obtain ⟨la, lc, rfl⟩ := own_form O2
  have hcl := C1.lt (.inl rfl)
  have hne : ∀ x, la = some x → x.block ≠ cb := fun x hx => by
    subst hx
    have := own_from O2 (Nat.le_refl _) x.block rfl
    omega
  have I2 := Ints.own O2 rfl
  go_wp2_with fail
  refine (cDrawRight cb cap a zs la lc ls _ C2 hl I2 hne hok).mono ?_
  rintro e w3 ⟨v, ts, rfl, hs, O3, C3, G3⟩
  obtain ⟨tb, tc, rfl⟩ := own_form O3
  have O2' := own_far O2 G3 (fun k hk e => by have := own_from O2 (Nat.le_refl _) k hk; cases e; omega)
  have HB : Below w.heap.size w w3 := (hb1.grown G2 hb1.size (fun k hk => by cases hk; exact hcb)).grown G3 (Nat.le_trans hb1.size G2.size) (fun k hk => by cases hk; exact hcb)
  have O2b := own_lower O2' hb1.size
  have O3b := own_lower O3 (Nat.le_trans hb1.size G2.size)
  clear O2 O2' O3 C3 G3 C2 G2 C1 hb1 I2 hne
  go_wp2
  go_ret2
  exact ⟨la, lc, ls, tb, tc, ts, rfl, hs, O2b, O3b, HB⟩
end Go.Proofs.Ytggdejceobagcaa
