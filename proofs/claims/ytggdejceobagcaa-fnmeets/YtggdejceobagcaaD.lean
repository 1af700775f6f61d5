/- The program's SinglesOk. -/
import Derived.Test.YtggdejceobagcaaC
namespace Go.Proofs.Ytggdejceobagcaa
open Go.RowKit

/-- The counters behind k trains. -/
def Cnt (w : World) (n : Nat) (ts : List SingleV) (k : Nat) : Prop := ∀ i : Nat, i < 9 → w.cell? ⟨n, i, none⟩ = some (.int .i64 (atN (ts.take k) i)) ∧ w.frozen? ⟨n, i, none⟩ = false
theorem Cnt.below {w w' : World} {n : Nat} {ts : List SingleV} {k : Nat} (h : Cnt w n ts k) (hb : Below w.heap.size w w') : Cnt w' n ts k := by
  intro i hi
  obtain ⟨h1, h2⟩ := h i hi
  exact ⟨ble hb h1, ((bcell hb).2 n i (cell_lt h1)).trans h2⟩
theorem Cnt.step {w : World} {n : Nat} {ts : List SingleV} {k : Nat} (h : Cnt w n ts k) (hk : k < ts.length) (s : Int) (hs : ts[k].s = s) (h0 : 0 ≤ s) (h1 : s < 9) :
    Cnt (w.setCell ⟨n, s.toNat, none⟩ (.int .i64 ((atN (ts.take k) s : Int) + 1))) n ts (k + 1) := by
  intro i hi
  obtain ⟨g1, g2⟩ := h i hi
  obtain ⟨q1, q2⟩ := h s.toNat (by omega)
  refine ⟨?_, by rw [World.frozen?_setCell]; exact g2⟩
  rw [atN_take ts k hk, hs]
  by_cases he : s = (i : Int)
  · subst he
    rw [if_pos rfl]
    have : ((i : Int)).toNat = i := by omega
    rw [this, World.cell?_setCell_same _ _ _ g1]
    simp
  · rw [if_neg he, World.cell?_setCell_other _ _ _ _ (by intro e; rw [Addr.mk.injEq] at e; exact he (by omega))]
    exact g1

set_option maxHeartbeats 1600000 in
theorem cSinglesI (a b : Option Addr) (ca cb : Nat) (ls : List Int) (ts : List SingleV) (w : World) (hz : Ints w a ls) (hl : ls.length ≤ 1048576) (ht : Singles w b ts) (hm : ts.length ≤ 1048576) :
    Calls Try.prog 16 #[.slice a ls.length ca, .slice b ts.length cb] w fun e w' => e = .returned (.bool (singlesOk ls ts)) ∧ Below w.heap.size w w' := by
  cases h1 : lineOk ls
  · have hf := hide (show singlesOk ls ts = false by simp [singlesOk, h1])
    go_enter Try.func16, Try.ntmps16
    go_wp2_with fail
    refine (cLoops a ca ls _ hz hl).mono ?_
    rintro e w1 ⟨rfl, hw⟩
    subst w1
    rw [h1]
    clear h1
    go_wp2
    go_ret
    exact ⟨ret_bool hf.out.symm, Below.refl _ _⟩
  by_cases h2 : 4 < ts.length
  · have hf := hide (show singlesOk ls ts = false by simp only [singlesOk]; rw [show decide (ts.length ≤ 4) = false by simp; omega]; simp)
    have h2' : (4 : Int) < (ts.length : Int) := by omega
    go_enter Try.func16, Try.ntmps16
    go_wp2_with fail
    refine (cLoops a ca ls _ hz hl).mono ?_
    rintro e w1 ⟨rfl, hw⟩
    subst w1
    rw [h1]
    clear h1
    go_wp2
    go_ret
    exact ⟨ret_bool hf.out.symm, Below.refl _ _⟩
  have h2' : ¬ ((4 : Int) < (ts.length : Int)) := by omega
  obtain ⟨hl1, hl2, hl3⟩ := lineOk_parts h1
  have hf := hide (show singlesOk ls ts = ts.all (trainOk ls ts) by simp only [singlesOk, h1, Bool.true_and]; rw [decide_eq_true (by omega), Bool.true_and])
  generalize singlesOk ls ts = res at *
  have hb0 := balloc w (.cells #[.int .i64 0, .int .i64 0, .int .i64 0, .int .i64 0, .int .i64 0, .int .i64 0, .int .i64 0, .int .i64 0, .int .i64 0] 53)
  have hc0 : Cnt (w.alloc (.cells #[.int .i64 0, .int .i64 0, .int .i64 0, .int .i64 0, .int .i64 0, .int .i64 0, .int .i64 0, .int .i64 0, .int .i64 0] 53)) w.heap.size ts 0 := by
    intro i hi
    match i, hi with
    | 0, _ => simp [go_sem, atN]
    | 1, _ => simp [go_sem, atN]
    | 2, _ => simp [go_sem, atN]
    | 3, _ => simp [go_sem, atN]
    | 4, _ => simp [go_sem, atN]
    | 5, _ => simp [go_sem, atN]
    | 6, _ => simp [go_sem, atN]
    | 7, _ => simp [go_sem, atN]
    | 8, _ => simp [go_sem, atN]
  go_enter Try.func16, Try.ntmps16
  go_wp2_with fail
  refine (cLoops a ca ls _ hz hl).mono ?_
  rintro e w1 ⟨rfl, hw⟩
  subst w1
  rw [h1]
  clear h1 hl1
  go_wp2
  go_loopw [18] (fun i wr => ∃ k : Nat, k ≤ ts.length ∧ i = .int .i64 k ∧ (∀ t ∈ ts.take k, oneOk ls t = true) ∧ (∀ j, j < k → upTo ls ts j = true) ∧ Cnt wr w.heap.size ts k ∧ Below w.heap.size w wr) (fun i _ => ts.length - (intOf i).toNat)
  case atStart => exact ⟨0, Nat.zero_le _, rfl, by simp, fun j h => by omega, hc0, hb0⟩
  case round =>
    obtain ⟨k, hk, rfl, hone, hup, hc, hb⟩ := hrel
    clear hc0 hb0
    by_cases hlt : k < ts.length
    · rcases ht with h | ⟨nb, off, rfl, hcl⟩
      · simp [h] at hlt
      obtain ⟨q0, q1⟩ := hcl k hlt
      replace q0 := ble hb q0
      replace q1 := ble hb q1
      rw [getD_lt hlt] at q0 q1
      have hbad := bad_one ls ts k hlt
      have hbad2 := bad_upTo ls ts k hlt
      have hget := getD_lt hlt
      have hcs := fun (w' : World) (hc' : Cnt w' w.heap.size ts k) => hc'.step hlt ts[k].s rfl
      have hatk := atN_take ts k hlt
      have hle := atN_le (ts.take k)
      have hone2 : oneOk ls ts[k] = true → ∀ t ∈ ts.take (k + 1), oneOk ls t = true := by
        intro h t ht
        rw [List.take_succ_eq_append_getElem hlt, List.mem_append] at ht
        rcases ht with ht | ht
        · exact hone t ht
        · simp at ht; rw [ht]; exact h
      unfold upTo at hbad2 hup
      rw [hget] at hbad2
      have hupk : ∀ j, j < k + 1 → (j = k → upTo ls ts k = true) → upTo ls ts j = true := by
        intro j hj h
        by_cases e : j = k
        · rw [e]; exact h e
        · exact hup j (by omega)
      have hupe : upTo ls ts k = decide ((atN (ts.take (k + 1)) ts[k].s : Int) ≤ fits ls ts[k].s) := by unfold upTo; rw [hget]
      have hlk : (ts.take k).length ≤ 4 := by simp; omega
      generalize ts[k] = E at *
      obtain ⟨s, d⟩ := E
      dsimp only at *
      have hb1 := btrans hb (balloc wr (.cells #[.int .i64 s, .int .i64 d] 31))
      have hcA := hc.below (balloc wr (.cells #[.int .i64 s, .int .i64 d] 31))
      have E1 : oneOk ls ⟨s, d⟩ = (spotB ls s && spotB ls d && decide (d.tmod 2 = 0)) := rfl
      have hsz : w.heap.size < wr.heap.size := cell_lt (hc 0 (by omega)).1
      replace hbad := hide hbad
      replace hbad2 := hide hbad2
      replace E1 := hide E1
      replace hupe := hide hupe
      replace hatk := hide (hatk s)
      replace hle := Nat.le_trans (hle s) hlk
      clear hget hcl
      go_wp2_with fail
      refine (cHas a ca ls s _ hl).mono ?_
      rintro e w1 ⟨rfl, hw⟩
      subst w1
      cases g1 : spotB ls s
      · have hr := hide (show res = false by rw [hf.out]; exact hbad.out (by rw [E1.out, g1]; rfl))
        clear g1 hcs hone hone2 hup hupk
        go_wp2
        go_ret
        exact ⟨ret_bool hr.out.symm, hb1⟩
      go_wp2_with fail
      refine (cHas a ca ls d _ hl).mono ?_
      rintro e w1 ⟨rfl, hw⟩
      subst w1
      cases g2 : spotB ls d
      · have hr := hide (show res = false by rw [hf.out]; exact hbad.out (by rw [E1.out, g2]; simp))
        clear g2 hcs hone hone2 hup hupk
        go_wp2
        go_ret
        exact ⟨ret_bool hr.out.symm, hb1⟩
      go_wp2_with fail
      refine (cSect d _).mono ?_
      rintro e w1 ⟨rfl, hw⟩
      subst w1
      by_cases g3 : d.tmod 2 = 0
      rotate_left
      · have hr := hide (show res = false by rw [hf.out]; exact hbad.out (by rw [E1.out]; simp [g3]))
        rw [show (!decide (d.tmod 2 = 0)) = true by simp [g3]]
        clear g3 hcs hone hone2 hup hupk
        go_wp2
        go_ret
        exact ⟨ret_bool hr.out.symm, hb1⟩
      rw [show (!decide (d.tmod 2 = 0)) = false by simp [g3]]
      have hO := hone2 (by rw [E1.out, g1, g2, g3]; rfl)
      have hs0 := inB_true g1
      obtain ⟨hs0, hs1⟩ := hs0
      have hs9 : s < 9 := by omega
      obtain ⟨c1, c2⟩ := hc s.toNat (by omega)
      have hsn : ((s.toNat : Nat) : Int) = s := by omega
      rw [hsn] at c1
      have hC2 := (hcs _ hc hs0 hs9).below (balloc _ (.cells #[.int .i64 s, .int .i64 d] 31))
      have hA2 : ((atN (ts.take (k + 1)) s : Nat) : Int) = (atN (ts.take k) s : Int) + 1 := by rw [hatk.out]; simp
      replace hA2 := hide hA2
      replace hsn := hide hsn
      have hC0 : (0 : Int) ≤ (atN (ts.take k) s : Int) := by omega
      have hC4 : ((atN (ts.take k) s : Nat) : Int) ≤ 4 := by omega
      clear hle
      generalize ((atN (ts.take k) s : Nat) : Int) = C at *
      have hB2 := btrans (below_set (o := s.toNat) (v := .int .i64 (C + 1)) (Nat.le_refl _) hb) (balloc _ (.cells #[.int .i64 s, .int .i64 d] 31))
      clear hc hcA hcs hone hone2 hatk g1 g2 g3 q0 q1 hbad hb hb1
      go_wp2
      have k1 : ((wr.setCell ⟨w.heap.size, s.toNat, none⟩ (.int .i64 (C + 1))).alloc (.cells #[.int .i64 s, .int .i64 d] 31)).cell? ⟨wr.heap.size, 0, none⟩ = some (.int .i64 s) := by
        simp [go_sem]
      have k2 := ble (balloc _ (.cells #[.int .i64 s, .int .i64 d] 31)) (World.cell?_setCell_same wr ⟨w.heap.size, s.toNat, none⟩ (.int .i64 (C + 1)) c1)
      clear c1 c2
      generalize ((wr.setCell ⟨w.heap.size, s.toNat, none⟩ (.int .i64 (C + 1))).alloc (.cells #[.int .i64 s, .int .i64 d] 31)) = W2 at *
      go_quiet (first | (go_at_call 44; refine Calls.quiet_of_same (cRoom a ca ls s _ (hz.below (bdraw hB2 _)) hl hs0 hs1)))
      have hup2 := hupe.out
      rw [hA2.out] at hup2 hbad2
      generalize hF : fits ls s = F at *
      by_cases hq : F < C + 1
      · have hr := hide (show res = false by rw [hf.out]; exact hbad2.out (by simp; omega))
        clear hup2 hupk hbad2 hup
        go_wp2
        go_ret
        exact ⟨ret_bool hr.out.symm, bdraw hB2 _⟩
      · have hU : ∀ j, j < k + 1 → upTo ls ts j = true := fun j hj => hupk j hj (fun _ => by rw [hup2]; simp; omega)
        clear hup2 hupk hbad2 hup
        go_wp2
        go_roundw
        case rel => exact ⟨k + 1, by omega, by go_num, hO, hU, hC2.below (bdraw (Below.refl _ _) _), bdraw hB2 _⟩
        case measure => simp [intOf]; omega
    · obtain rfl : k = ts.length := by omega
      have hr := hide (show res = true by rw [hf.out]; refine all_upTo ls ts (by simpa using hone) hup)
      clear ht
      go_wp2
      go_ret
      exact ⟨ret_bool hr.out.symm, hb⟩
end Go.Proofs.Ytggdejceobagcaa
