/- The model's latest minute. -/
import Derived.Test.YtpfnnpgielnaeaaLT
namespace Go.Proofs.Ytpfnnpgielnaeaa
open Go.RowKit Go.Maps

set_option maxRecDepth 20000 in
set_option maxHeartbeats 3200000 in
theorem cLateS (a : Option Addr) (cap : Nat) (ts : List TripV) (f u by_ ch h : Int) (w : World) (hz : Trips w a ts) (hS : Small ts) :
    Calls Try.prog 37 #[.slice a ts.length cap, .int .i64 f, .int .i64 u, .int .i64 by_, .int .i64 ch, .int .i64 h] w fun e w' => ∃ r, e = .returned (.int .i64 r) ∧ LateAns ts f u by_ ch h r ∧ Below w.heap.size w w' := by
  go_enter Try.func37, Try.ntmps37
  go_wp2_with fail
  refine (cAskS a cap ts f u by_ ch h _ hz hS).mono ?_
  rintro e w1 ⟨r, rfl, hr, hb⟩
  cases r
  · have hF : LateAns ts f u by_ ch h (-1) := .inl ⟨fun q => absurd (hr.2 q) (by decide), rfl⟩
    clear hr
    go_wp2
    go_ret
    exact ⟨_, rfl, hF, hb⟩
  have q := hide (hr.1 rfl)
  clear hr
  obtain ⟨hg, hf, ht, hm, hc, hh⟩ := q.out.parts
  by_cases hfu : f = u
  · subst hfu
    have hF : LateAns ts f f by_ ch h by_ := .inr ⟨q.out, latest_same hm.1⟩
    clear hg
    go_wp2
    go_ret
    exact ⟨_, rfl, hF, hb⟩
  obtain ⟨H, rfl⟩ : ∃ H : Nat, h = H := ⟨h.toNat, by omega⟩
  obtain ⟨T, rfl⟩ : ∃ T : Nat, u = T := ⟨u.toNat, by omega⟩
  have hT : T < 30 := by omega
  have hT' : (T : Int) < 30 := by omega
  have hfew := hg.few
  have hfu' : (f == (T : Int)) = false := by simpa using hfu
  have hend := hide (fun best (k : LatTo ts f T ch by_ H ts.length 0 best) => (show LateAns ts f T by_ ch H best from .inr ⟨q.out, k.done hg hc.1 hfu⟩))
  have hst := LatTo.start ts f T ch by_ H
  go_wp2
  go_loopw [13, 14] (fun bb ii wr => ∃ (i : Nat) (best : Int), i ≤ ts.length ∧ ii = .int .i64 i ∧ bb = .int .i64 best ∧ LatTo ts f T ch by_ H i 0 best ∧ Below w.heap.size w wr) (fun _ ii _ => ts.length - (intOf ii).toNat)
  case atStart => exact ⟨0, -1, Nat.zero_le _, rfl, rfl, hst, hb⟩
  case round =>
    clear hst hb
    obtain ⟨i, best, hil, rfl, rfl, hL, hb⟩ := hrel
    by_cases hlt : i < ts.length
    · have hlt' : (i : Int) < (ts.length : Int) := by omega
      obtain ⟨b, off, na, cn, rfl, -, c2, -, hHl⟩ := hz.at hlt
      have hnc := (hg.len i hlt).2
      have c2' : w.cell? ⟨b, off + i * 2 + 1, none⟩ = some (.slice na (ncA ts i) cn) := c2
      clear c2
      go_wp2
      go_loopw [13, 15] (fun bb kk wr => ∃ (k : Nat) (best : Int), k ≤ ncA ts i ∧ kk = .int .i64 k ∧ bb = .int .i64 best ∧ LatTo ts f T ch by_ H i k best ∧ Below w.heap.size w wr) (fun _ kk _ => ncA ts i - (intOf kk).toNat)
      case atStart => exact ⟨0, best, Nat.zero_le _, rfl, rfl, hL, hb⟩
      case round =>
        clear hL hb
        obtain ⟨k, best, hkl, rfl, rfl, hL, hb⟩ := hrel
        have c3 := ble hb c2'
        by_cases hklt : k < ncA ts i
        · have hklt' : (k : Int) < (ncA ts i : Int) := by omega
          obtain ⟨b2, off2, rfl, q0, q1, q2⟩ := call_cells (hHl.below hb) hklt
          have hrg := hg.rng i k hlt hklt
          have hskip := hide (fun s => hL.skip (i := i) (k := k) s)
          have htake := hide (fun a1 a2 a3 a4 => hL.take (i := i) (k := k) a1 a2 a3 a4)
          generalize hcc : hcA ts i k = c at *
          obtain ⟨cn', ca, cd⟩ := c
          dsimp only at *
          replace hcc := hide hcc
          have hba := balloc wr (.cells #[.int .i64 cn', .int .i64 ca, .int .i64 cd] 82)
          have NB := one_block wr (.cells #[.int .i64 cn', .int .i64 ca, .int .i64 cd] 82)
          have hb2 := btrans hb hba
          by_cases e1 : cn' = f
          rotate_left
          · have hL2 := hskip.out (.inl e1)
            have e1' : ¬ (cn' = f) := e1
            clear hskip htake hL
            go_wp2
            go_roundw
            case rel => exact ⟨k + 1, best, by omega, by go_num, rfl, hL2, hb2⟩
            case measure => simp [intOf]; omega
          subst e1
          by_cases e2 : by_ < cd
          · have hL2 := hskip.out (.inr (.inl e2))
            clear hskip htake hL
            go_wp2
            go_roundw
            case rel => exact ⟨k + 1, best, by omega, by go_num, rfl, hL2, hb2⟩
            case measure => simp [intOf]; omega
          by_cases e3 : cd ≤ best
          · have hL2 := hskip.out (.inr (.inr (.inl e3)))
            clear hskip htake hL
            go_wp2
            go_roundw
            case rel => exact ⟨k + 1, best, by omega, by go_num, rfl, hL2, hb2⟩
            case measure => simp [intOf]; omega
          have CR := cReach (some ⟨b, off, none⟩) cap ts cn' cd ch H _ (hz.below hb2) hg hf.1 hf.2 (by omega) (by omega) hc.1 hc.2 (by omega)
          go_wp2_with fail
          refine CR.mono ?_
          rintro e w2 ⟨v, rfl, L, hLm, ho, hb3⟩
          obtain ⟨g, gc, rfl, -, R30, -⟩ := row30_of ho
          have x0 := R30.cell hT
          have hb4 := btrans hb2 hb3
          obtain ⟨y0, y1, y2⟩ : w2.cell? ⟨wr.heap.size, 0, none⟩ = some (.int .i64 cn') ∧ w2.cell? ⟨wr.heap.size, 1, none⟩ = some (.int .i64 ca) ∧ w2.cell? ⟨wr.heap.size, 2, none⟩ = some (.int .i64 cd) := by
            have K := keep_blk hb3 NB
            exact ⟨cell_of_blk K rfl, cell_of_blk K rfl, cell_of_blk K rfl⟩
          have hin : (L.getD T 0 < 0 ∨ by_ < L.getD T 0) ↔ ¬ InTime ts cn' T ch by_ H cd := soon_intime hg hc.1 (by omega) (hLm.2 T hT)
          generalize L.getD T 0 = z at *
          clear CR ho hLm R30 hb3 NB hba
          by_cases e4 : z < 0
          · have hL2 := hskip.out (.inr (.inr (.inr (hin.1 (.inl e4)))))
            have e4' : ¬ (0 ≤ z) := by omega
            clear hskip htake hL hin
            go_wp2
            go_roundw
            case rel => exact ⟨k + 1, best, by omega, by go_num, rfl, hL2, hb4⟩
            case measure => simp [intOf]; omega
          by_cases e5 : by_ < z
          · have hL2 := hskip.out (.inr (.inr (.inr (hin.1 (.inr e5)))))
            have e4' : 0 ≤ z := by omega
            have e5' : ¬ (z ≤ by_) := by omega
            clear hskip htake hL hin
            go_wp2
            go_roundw
            case rel => exact ⟨k + 1, best, by omega, by go_num, rfl, hL2, hb4⟩
            case measure => simp [intOf]; omega
          · have hL2 := htake.out (by omega) (by omega) (by omega) (Classical.byContradiction fun kk => by have := hin.2 kk; omega)
            have e4' : 0 ≤ z := by omega
            have e5' : z ≤ by_ := by omega
            clear hskip htake hL hin
            go_wp2
            go_roundw
            case rel => exact ⟨k + 1, cd, by omega, by go_num, rfl, hL2, hb4⟩
            case measure => simp [intOf]; omega
        · have hklt' : ¬ (k : Int) < (ncA ts i : Int) := by omega
          have hkk : k = ncA ts i := by omega
          rw [hkk] at hL
          have hL2 := hL.trip
          clear hL hkk
          go_wp2
          go_roundw
          case rel => exact ⟨i + 1, best, by omega, by go_num, rfl, hL2, hb⟩
          case measure => simp [intOf]; omega
    · have hlt' : ¬ (i : Int) < (ts.length : Int) := by omega
      have hii : i = ts.length := by omega
      rw [hii] at hL
      have hF := hend.out _ hL
      clear hL hii hend
      go_wp2
      go_ret
      exact ⟨_, rfl, hF, hb⟩
end Go.Proofs.Ytpfnnpgielnaeaa
