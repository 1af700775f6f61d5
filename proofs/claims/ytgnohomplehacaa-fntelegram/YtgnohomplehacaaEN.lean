/- Encode of the model and of the program. -/
import Derived.Test.YtgnohomplehacaaMU
import Derived.Test.YtgnohomplehacaaES
import Derived.Test.YtgnohomplehacaaWA
import Derived.Deep.RegionHeld3
import Derived.Deep.Cut
namespace Go.Proofs.Ytgnohomplehacaa
open Go.RowKit
theorem wrap8 (n : Int) (h0 : 0 ≤ n) (h1 : n ≤ 255) : IntKind.u8.wrap n = n := by
  simp [IntKind.wrap, IntKind.bits, IntKind.signed]; omega
theorem head_take {q k : Int} {zs : List Int} {i : Nat} (hi : i < zs.length) : ([q, k, (zs.length : Int)] ++ zs.take i) ++ [zs.getD i 0] = [q, k, (zs.length : Int)] ++ zs.take (i + 1) := by
  rw [List.append_assoc, List.take_succ_eq_append_getElem hi]
  simp [List.getD, hi]
theorem encV_no {t : TelV} (h : okT t = false) : encV t = [] := by unfold encV; rw [h]; rfl
theorem encV_yes {t : TelV} (h : okT t = true) : encV t = encL t := by unfold encV; rw [h]; rfl
theorem own_apartB {w : World} {B e e' sz n b : Nat} {v : Value} {xs : List Value} {cs : Array Value} {f : Nat × Nat} (h : w.ownsRow B e sz v n xs) (hb : w.heap[b]? = some (.cells cs e' f)) (hne : e ≠ e') : ∀ k, v.ownBlock = some k → k ≠ b := by
  intro k hk e1
  subst e1
  rcases h.2 with ⟨rfl, _⟩ | ⟨g, cap, cur, rfl, _, hh, _⟩
  · simp [Value.ownBlock] at hk
  · simp [Value.ownBlock] at hk
    subst hk
    rw [hb] at hh
    simp only [Option.some.injEq, Obj.cells.injEq] at hh
    exact hne hh.2.1.symm
theorem blk_app {w w2 : World} {b : Nat} {v : Value} {o o' : Obj} (hb : w.heap[b]? = some o) (hg : (w.alloc o').grownBy w2 v.ownBlock) (hne : v.ownBlock ≠ some b) : w2.heap[b]? = some o := by
  have h1 : (w.alloc o').heap[b]? = some o := blk_keep (balloc w o') hb
  exact (hg.block b (lt_of_block h1) (fun e => hne e.symm)).trans h1
/-- The model's two loops hold: the box stands, the row grows. -/
structure EnS (w : World) (q k : Int) (a : Option Addr) (n c : Nat) (wr : World) : Prop where
  bel : Below w.heap.size w wr
  box : wr.heap[w.heap.size]? = some (.cells #[.int .i64 q, .int .i64 k, .slice a n c] 25 (0, 0))
theorem EnS.app {w : World} {q k : Int} {a : Option Addr} {n c : Nat} {wr w2 : World} {o : Obj} {v : Value} {m : Nat} {xs : List Value} (h : EnS w q k a n c wr) (ho : wr.ownsRow w.heap.size 5 1 v m xs) (hg : (wr.alloc o).grownBy w2 v.ownBlock) : EnS w q k a n c w2 :=
  ⟨below_app h.bel h.bel.size ho hg, blk_app h.box hg (fun e => own_apartB ho h.box (by decide) _ e rfl)⟩
/-- A row is put behind, another row stands. -/
theorem far_app {w w2 : World} {B' e sz n' : Nat} {v v2 u : Value} {o : Obj} {ys : List Value} (hu : w.ownsRow B' e sz u n' ys) (hg : (w.alloc o).grownBy w2 v.ownBlock) (hw : v2.ownBlock = v.ownBlock ∨ v2.ownBlock = some (w.heap.size + 1)) (hne : ∀ b, u.ownBlock = some b → v.ownBlock ≠ some b) :
    w2.ownsRow B' e sz u n' ys ∧ ∀ b, u.ownBlock = some b → v2.ownBlock ≠ some b := by
  refine ⟨own_far (own_keep hu (balloc w o)) hg (fun k hk e => hne k hk e.symm), fun b hb => ?_⟩
  rcases hw with hw | hw
  · rw [hw]; exact hne b hb
  · rw [hw]; intro e; have := own_blk_lt hu b hb; simp at e; omega
theorem EnS.below {w : World} {q k : Int} {a : Option Addr} {n c : Nat} {wr w2 : World} (h : EnS w q k a n c wr) (hb : Below wr.heap.size wr w2) : EnS w q k a n c w2 := ⟨btrans h.bel hb, blk_keep hb h.box⟩

set_option maxRecDepth 100000 in
set_option maxHeartbeats 6400000 in
theorem cEncS (q k : Int) (a : Option Addr) (c : Nat) (zs : List Int) (w : World) (hz : Bys w a zs) (hy : By zs) (hl : zs.length ≤ 1048576) :
    Calls Try.prog 33 #[.agg #[.int .i64 q, .int .i64 k, .slice a zs.length c]] w fun e w' => ∃ v, e = .returned v ∧ w'.ownsRow w.heap.size 5 1 v (encV ⟨q, k, zs⟩).length (enc8 (encV ⟨q, k, zs⟩)) ∧ Below w.heap.size w w' := by
  have S0 : EnS w q k a zs.length c (w.alloc (.cells #[.int .i64 q, .int .i64 k, .slice a zs.length c] 25)) := ⟨balloc _ _, one_block w _⟩
  have hok : okT ⟨q, k, zs⟩ = telB q k zs.length := rfl
  cases hT : telB q k zs.length
  · have E : Hid (encV ⟨q, k, zs⟩ = []) := hide (encV_no (by rw [hok, hT]))
    clear hok
    go_enter Try.func33, Try.ntmps33
    go_wp2_with fail
    refine (cOkS q k a zs.length c _).mono ?_
    rintro e w1 ⟨rfl, hb⟩
    replace S0 := S0.below hb
    rw [hT]
    clear hb
    go_wp2
    go_ret
    exact ⟨_, rfl, by rw [E.out]; exact World.ownsRow_nil _ _ _ _, S0.bel⟩
  have E : Hid (encV ⟨q, k, zs⟩ = encL ⟨q, k, zs⟩) := hide (encV_yes (by rw [hok, hT]))
  obtain ⟨q0, q1, k0, k1, l60⟩ := okT_parts (hok.trans hT)
  dsimp only at q0 q1 k0 k1 l60
  have hhb := hide (head_by (hok.trans hT) hy)
  have wq := wrap8 q q0 q1
  have wk := wrap8 k k0 (by omega)
  have wl := wrap8 (zs.length : Int) (by omega) (by omega)
  clear hok
  go_enter Try.func33, Try.ntmps33
  go_wp2_with fail
  refine (cOkS q k a zs.length c _).mono ?_
  rintro e w1 ⟨rfl, hb⟩
  replace S0 := S0.below hb
  rw [hT]
  clear hb hT
  obtain ⟨⟨x0, x1, x2⟩, -⟩ := blk3 S0.box
  have R0 : (w1.alloc (.cells #[.int .u8 q, .int .u8 k, .int .u8 (zs.length : Int)] 5)).ownsRow w.heap.size 5 1 (.slice (some ⟨w1.heap.size, 0, none⟩) 3 3) 3 (enc8 ([q, k, (zs.length : Int)] ++ zs.take 0)) := by
    have := World.ownsRow_lit (base := w.heap.size) (e := 5) (size := 1) w1 #[.int .u8 q, .int .u8 k, .int .u8 (zs.length : Int)] 3 S0.bel.size (by unfold maxLen; omega) rfl
    simpa [enc8] using this
  have S1 := S0.below (balloc w1 (.cells #[.int .u8 q, .int .u8 k, .int .u8 (zs.length : Int)] 5))
  clear S0
  go_wp2
  generalize w1.alloc (.cells #[.int .u8 q, .int .u8 k, .int .u8 (zs.length : Int)] 5) = w2 at *
  clear x0 x1 x2
  go_loopw [3, 4] (fun v i wr => ∃ (j n : Nat), j ≤ zs.length ∧ i = .int .i64 j ∧ Hid (n = 3 + j) ∧ n ≤ 100 ∧ wr.ownsRow w.heap.size 5 1 v n (enc8 ([q, k, (zs.length : Int)] ++ zs.take j)) ∧ EnS w q k a zs.length c wr) (fun _ i _ => zs.length - (intOf i).toNat)
  case atStart => exact ⟨0, 3, Nat.zero_le _, rfl, hide rfl, by omega, R0, S1⟩
  case round =>
    obtain ⟨j, n, hj, rfl, hn, hn1, hown, hS⟩ := hrel
    clear R0 S1
    obtain ⟨⟨x0, x1, x2⟩, -⟩ := blk3 hS.box
    by_cases hlt : j < zs.length
    · rcases hz with hz | ⟨b, off, rfl, hcell⟩
      · simp [hz] at hlt
      have hck := ble hS.bel (hcell j hlt)
      have st := hide (head_take (q := q) (k := k) hlt)
      clear hcell
      obtain ⟨v2, w3, hrun, hrow, hgrow, -⟩ := app_one (zs.getD j 0) (by have := hown.1; simp at this; simp; omega) hown (by omega) hS.bel.size
      have S2 := hS.app hown hgrow
      rw [st.out] at hrow
      obtain ⟨va, vc, rfl⟩ := own_form hown
      obtain ⟨va2, vc2, rfl⟩ := own_form hrow
      generalize zs.getD j 0 = z at *
      have hn1' : n + 1 ≤ 100 := by have := hn.out; omega
      clear hown hgrow hS
      go_wp2_with (at_builtin; refine Go.Lib.wpList_append_run _ rfl _ _ _ _ rfl _ _ rfl rfl _ _ hrun ?_)
      go_roundw
      case rel => exact ⟨j + 1, n + 1, by omega, by go_num, hide (by have := hn.out; omega), hn1', hrow, S2⟩
      case measure => simp [intOf]; omega
    · obtain rfl : j = zs.length := by omega
      rw [List.take_length] at hown
      have hH : Hid ([q, k, (zs.length : Int)] ++ zs = headL ⟨q, k, zs⟩) := hide rfl
      rw [hH.out] at hown
      have hlen : (headL ⟨q, k, zs⟩).length = n := by have := hown.1; simp at this; omega
      obtain ⟨cr0, cr1⟩ := crcV_in hhb.out
      have wc := wrap8 _ cr0 cr1
      have hload : Hid (headL ⟨q, k, zs⟩ ++ [crcV (headL ⟨q, k, zs⟩)] = loadL ⟨q, k, zs⟩) := hide rfl
      obtain ⟨va, vc, rfl⟩ := own_form hown
      have CC := cCrcS va vc (headL ⟨q, k, zs⟩) wr (Bys.own hown hlen) hhb.out (by unfold maxLen; omega)
      rw [hlen] at CC
      obtain ⟨v2, w3, hrun, hrow, hgrow, -⟩ := app_one (crcV (headL ⟨q, k, zs⟩)) hlen hown (by omega) hS.bel.size
      have S2 := hS.app hown hgrow
      rw [hload.out] at hrow
      generalize headL ⟨q, k, zs⟩ = HD at *
      generalize crcV HD = CV at *
      replace hlen := hide hlen
      clear hz hown hgrow hS
      go_wp2_with fail
      refine CC.mono ?_
      rintro e w4 ⟨rfl, hw⟩
      subst w4
      obtain ⟨va2, vc2, rfl⟩ := own_form hrow
      go_wp2_with (at_builtin; refine Go.Lib.wpList_append_run _ rfl _ _ _ _ rfl _ _ rfl rfl _ _ hrun ?_)
      clear hrun CC
      have hLl : (loadL ⟨q, k, zs⟩).length = n + 1 := by have := hrow.1; simp at this; omega
      have hEn : Hid (encL ⟨q, k, zs⟩ = 126 :: (esc (loadL ⟨q, k, zs⟩) ++ [126])) := hide rfl
      have R1 : (w3.alloc (.cells #[.int .u8 126] 5)).ownsRow w.heap.size 5 1 (.slice (some ⟨w3.heap.size, 0, none⟩) 1 1) 1 (enc8 (126 :: esc ((loadL ⟨q, k, zs⟩).take 0))) := by
        have := World.ownsRow_lit (base := w.heap.size) (e := 5) (size := 1) w3 #[.int .u8 126] 1 S2.bel.size (by unfold maxLen; omega) rfl
        simpa [enc8, esc] using this
      have RL := own_keep hrow (balloc w3 (.cells #[.int .u8 126] 5))
      have S3 := S2.below (balloc w3 (.cells #[.int .u8 126] 5))
      have hne : ∀ b, (Value.slice va2 (n + 1) vc2).ownBlock = some b → (Value.slice (some ⟨w3.heap.size, 0, none⟩) 1 1).ownBlock ≠ some b := fun b hb e => by have := own_blk_lt hrow b hb; simp [Value.ownBlock] at e; omega
      clear hrow S2
      generalize w3.alloc (.cells #[.int .u8 126] 5) = w5 at *
      generalize w3.heap.size = G at *
      generalize loadL ⟨q, k, zs⟩ = LD at *
      have hN : n + 1 ≤ 200 := by omega
      generalize n + 1 = N at *
      replace hLl := hide hLl
      go_wp2
      go_loopw [5, 6] (fun v i wr => ∃ (j m : Nat), j ≤ N ∧ i = .int .i64 j ∧ Hid (m = (126 :: esc (LD.take j)).length) ∧ m ≤ 1000 ∧ wr.ownsRow w.heap.size 5 1 v m (enc8 (126 :: esc (LD.take j))) ∧ wr.ownsRow w.heap.size 5 1 (.slice va2 N vc2) N (enc8 LD) ∧ (∀ b, (Value.slice va2 N vc2).ownBlock = some b → v.ownBlock ≠ some b) ∧ Below w.heap.size w wr) (fun _ i _ => N - (intOf i).toNat)
      case atStart => exact ⟨0, 1, Nat.zero_le _, rfl, hide (by simp [esc]), by omega, R1, RL, hne, S3.bel⟩
      case round =>
        obtain ⟨j, m, hj, rfl, hm, hm1, hown, hld, hap, hb⟩ := hrel
        clear R1 RL hne S3
        by_cases hlt : j < N
        · have hlt' : j < LD.length := by rw [hLl.out]; exact hlt
          have hby := Bys.own hld hLl.out
          rcases hby with h | ⟨b, off, hva, hcell⟩
          · rw [h] at hlt'; simp at hlt'
          subst hva
          have hck := hcell j hlt'
          have st := hide (esc_take LD hlt')
          have hes := esc_take_len LD (j + 1) (by omega)
          rw [hLl.out] at hes
          clear hcell
          generalize hZ : LD.getD j 0 = z at *
          replace hZ := hide hZ
          cases hmu : mustB z
          · have hz1 : ¬ z = 125 ∧ ¬ z = 126 := by simp [mustB] at hmu; exact ⟨hmu.2, hmu.1⟩
            have hz5 : (z == 125) = false := by simp [hz1.1]
            have hz6 : (z == 126) = false := by simp [hz1.2]
            clear hz1
            have E2 : Hid (esc (LD.take (j + 1)) = esc (LD.take j) ++ [z]) := hide (by rw [st.out, escB, hmu]; rfl)
            obtain ⟨v2, w6, hrun, hrow, hgrow, hwh⟩ := app_one z hm.out.symm hown (by omega) hb.size
            obtain ⟨hld2, hap2⟩ := far_app hld hgrow hwh hap
            have hb2 := below_app hb hb.size hown hgrow
            have hm2 : Hid (m + 1 = (126 :: esc (LD.take (j + 1))).length) := hide (by rw [E2.out]; have := hm.out; simp at this ⊢; omega)
            have hm3 : m + 1 ≤ 1000 := by have := hm2.out; simp at this; omega
            obtain ⟨va, vc, rfl⟩ := own_form hown
            obtain ⟨va3, vc3, rfl⟩ := own_form hrow
            clear hown hld hgrow hap hb hwh hmu hes
            go_wp2_with (at_builtin; refine Go.Lib.wpList_append_run _ rfl _ _ _ _ rfl _ _ rfl rfl _ _ hrun ?_)
            go_roundw
            case rel => exact ⟨j + 1, m + 1, by omega, by go_num, hm2, hm3, by rw [E2.out]; exact hrow, hld2, hap2, hb2⟩
            case measure => simp [intOf]; omega
          · have hz1 : z = 126 ∨ z = 125 := by simpa [mustB] using hmu
            clear hmu
            rcases hz1 with hz1 | hz1
            · subst hz1
              have E2 : Hid (esc (LD.take (j + 1)) = esc (LD.take j) ++ [125, 94]) := hide (by rw [st.out, escB, if_pos (by rfl), x32_126])
              obtain ⟨v2, w6, hrun, hrow, hgrow, hwh⟩ := app_two 125 94 hm.out.symm hown (by omega) hb.size
              obtain ⟨hld2, hap2⟩ := far_app hld hgrow hwh hap
              have hb2 := below_app hb hb.size hown hgrow
              have hm2 : Hid (m + 2 = (126 :: esc (LD.take (j + 1))).length) := hide (by rw [E2.out]; have := hm.out; simp at this ⊢; omega)
              have hm3 : m + 2 ≤ 1000 := by have := hm2.out; simp at this; omega
              have EX : bits .xor .u8 126 32 = 94 := by rfl
              obtain ⟨va, vc, rfl⟩ := own_form hown
              obtain ⟨va3, vc3, rfl⟩ := own_form hrow
              clear hown hld hgrow hap hb hwh hes
              go_wp2_with (at_builtin; refine Go.Lib.wpList_append_run _ rfl _ _ _ _ rfl _ _ rfl rfl _ _ hrun ?_)
              go_roundw
              case rel => exact ⟨j + 1, m + 2, by omega, by go_num, hm2, hm3, by rw [E2.out]; exact hrow, hld2, hap2, hb2⟩
              case measure => simp [intOf]; omega
            · subst hz1
              have E2 : Hid (esc (LD.take (j + 1)) = esc (LD.take j) ++ [125, 93]) := hide (by rw [st.out, escB, if_pos (by rfl), x32_125])
              obtain ⟨v2, w6, hrun, hrow, hgrow, hwh⟩ := app_two 125 93 hm.out.symm hown (by omega) hb.size
              obtain ⟨hld2, hap2⟩ := far_app hld hgrow hwh hap
              have hb2 := below_app hb hb.size hown hgrow
              have hm2 : Hid (m + 2 = (126 :: esc (LD.take (j + 1))).length) := hide (by rw [E2.out]; have := hm.out; simp at this ⊢; omega)
              have hm3 : m + 2 ≤ 1000 := by have := hm2.out; simp at this; omega
              have EX : bits .xor .u8 125 32 = 93 := by rfl
              obtain ⟨va, vc, rfl⟩ := own_form hown
              obtain ⟨va3, vc3, rfl⟩ := own_form hrow
              clear hown hld hgrow hap hb hwh hes
              go_wp2_with (at_builtin; refine Go.Lib.wpList_append_run _ rfl _ _ _ _ rfl _ _ rfl rfl _ _ hrun ?_)
              go_roundw
              case rel => exact ⟨j + 1, m + 2, by omega, by go_num, hm2, hm3, by rw [E2.out]; exact hrow, hld2, hap2, hb2⟩
              case measure => simp [intOf]; omega
        · obtain rfl : j = N := by omega
          rw [show LD.take j = LD by rw [← hLl.out, List.take_length]] at hown hm
          obtain ⟨v2, w6, hrun, hrow, hgrow, -⟩ := app_one 126 hm.out.symm hown (by omega) hb.size
          have hb2 := below_app hb hb.size hown hgrow
          have hfin : ∃ v, Ending.returned v2 = .returned v ∧ w6.ownsRow w.heap.size 5 1 v (encV ⟨q, k, zs⟩).length (enc8 (encV ⟨q, k, zs⟩)) ∧ Below w.heap.size w w6 := by
            refine ⟨v2, rfl, ?_, hb2⟩
            rw [E.out, hEn.out, show (126 :: (esc LD ++ [126])).length = m + 1 by have := hm.out; simp at this ⊢; omega]
            exact hrow
          obtain ⟨va, vc, rfl⟩ := own_form hown
          clear hown hld hgrow hap hb hrow
          go_wp2_with (at_builtin; refine Go.Lib.wpList_append_run _ rfl _ _ _ _ rfl _ _ rfl rfl _ _ hrun ?_)
          go_ret
          exact hfin
end Go.Proofs.Ytgnohomplehacaa
