/- The model's Bare. -/
import Derived.Test.YtpgjllefhlanpaaSC
import Derived.Test.YtpgjllefhlanpaaSQ
namespace Go.Proofs.Ytpgjllefhlanpaa
open Go.RowKit

set_option maxRecDepth 20000 in
set_option maxHeartbeats 6400000 in
theorem cBareS (a b : Option Addr) (ca cb : Nat) (p : PlantV) (w : World) (hP : PlantIn w a b p) (hS : Small p) :
    Calls Try.prog 31 #[plantVal a ca b cb p] w fun e w' => ∃ x' cx' y' cy' z' cz', e = .returned (lockVal x' cx' y' cy' z' cz' (bareL p)) ∧ LockOwn w' w.heap.size w'.heap.size x' cx' y' cy' z' cz' (bareL p) ∧ Below w.heap.size w w' := by
  have CP := fun w hP => cPlantOkS a b ca cb p w hP hS
  have hQ0 : ∀ v, plantOk p = v → Hid (bareL p = bif v then ⟨List.replicate p.under.length 0, List.replicate p.routes.length false, List.replicate p.blocks.toNat false⟩ else ⟨[], [], []⟩) := fun v h => by
    refine hide ?_
    unfold bareL bareOf; rw [h]
  have hR := fun (h : plantOk p = true) => right_of h
  generalize bareL p = L at *
  obtain ⟨U, B, R⟩ := p
  have s1 := hS.under
  have s2 := hS.routes
  unfold plantVal at *
  dsimp only at *
  have HB := below3 w (.cells #[.slice a U.length ca, .int .i64 B, .slice b R.length cb] 27) (.cells #[.slice none 0 0, .slice none 0 0, .slice none 0 0] 33) (.cells #[.slice none 0 0, .slice none 0 0, .slice none 0 0] 33)
  obtain ⟨K0, K1, K2⟩ := three_blocks w (.cells #[.slice a U.length ca, .int .i64 B, .slice b R.length cb] 27) (.cells #[.slice none 0 0, .slice none 0 0, .slice none 0 0] 33) (.cells #[.slice none 0 0, .slice none 0 0, .slice none 0 0] 33)
  go_enter Try.func31, Try.ntmps31
  go_wp2_with fail
  refine (CP _ (hP.below HB)).mono ?_
  rintro e w1 ⟨rfl, hb⟩
  replace K0 := blk_keep hb K0
  replace K1 := blk_keep hb K1
  replace K2 := blk_keep hb K2
  replace HB := btrans HB hb
  clear hb CP
  have hw1 := lt_of_block K2
  cases hok : plantOk ⟨U, B, R⟩
  · have hQ := hide (show L = ⟨[], [], []⟩ from (hQ0 false hok).out)
    obtain ⟨⟨z0, z1, z2⟩, y0, y1, y2⟩ := blk3 K1
    obtain ⟨⟨z3, z4, z5⟩, -⟩ := blk3 K2
    replace hok := hide hok
    clear hQ0 hR
    have mB := below_set (o := 2) (v := .slice none 0 0) (b := w.heap.size + 1) (by omega) (below_set (o := 1) (v := .slice none 0 0) (b := w.heap.size + 1) (by omega) (below_set (o := 0) (v := .slice none 0 0) (b := w.heap.size + 1) (by omega) HB))
    go_wp2_with fail
    refine bodyPost_ret (v := .agg #[.slice none 0 0, .slice none 0 0, .slice none 0 0]) (by simp [results, Try.results31, go_sem, z0, z1, z2]) rfl ⟨none, 0, none, 0, none, 0, by rw [hQ.out]; rfl, by rw [hQ.out]; exact ⟨.inl ⟨rfl, _, _, rfl⟩, .inl ⟨rfl, _, _, rfl⟩, .inl ⟨rfl, _, _, rfl⟩, (fun h => absurd rfl h), (fun h => absurd rfl h), (fun h => absurd rfl h)⟩, mB⟩
  have hRt := hR hok
  obtain ⟨b1, b24⟩ : 1 ≤ B ∧ B ≤ 24 := ⟨hRt.b1, hRt.b24⟩
  have hQ := hide (show L = ⟨List.replicate U.length 0, List.replicate R.length false, List.replicate B.toNat false⟩ from (hQ0 true hok).out)
  replace hok := hide hok
  clear hQ0 hR hRt
  obtain ⟨Bn, rfl⟩ := Int.eq_ofNat_of_zero_le (show 0 ≤ B by omega)
  rw [show ((Bn : Int)).toNat = Bn from rfl] at hQ
  obtain ⟨i0, hi, hz0, hz1, hz2⟩ := info_parts2 infoInts
  obtain ⟨i0', hi', hz0', hz1', hz2'⟩ := info_parts2 infoBools
  go_wp2
  go_loopw [4] (fun i wr => ∃ (k : Nat) (a0 : Option Addr) (c0 : Nat), k ≤ U.length ∧ i = .int .i64 k ∧ wr.ownsRow w1.heap.size 3 1 (.slice a0 k c0) k (List.replicate k (.int .i64 0)) ∧ Below w.heap.size w wr ∧ w1.heap.size ≤ wr.heap.size ∧ wr.heap[w.heap.size]? = some (.cells #[.slice a U.length ca, .int .i64 (Bn : Int), .slice b R.length cb] 27 (0, 0)) ∧ wr.heap[w.heap.size + 1]? = some (.cells #[.slice none 0 0, .slice none 0 0, .slice none 0 0] 33 (0, 0)) ∧ wr.heap[w.heap.size + 1 + 1]? = some (.cells #[.slice a0 k c0, .slice none 0 0, .slice none 0 0] 33 (0, 0))) (fun i _ => U.length - (intOf i).toNat)
  case atStart => exact ⟨0, none, 0, Nat.zero_le _, rfl, by simpa using World.ownsRow_nil _ _ _ _, HB, Nat.le_refl _, K0, K1, K2⟩
  case round =>
    obtain ⟨k, a0, c0, hk, rfl, o0, hb, hsz, k0, k1, k2⟩ := hrel
    clear K0 K1 K2 HB
    obtain ⟨⟨u0, u1, u2⟩, -⟩ := blk3 k0
    obtain ⟨⟨x0, x1, x2⟩, f0, f1, f2⟩ := blk3 k2
    by_cases hlt : k < U.length
    · have hlt' : (k : Int) < (U.length : Int) := by omega
      have hfrom := own_from o0 (Nat.le_refl _)
      have hba := balloc wr (.cells #[.int .i64 0] 3)
      go_wp2_with (at_builtin; refine wpList_append_own _ rfl _ _ 24 rfl w1.heap.size 3 i0 (.int .i64 0) 1 8 Try.underlying24 hi hz0 hz1 hz2 rfl (by decide) _ _ _ rfl (o0.alloc _) ⟨wr.heap.size, 0, none⟩ 1 1 [.int .i64 0] rfl rfl ?c1 ?c2 ?c3 ?c4 ?c5 ?_)
      case c1 =>
        intro j u hj
        match j, hj with
        | 0, hj => simp at hj; subst hj; simp [Addr.add]
      case c2 => intro u hu; simp at hu; subst hu; rfl
      case c3 => unfold maxLen; omega
      case c4 => omega
      case c5 => simp; omega
      intro v' w5 hown' hgrow _
      have hO := hown'
      rw [← List.replicate_succ'] at hO
      obtain ⟨a9, c9, rfl⟩ := own_form hO
      have hbw := btrans hb hba
      have HB2 : Below w.heap.size w w5 := hbw.grown hgrow hbw.size (fun j e => by have := hfrom j e; omega)
      have HB3 := below_set (o := 0) (v := .slice a9 (k + 1) c9) (b := w.heap.size + 1 + 1) (by omega) HB2
      have hnb : ∀ j, (Value.slice a0 k c0).ownBlock = some j → w1.heap.size ≤ j := fun j e => hfrom j e
      have g2 := blk_grown hgrow (blk_keep hba k2) (fun j hj => by have := hnb j hj; omega)
      have kk0 := blk_other (i := 0) (v := .slice a9 (k + 1) c9) (b := w.heap.size + 1 + 1) (blk_grown hgrow (blk_keep hba k0) (fun j hj => by have := hnb j hj; omega)) (by omega)
      have kk1 := blk_other (i := 0) (v := .slice a9 (k + 1) c9) (b := w.heap.size + 1 + 1) (blk_grown hgrow (blk_keep hba k1) (fun j hj => by have := hnb j hj; omega)) (by omega)
      have kk2 := blk_set (i := 0) (v := .slice a9 (k + 1) c9) g2
      simp only [List.setIfInBounds_toArray, List.set_cons_zero] at kk2
      have oo := own_set (b := w.heap.size + 1 + 1) (i := 0) (u := .slice a9 (k + 1) c9) hO (fun j hj => by have := own_from hO (Nat.le_refl _) j hj; omega)
      have ss : w1.heap.size ≤ (w5.setCell ⟨w.heap.size + 1 + 1, 0, none⟩ (.slice a9 (k + 1) c9)).heap.size := by
        have h2 : wr.heap.size + 1 ≤ w5.heap.size := Nat.le_trans (Nat.le_of_eq (sz1 wr _).symm) hgrow.size
        simp only [World.size_setCell]; omega
      obtain ⟨⟨y0, y1, y2⟩, g3, g4, g5⟩ := blk3 g2
      clear hown' hgrow hba hbw HB2 hnb k0 k1 k2 o0 hb hO g2 x0 x1 x2 f0 f1 f2
      go_wp2
      go_roundw
      case rel => exact ⟨k + 1, a9, c9, by omega, by go_num, oo, HB3, ss, kk0, kk1, kk2⟩
      case measure => simp [intOf]; omega
    obtain rfl : k = U.length := by omega
    have m0 := own_blk_lt o0
    go_wp2
    clear u0 u1 u2 x0 x1 x2 f0 f1 f2
    obtain ⟨v1, hwo⟩ : ∃ wo, wo = wr := ⟨wr, rfl⟩
    rw [← hwo] at hb k0 k1 k2 o0 m0 hsz
    rw [← hwo]
    clear hwo
    have K0 := k0
    have K1 := k1
    have K2 := k2
    have HB := hb
    have Q0 := o0
    have hs0 : w1.heap.size ≤ v1.heap.size := hsz
    clear k0 k1 k2 hb o0 hsz hk
    go_loopw [5] (fun i wr => ∃ (k : Nat) (a1 : Option Addr) (c1 : Nat), k ≤ R.length ∧ i = .int .i64 k ∧ wr.ownsRow v1.heap.size 4 1 (.slice a1 k c1) k (List.replicate k (.bool false)) ∧ Below w.heap.size w wr ∧ v1.heap.size ≤ wr.heap.size ∧ wr.heap[w.heap.size]? = some (.cells #[.slice a U.length ca, .int .i64 (Bn : Int), .slice b R.length cb] 27 (0, 0)) ∧ wr.heap[w.heap.size + 1]? = some (.cells #[.slice none 0 0, .slice none 0 0, .slice none 0 0] 33 (0, 0)) ∧ wr.heap[w.heap.size + 1 + 1]? = some (.cells #[.slice a0 U.length c0, .slice a1 k c1, .slice none 0 0] 33 (0, 0)) ∧ wr.ownsRow w1.heap.size 3 1 (.slice a0 U.length c0) U.length (List.replicate U.length (.int .i64 0))) (fun i _ => R.length - (intOf i).toNat)
    case atStart => exact ⟨0, none, 0, Nat.zero_le _, rfl, by simpa using World.ownsRow_nil _ _ _ _, HB, Nat.le_refl _, K0, K1, K2, Q0⟩
    case round =>
      obtain ⟨k, a1, c1, hk, rfl, o1, hb, hsz, k0, k1, k2, q0⟩ := hrel
      clear K0 K1 K2 HB Q0
      obtain ⟨⟨u0, u1, u2⟩, -⟩ := blk3 k0
      obtain ⟨⟨x0, x1, x2⟩, f0, f1, f2⟩ := blk3 k2
      by_cases hlt : k < R.length
      · have hlt' : (k : Int) < (R.length : Int) := by omega
        have hfrom := own_from o1 (Nat.le_refl _)
        have hba := balloc wr (.cells #[.bool false] 4)
        go_wp2_with (at_builtin; refine wpList_append_own _ rfl _ _ 31 rfl v1.heap.size 4 i0' (.bool false) 1 1 Try.underlying31 hi' hz0' hz1' hz2' rfl (by decide) _ _ _ rfl (o1.alloc _) ⟨wr.heap.size, 0, none⟩ 1 1 [.bool false] rfl rfl ?c1 ?c2 ?c3 ?c4 ?c5 ?_)
        case c1 =>
          intro j u hj
          match j, hj with
          | 0, hj => simp at hj; subst hj; simp [Addr.add]
        case c2 => intro u hu; simp at hu; subst hu; rfl
        case c3 => unfold maxLen; omega
        case c4 => omega
        case c5 => simp; omega
        intro v' w5 hown' hgrow _
        have hO := hown'
        rw [← List.replicate_succ'] at hO
        obtain ⟨a9, c9, rfl⟩ := own_form hO
        have hbw := btrans hb hba
        have HB2 : Below w.heap.size w w5 := hbw.grown hgrow hbw.size (fun j e => by have := hfrom j e; omega)
        have HB3 := below_set (o := 1) (v := .slice a9 (k + 1) c9) (b := w.heap.size + 1 + 1) (by omega) HB2
        have hnb : ∀ j, (Value.slice a1 k c1).ownBlock = some j → v1.heap.size ≤ j := fun j e => hfrom j e
        have g2 := blk_grown hgrow (blk_keep hba k2) (fun j hj => by have := hnb j hj; omega)
        have kk0 := blk_other (i := 1) (v := .slice a9 (k + 1) c9) (b := w.heap.size + 1 + 1) (blk_grown hgrow (blk_keep hba k0) (fun j hj => by have := hnb j hj; omega)) (by omega)
        have kk1 := blk_other (i := 1) (v := .slice a9 (k + 1) c9) (b := w.heap.size + 1 + 1) (blk_grown hgrow (blk_keep hba k1) (fun j hj => by have := hnb j hj; omega)) (by omega)
        have kk2 := blk_set (i := 1) (v := .slice a9 (k + 1) c9) g2
        simp only [List.setIfInBounds_toArray, List.set_cons_zero, List.set_cons_succ] at kk2
        have oo := own_set (b := w.heap.size + 1 + 1) (i := 1) (u := .slice a9 (k + 1) c9) hO (fun j hj => by have := own_from hO (Nat.le_refl _) j hj; omega)
        have oo0 := own_set (b := w.heap.size + 1 + 1) (i := 1) (u := .slice a9 (k + 1) c9) (own_grown (q0.alloc (.cells #[.bool false] 4)) hgrow (fun i hi e => by have := hnb i e; have := m0 i hi; omega)) (fun i hi => by have := own_from q0 (Nat.le_refl _) i hi; omega)
        have ss : v1.heap.size ≤ (w5.setCell ⟨w.heap.size + 1 + 1, 1, none⟩ (.slice a9 (k + 1) c9)).heap.size := by
          have h2 : wr.heap.size + 1 ≤ w5.heap.size := Nat.le_trans (Nat.le_of_eq (sz1 wr _).symm) hgrow.size
          simp only [World.size_setCell]; omega
        obtain ⟨⟨y0, y1, y2⟩, g3, g4, g5⟩ := blk3 g2
        clear hown' hgrow hba hbw HB2 hnb k0 k1 k2 o1 hb hO g2 x0 x1 x2 f0 f1 f2 q0
        go_wp2
        go_roundw
        case rel => exact ⟨k + 1, a9, c9, by omega, by go_num, oo, HB3, ss, kk0, kk1, kk2, oo0⟩
        case measure => simp [intOf]; omega
      obtain rfl : k = R.length := by omega
      have m1 := own_blk_lt o1
      go_wp2
      clear u0 u1 u2 x0 x1 x2 f0 f1 f2
      obtain ⟨v2, hwo⟩ : ∃ wo, wo = wr := ⟨wr, rfl⟩
      rw [← hwo] at hb k0 k1 k2 o1 m1 hsz q0
      rw [← hwo]
      clear hwo
      have K0 := k0
      have K1 := k1
      have K2 := k2
      have HB := hb
      have Q1 := o1
      have Q0 := q0
      have hs1 : v1.heap.size ≤ v2.heap.size := hsz
      clear k0 k1 k2 hb o1 hsz q0 hk
      go_loopw [6] (fun i wr => ∃ (k : Nat) (a2 : Option Addr) (c2 : Nat), k ≤ Bn ∧ i = .int .i64 k ∧ wr.ownsRow v2.heap.size 4 1 (.slice a2 k c2) k (List.replicate k (.bool false)) ∧ Below w.heap.size w wr ∧ v2.heap.size ≤ wr.heap.size ∧ wr.heap[w.heap.size]? = some (.cells #[.slice a U.length ca, .int .i64 (Bn : Int), .slice b R.length cb] 27 (0, 0)) ∧ wr.heap[w.heap.size + 1]? = some (.cells #[.slice none 0 0, .slice none 0 0, .slice none 0 0] 33 (0, 0)) ∧ wr.heap[w.heap.size + 1 + 1]? = some (.cells #[.slice a0 U.length c0, .slice a1 R.length c1, .slice a2 k c2] 33 (0, 0)) ∧ wr.ownsRow w1.heap.size 3 1 (.slice a0 U.length c0) U.length (List.replicate U.length (.int .i64 0)) ∧ wr.ownsRow v1.heap.size 4 1 (.slice a1 R.length c1) R.length (List.replicate R.length (.bool false))) (fun i _ => Bn - (intOf i).toNat)
      case atStart => exact ⟨0, none, 0, Nat.zero_le _, rfl, by simpa using World.ownsRow_nil _ _ _ _, HB, Nat.le_refl _, K0, K1, K2, Q0, Q1⟩
      case round =>
        obtain ⟨k, a2, c2, hk, rfl, o2, hb, hsz, k0, k1, k2, q0, q1⟩ := hrel
        clear K0 K1 K2 HB Q0 Q1
        obtain ⟨⟨u0, u1, u2⟩, -⟩ := blk3 k0
        obtain ⟨⟨x0, x1, x2⟩, f0, f1, f2⟩ := blk3 k2
        by_cases hlt : k < Bn
        · have hlt' : (k : Int) < (Bn : Int) := by omega
          have hfrom := own_from o2 (Nat.le_refl _)
          have hba := balloc wr (.cells #[.bool false] 4)
          go_wp2_with (at_builtin; refine wpList_append_own _ rfl _ _ 31 rfl v2.heap.size 4 i0' (.bool false) 1 1 Try.underlying31 hi' hz0' hz1' hz2' rfl (by decide) _ _ _ rfl (o2.alloc _) ⟨wr.heap.size, 0, none⟩ 1 1 [.bool false] rfl rfl ?c1 ?c2 ?c3 ?c4 ?c5 ?_)
          case c1 =>
            intro j u hj
            match j, hj with
            | 0, hj => simp at hj; subst hj; simp [Addr.add]
          case c2 => intro u hu; simp at hu; subst hu; rfl
          case c3 => unfold maxLen; omega
          case c4 => omega
          case c5 => simp; omega
          intro v' w5 hown' hgrow _
          have hO := hown'
          rw [← List.replicate_succ'] at hO
          obtain ⟨a9, c9, rfl⟩ := own_form hO
          have hbw := btrans hb hba
          have HB2 : Below w.heap.size w w5 := hbw.grown hgrow hbw.size (fun j e => by have := hfrom j e; omega)
          have HB3 := below_set (o := 2) (v := .slice a9 (k + 1) c9) (b := w.heap.size + 1 + 1) (by omega) HB2
          have hnb : ∀ j, (Value.slice a2 k c2).ownBlock = some j → v2.heap.size ≤ j := fun j e => hfrom j e
          have g2 := blk_grown hgrow (blk_keep hba k2) (fun j hj => by have := hnb j hj; omega)
          have kk0 := blk_other (i := 2) (v := .slice a9 (k + 1) c9) (b := w.heap.size + 1 + 1) (blk_grown hgrow (blk_keep hba k0) (fun j hj => by have := hnb j hj; omega)) (by omega)
          have kk1 := blk_other (i := 2) (v := .slice a9 (k + 1) c9) (b := w.heap.size + 1 + 1) (blk_grown hgrow (blk_keep hba k1) (fun j hj => by have := hnb j hj; omega)) (by omega)
          have kk2 := blk_set (i := 2) (v := .slice a9 (k + 1) c9) g2
          simp only [List.setIfInBounds_toArray, List.set_cons_zero, List.set_cons_succ] at kk2
          have oo := own_set (b := w.heap.size + 1 + 1) (i := 2) (u := .slice a9 (k + 1) c9) hO (fun j hj => by have := own_from hO (Nat.le_refl _) j hj; omega)
          have oo0 := own_set (b := w.heap.size + 1 + 1) (i := 2) (u := .slice a9 (k + 1) c9) (own_grown (q0.alloc (.cells #[.bool false] 4)) hgrow (fun i hi e => by have := hnb i e; have := m0 i hi; omega)) (fun i hi => by have := own_from q0 (Nat.le_refl _) i hi; omega)
          have oo1 := own_set (b := w.heap.size + 1 + 1) (i := 2) (u := .slice a9 (k + 1) c9) (own_grown (q1.alloc (.cells #[.bool false] 4)) hgrow (fun i hi e => by have := hnb i e; have := m1 i hi; omega)) (fun i hi => by have := own_from q1 (Nat.le_refl _) i hi; omega)
          have ss : v2.heap.size ≤ (w5.setCell ⟨w.heap.size + 1 + 1, 2, none⟩ (.slice a9 (k + 1) c9)).heap.size := by
            have h2 : wr.heap.size + 1 ≤ w5.heap.size := Nat.le_trans (Nat.le_of_eq (sz1 wr _).symm) hgrow.size
            simp only [World.size_setCell]; omega
          obtain ⟨⟨y0, y1, y2⟩, g3, g4, g5⟩ := blk3 g2
          clear hown' hgrow hba hbw HB2 hnb k0 k1 k2 o2 hb hO g2 x0 x1 x2 f0 f1 f2 q0 q1
          go_wp2
          go_roundw
          case rel => exact ⟨k + 1, a9, c9, by omega, by go_num, oo, HB3, ss, kk0, kk1, kk2, oo0, oo1⟩
          case measure => simp [intOf]; omega
        obtain rfl : Bn = k := by omega
        have m2 := own_blk_lt o2
        obtain ⟨⟨r0, r1, r2⟩, j0, j1, j2⟩ := blk3 k1
        have hK2 := lt_of_block k2
        have O3 := own3 (l := ⟨List.replicate U.length 0, List.replicate R.length false, List.replicate Bn false⟩) (by simpa using q0) (by simpa using q1) (by simpa using o2) (by simp) (by simp) (by simp) m0 m1 m2 hs0 hs1 hsz
        have mO := ((O3.setFar (g := w.heap.size + 1) (i := 0) (u := .slice a0 U.length c0) (by omega)).setFar (g := w.heap.size + 1) (i := 1) (u := .slice a1 R.length c1) (by omega)).setFar (g := w.heap.size + 1) (i := 2) (u := .slice a2 Bn c2) (by omega)
        have mB := below_set (o := 2) (v := .slice a2 Bn c2) (b := w.heap.size + 1) (by omega) (below_set (o := 1) (v := .slice a1 R.length c1) (b := w.heap.size + 1) (by omega) (below_set (o := 0) (v := .slice a0 U.length c0) (b := w.heap.size + 1) (by omega) hb))
        clear o2 q0 q1 O3 k0 k1 k2 hb
        go_wp2_with fail
        refine bodyPost_ret (v := .agg #[.slice a0 U.length c0, .slice a1 R.length c1, .slice a2 Bn c2]) (by simp [results, Try.results31, go_sem, r0, r1, r2]) rfl ⟨a0, c0, a1, c1, a2, c2, by rw [hQ.out]; simp [lockVal], ?_, mB⟩
        rw [hQ.out]
        exact mO.wider (by omega) (by simp)
end Go.Proofs.Ytpgjllefhlanpaa
