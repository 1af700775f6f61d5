/- The best first ticket: bestTickets of the program. -/
import Derived.Test.YtepdnaahhkkdeaaMB
import Derived.Test.YtepdnaahhkkdeaaSK
import Derived.Deep.RegionHeld3
import Derived.Deep.CutRange
namespace Go.Proofs.Ytepdnaahhkkdeaa
open Go.RowKit
def cO (R : List TkV) (j : Nat) : Int := (R.getD j TkV.zero).c
def kO (R : List TkV) (j : Nat) : Int := (R.getD j TkV.zero).k
def nO (R : List TkV) (j : Nat) : Nat := (R.getD j TkV.zero).n.toNat
theorem keepB {w w' : World} {b : Nat} {o : Obj} (hb : Below w.heap.size w w') (h : w.heap[b]? = some o) : w'.heap[b]? = some o := (hb.block b (lt_of_block h)).trans h
theorem one_block (w : World) (o : Obj) : (w.alloc o).heap[w.heap.size]? = some o := by
  show (w.heap.push o)[w.heap.size]? = _
  rw [Array.getElem?_push, if_pos rfl]
theorem threeC {w : World} {b : Nat} {c0 c1 c2 : Value} {t : TypeId} (h : w.heap[b]? = some (.cells #[c0, c1, c2] t (0, 0))) :
    (w.cell? ⟨b, 0, none⟩ = some c0 ∧ w.cell? ⟨b, 1, none⟩ = some c1 ∧ w.cell? ⟨b, 2, none⟩ = some c2) ∧ w.frozen? ⟨b, 0, none⟩ = false ∧ w.frozen? ⟨b, 1, none⟩ = false ∧ w.frozen? ⟨b, 2, none⟩ = false :=
  ⟨⟨Go.Joins.cell_of_block h 0, Go.Joins.cell_of_block h 1, Go.Joins.cell_of_block h 2⟩, Go.Joins.unfrozen_of_block h 0, Go.Joins.unfrozen_of_block h 1, Go.Joins.unfrozen_of_block h 2⟩
/-- A block of three cells. -/
def Tb (w : World) (g : Nat) (c k n : Int) : Prop := w.heap[g]? = some (.cells #[.int .i64 c, .int .i64 k, .int .i64 n] 72 (0, 0))
theorem Tb.below {w w1 : World} {g : Nat} {c k n : Int} (h : Tb w g c k n) (hb : Below w.heap.size w w1) : Tb w1 g c k n := keepB hb h
theorem Tb.other {w : World} {g b i : Nat} {c k n : Int} {v : Value} (h : Tb w g c k n) (hne : g ≠ b) : Tb (w.setCell ⟨b, i, none⟩ v) g c k n := blk_other h hne
theorem Tb.lt {w : World} {g : Nat} {c k n : Int} (h : Tb w g c k n) : g < w.heap.size := lt_of_block h
theorem Tb.set {w : World} {g : Nat} {c k n c' k' n' : Int} (h : Tb w g c k n) : Tb (((w.setCell ⟨g, 0, none⟩ (.int .i64 c')).setCell ⟨g, 1, none⟩ (.int .i64 k')).setCell ⟨g, 2, none⟩ (.int .i64 n')) g c' k' n' := by
  have h1 := blk_set (i := 0) (v := .int .i64 c') h
  have h2 := blk_set (i := 1) (v := .int .i64 k') h1
  have h3 := blk_set (i := 2) (v := .int .i64 n') h2
  exact h3
/-- A ticket that was put together in a block of its own. -/
def GotT (W : World) (c k n : Int) (cv : Value) (wc : World) : Prop := ∃ q, cv = .pointer (some ⟨q, 0, none⟩) ∧ Tb wc q c k n ∧ W.heap.size ≤ q ∧ Below W.heap.size W wc
theorem gotT1 {w w1 : World} (hB : Below w.heap.size w w1) (c k n : Int) : GotT w c k n (.pointer (some ⟨w1.heap.size, 0, none⟩)) (w1.alloc (.cells #[.int .i64 c, .int .i64 k, .int .i64 n] 72)) :=
  ⟨_, rfl, one_block _ _, hB.size, btrans hB (balloc _ _)⟩
theorem gotT2 {w w1 : World} {x0 x1 x2 : Int} (hB : Below w.heap.size w w1) (K : w1.heap[w.heap.size]? = some (.cells #[.int .i64 x0, .int .i64 x1, .int .i64 x2] 72 (0, 0))) (c k n : Int) :
    GotT w c k n (.pointer (some ⟨w.heap.size, 0, none⟩)) (((w1.setCell ⟨w.heap.size, 0, none⟩ (.int .i64 c)).setCell ⟨w.heap.size, 1, none⟩ (.int .i64 k)).setCell ⟨w.heap.size, 2, none⟩ (.int .i64 n)) :=
  ⟨_, rfl, Tb.set (show Tb w1 w.heap.size x0 x1 x2 from K), Nat.le_refl _, below_set (Nat.le_refl _) (below_set (Nat.le_refl _) (below_set (Nat.le_refl _) hB))⟩
/-- What stands ahead of place j. -/
def BI (p : Nat → Nat → Int) (R : List TkV) (i : Nat) (w wr : World) (j : Nat) : Prop :=
  ∃ (c k : Int) (m : Nat), Tb wr w.heap.size 0 0 0 ∧ Tb wr (w.heap.size + 1) c k m ∧ Below w.heap.size w wr ∧ ((j = i + 1 ∧ c = 0 ∧ k = 0 ∧ m = 0) ∨ Fd p (cO R) (kO R) i j c k m)

set_option maxRecDepth 20000 in
set_option maxHeartbeats 6400000 in
theorem cBest (tb zb pb cb mb i n e : Nat) (p : Nat → Nat → Int) (R : List TkV) (a : Option Addr) (cap : Nat) (w : World) (hR : Tks w a R) (hn : R.length = n) (hne : n = e + 1) (hi : i < e) (h20 : n ≤ 20) (hB : Bst p e (cO R) (kO R) (nO R) (i + 1)) (hp : Prc p e)
    (CT : ∀ w' (j : Nat), Below w.heap.size w w' → i < j → j < n → Calls Try.prog 59 #[.int .i64 j, .pointer (some ⟨tb, 0, none⟩), .pointer (some ⟨zb, 0, none⟩), .pointer (some ⟨pb, 0, none⟩), .pointer (some ⟨cb, 0, none⟩), .pointer (some ⟨mb, 0, none⟩)] w' fun e w2 => e = .returned (.int .i64 (p i j)) ∧ Below w'.heap.size w' w2) :
    Calls Try.prog 58 #[.int .i64 i, .slice a R.length cap, .func (.func 59) #[] #[.pointer (some ⟨tb, 0, none⟩), .pointer (some ⟨zb, 0, none⟩), .pointer (some ⟨pb, 0, none⟩), .pointer (some ⟨cb, 0, none⟩), .pointer (some ⟨mb, 0, none⟩)]] w fun e w' => ∃ (c k : Int) (m : Nat), e = .returned (.agg #[.int .i64 c, .int .i64 k, .int .i64 (m : Int)]) ∧ Fd p (cO R) (kO R) i n c k m ∧ Below w.heap.size w w' := by
  subst hn
  have hne1 : R.length ≤ e + 1 := by omega
  have hne2 : e + 1 ≤ R.length := by omega
  clear hne
  have W0 := balloc w (.cells #[.int .i64 0, .int .i64 0, .int .i64 0] 72)
  have T0 : Tb (w.alloc (.cells #[.int .i64 0, .int .i64 0, .int .i64 0] 72)) w.heap.size 0 0 0 := one_block _ _
  have W1 := balloc (w.alloc (.cells #[.int .i64 0, .int .i64 0, .int .i64 0] 72)) (.cells #[.int .i64 0, .int .i64 0, .int .i64 0] 72)
  have T1 : Tb ((w.alloc (.cells #[.int .i64 0, .int .i64 0, .int .i64 0] 72)).alloc (.cells #[.int .i64 0, .int .i64 0, .int .i64 0] 72)) (w.heap.size + 1) 0 0 0 := by
    have h := one_block (w.alloc (.cells #[.int .i64 0, .int .i64 0, .int .i64 0] 72)) (.cells #[.int .i64 0, .int .i64 0, .int .i64 0] 72)
    rwa [sz1] at h
  have T0' := T0.below W1
  have WB := btrans W0 W1
  clear W0 W1 T0
  go_enter Try.func58, Try.ntmps58
  go_wp2
  go_loopw [8, 9, 10] (fun jv _ _ wr => ∃ j : Nat, i < j ∧ j ≤ R.length ∧ jv = .int .i64 j ∧ BI p R i w wr j) (fun jv _ _ _ => R.length - (intOf jv).toNat)
  case atStart => exact ⟨i + 1, by omega, by omega, by go_num, 0, 0, 0, T0', T1, WB, .inl ⟨rfl, rfl, rfl, rfl⟩⟩
  case round =>
    clear T0' T1 WB
    obtain ⟨j, hij, hjn, rfl, c, k, m, Z, F, hb, hF⟩ := hrel
    by_cases hlt : j < R.length
    · have hcell : ∃ b off, a = some ⟨b, off, none⟩ ∧ wr.cell? ⟨b, off + j * 3, none⟩ = some (.int .i64 (cO R j)) ∧ wr.cell? ⟨b, off + j * 3 + 1, none⟩ = some (.int .i64 (kO R j)) ∧ wr.cell? ⟨b, off + j * 3 + 2, none⟩ = some (.int .i64 (R.getD j TkV.zero).n) := by
        rcases hR with h | ⟨b, off, ha, hc⟩
        · simp [h] at hlt
        · obtain ⟨q0, q1, q2⟩ := hc j hlt
          exact ⟨b, off, ha, ble hb q0, ble hb q1, ble hb q2⟩
      obtain ⟨b, off, rfl, q0, q1, q2⟩ := hcell
      have hbd := hB.bounds hp (e - j) j (by omega) (by omega)
      have hpj := hp i j (by omega) (by omega)
      have hk1 : (j = i + 1 ∧ c = 0 ∧ k = 0 ∧ m = 0) ∨ (0 < k ∧ Hid (Fd p (cO R) (kO R) i j c k m)) := by
        rcases hF with h | h
        · exact .inl h
        · refine .inr ⟨?_, hide h⟩
          have := hB.bounds hp (e - m) m (by have := h.2.1; omega) (by have := h.1; omega)
          have := h.2.2.2.1
          omega
      have hbal := balloc wr (.cells #[.int .i64 (cO R j), .int .i64 (kO R j), .int .i64 (R.getD j TkV.zero).n] 72)
      have LB : Tb (wr.alloc (.cells #[.int .i64 (cO R j), .int .i64 (kO R j), .int .i64 (R.getD j TkV.zero).n] 72)) wr.heap.size (cO R j) (kO R j) (R.getD j TkV.zero).n := one_block _ _
      have hT := hide (fun (h : Fd p (cO R) (kO R) i j c k m) => h.take)
      have hK := hide (fun (h : Fd p (cO R) (kO R) i j c k m) => h.keep)
      have hS : Hid (j = i + 1 → Fd p (cO R) (kO R) i (j + 1) (p i j + cO R j) (1 + kO R j) j) := hide (by rintro rfl; exact Fd.first)
      have hb1 := btrans hb hbal
      have Z1 := Z.below hbal
      have F1 := F.below hbal
      have CP := fun w' (h : Below w.heap.size w w') => CT w' j h hij hlt
      generalize hC : cO R j = C at *
      generalize hKj : kO R j = K at *
      generalize p i j = P at *
      generalize (R.getD j TkV.zero).n = NN at *
      replace hC := hide hC
      replace hKj := hide hKj
      clear hF hR
      have v1 : IntKind.i64.wrap (P + C) = P + C := wrap_in _ (by omega) (by omega)
      have v2 : IntKind.i64.wrap (1 + K) = 1 + K := wrap_in _ (by omega) (by omega)
      have hbs := cell_lt q0
      go_upto_region 6 with fail
      generalize hw1 : wr.alloc (.cells #[.int .i64 C, .int .i64 K, .int .i64 NN] 72) = w1 at *
      have hgl := LB.lt
      clear hw1 hb q0 q1 q2 hbs hbal Z F
      generalize wr.heap.size = gl at *
      have CQ := fun w' (h : Below w1.heap.size w1 w') => CP w' (btrans hb1 h)
      obtain ⟨⟨z0, z1, z2⟩, -⟩ := threeC LB
      have h0 : Below w1.heap.size w1 w1.drew := (Below.refl _ _).drew
      go_cut [10] from 13 to 58 (fun cv wc => GotT w1 (P + C) (1 + K) j cv wc)
      case first =>
        have d1 := fun (w2 : World) (o1 : Obj) (h : Below (w1.alloc o1).drew.heap.size (w1.alloc o1).drew w2) => keepB h (one_block w1 o1)
        have hne1 : w1.heap.size ≠ gl := Nat.ne_of_gt hgl
        have hne2 : gl ≠ w1.heap.size := Nat.ne_of_lt hgl
        go_region_held3 (fun w' => w'.cell? ⟨gl, 0, none⟩ = some (.int .i64 C) ∧ w'.cell? ⟨gl, 1, none⟩ = some (.int .i64 K)) (go_keep) (first | (go_at_call 59; first
          | (with_reducible refine (CQ _ h0).mono ?_; rintro e w2 ⟨rfl, hb2⟩; have hB2 := btrans h0 hb2; have u0 := ble hB2 z0; have u1 := ble hB2 z1; have nn1 := Nat.ne_of_gt (cell_lt u0); have nn2 := Nat.ne_of_lt (cell_lt u0))
          | (with_reducible refine (CQ _ (balloc _ _).drew).mono ?_; rintro e w2 ⟨rfl, hb2⟩; have hB2 := btrans (balloc _ _).drew hb2; have K1 := d1 _ _ hb2; obtain ⟨⟨k0, k1, k2⟩, f0, f1, f2⟩ := threeC K1; have zz := lt_of_block K1; have u0 := ble hB2 z0; have u1 := ble hB2 z1)))
        all_goals go_wp2_with fail
        all_goals go_meet
        all_goals first
          | (with_reducible exact gotT1 hB2 _ _ _)
          | (with_reducible exact gotT2 hB2 K1 _ _ _)
      case rest =>
      obtain ⟨q, rfl, Q, hq, hb2⟩ := hcut
      have Z2 := Z1.below hb2
      have F2 := F1.below hb2
      have hb3 := btrans hb1 hb2
      have hF1 := F1.lt
      clear z0 z1 z2 h0 LB CP CQ Z1 F1 hb1
      have nq : q ≠ w.heap.size + 1 := by omega
      have nq2 : w.heap.size + 1 ≠ q := by omega
      obtain ⟨⟨s0, s1, s2⟩, -⟩ := threeC Q
      obtain ⟨⟨y0, y1, y2⟩, g0, g1, g2⟩ := threeC F2
      have fin : Tb (((wc.setCell ⟨w.heap.size + 1, 0, none⟩ (.int .i64 (P + C))).setCell ⟨w.heap.size + 1, 1, none⟩ (.int .i64 (1 + K))).setCell ⟨w.heap.size + 1, 2, none⟩ (.int .i64 j)) (w.heap.size + 1) (P + C) (1 + K) j := F2.set
      have finZ : Tb (((wc.setCell ⟨w.heap.size + 1, 0, none⟩ (.int .i64 (P + C))).setCell ⟨w.heap.size + 1, 1, none⟩ (.int .i64 (1 + K))).setCell ⟨w.heap.size + 1, 2, none⟩ (.int .i64 j)) w.heap.size 0 0 0 := ((Z2.other (by omega)).other (by omega)).other (by omega)
      have finB : Below w.heap.size w (((wc.setCell ⟨w.heap.size + 1, 0, none⟩ (.int .i64 (P + C))).setCell ⟨w.heap.size + 1, 1, none⟩ (.int .i64 (1 + K))).setCell ⟨w.heap.size + 1, 2, none⟩ (.int .i64 j)) := below_set (by omega) (below_set (by omega) (below_set (by omega) hb3))
      rcases hk1 with ⟨hj1, rfl, rfl, rfl⟩ | ⟨hk0, hFd⟩
      · have FF := hide (show Fd p (cO R) (kO R) i (j + 1) (P + C) (1 + K) j from hS.out hj1)
        replace hj1 := hide hj1
        clear hT hK hS
        go_wp2
        go_roundw
        case rel => exact ⟨j + 1, by omega, by omega, by go_num, _, _, _, finZ, fin, finB, .inr FF.out⟩
        case measure => simp [intOf]; omega
      have hk0' : ¬ k = 0 := by omega
      by_cases c1 : P + C < c
      · have FF := hide (hT.out hFd.out (.inl c1))
        clear hT hK hS
        go_wp2
        go_roundw
        case rel => exact ⟨j + 1, by omega, by omega, by go_num, _, _, _, finZ, fin, finB, .inr FF.out⟩
        case measure => simp [intOf]; omega
      by_cases c2 : P + C = c
      · by_cases c3 : 1 + K < k
        · have FF := hide (hT.out hFd.out (.inr ⟨c2, c3⟩))
          clear hT hK hS
          subst c2
          go_wp2
          go_roundw
          case rel => exact ⟨j + 1, by omega, by omega, by go_num, _, _, _, finZ, fin, finB, .inr FF.out⟩
          case measure => simp [intOf]; omega
        · have FF := hide (hK.out hFd.out (fun h => by omega))
          clear hT hK hS
          subst c2
          clear fin finZ finB
          go_wp2
          go_roundw
          case rel => exact ⟨j + 1, by omega, by omega, by go_num, _, _, _, Z2, F2, hb3, .inr FF.out⟩
          case measure => simp [intOf]; omega
      · have FF := hide (hK.out hFd.out (fun h => by omega))
        clear hT hK hS
        clear fin finZ finB
        go_wp2
        go_roundw
        case rel => exact ⟨j + 1, by omega, by omega, by go_num, _, _, _, Z2, F2, hb3, .inr FF.out⟩
        case measure => simp [intOf]; omega
    · obtain rfl : j = R.length := by omega
      have FF : Hid (Fd p (cO R) (kO R) i R.length c k m) := by
        rcases hF with h | h
        · omega
        · exact hide h
      clear hF hR
      obtain ⟨⟨y0, y1, y2⟩, g0, g1, g2⟩ := threeC F
      obtain ⟨⟨s0, s1, s2⟩, r0, r1, r2⟩ := threeC Z
      go_wp2
      refine bodyPost_ret (v := .agg #[.int .i64 c, .int .i64 k, .int .i64 (m : Int)]) (by simp [results, Try.results58, go_sem, s0, s1, s2]) rfl ⟨_, _, _, rfl, FF.out, ?_⟩
      exact below_set (by omega) (below_set (by omega) (below_set (by omega) hb))
end Go.Proofs.Ytepdnaahhkkdeaa
