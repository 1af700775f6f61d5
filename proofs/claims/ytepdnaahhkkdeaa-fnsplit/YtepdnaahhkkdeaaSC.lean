/- Split of the program. -/
import Derived.Test.YtepdnaahhkkdeaaSA
import Derived.Test.YtepdnaahhkkdeaaSB
import Derived.Deep.RegionHeld3
import Derived.Maps.AppendAt
namespace Go.Proofs.Ytepdnaahhkkdeaa
open Go.RowKit
/-- What Split answers, and where. -/
def SpPost (b s : Int) (js : List Int) (r : Int) (zs : List Int) (cs : List CardV) (m : Int) (w : World) (e : Ending) (w' : World) : Prop :=
  ∃ (c : Int) (v : Value) (l : List Int), e = .returned (.tuple #[.int .i64 c, v]) ∧ SplitAns b s js r zs cs m c l ∧ w'.ownsRow w.heap.size 3 1 v l.length (l.map (.int .i64)) ∧ Below w.heap.size w w'
theorem tk_at {w : World} {B g n : Nat} {R : List TkV} (O : w.ownsRow B 72 3 (.slice (some ⟨g, 0, none⟩) n n) n (flatTks R)) (hn : R.length = n) {i : Nat} (hi : i < n) :
    (w.cell? ⟨g, i * 3, none⟩ = some (.int .i64 (R.getD i TkV.zero).c) ∧ w.cell? ⟨g, i * 3 + 1, none⟩ = some (.int .i64 (R.getD i TkV.zero).k) ∧ w.cell? ⟨g, i * 3 + 2, none⟩ = some (.int .i64 (R.getD i TkV.zero).n)) ∧
    w.frozen? ⟨g, i * 3, none⟩ = false ∧ w.frozen? ⟨g, i * 3 + 1, none⟩ = false ∧ w.frozen? ⟨g, i * 3 + 2, none⟩ = false := by
  obtain ⟨f0, f1, f2⟩ := flatTks_get R i (by omega)
  exact ⟨⟨by rw [O.cellAt _ (by omega)]; exact f0, by rw [O.cellAt _ (by omega)]; exact f1, by rw [O.cellAt _ (by omega)]; exact f2⟩, O.frozenAt _, O.frozenAt _, O.frozenAt _⟩
theorem tk_set {w : World} {B g n : Nat} {R : List TkV} (O : w.ownsRow B 72 3 (.slice (some ⟨g, 0, none⟩) n n) n (flatTks R)) (hn : R.length = n) {i : Nat} (hi : i < n) (c k m : Int) :
    (((w.setCell ⟨g, i * 3, none⟩ (.int .i64 c)).setCell ⟨g, i * 3 + 1, none⟩ (.int .i64 k)).setCell ⟨g, i * 3 + 2, none⟩ (.int .i64 m)).ownsRow B 72 3 (.slice (some ⟨g, 0, none⟩) n n) n (flatTks (R.set i ⟨c, k, m⟩)) := by
  have O2 := (((O.stored (i * 3) (.int .i64 c)).1.stored (i * 3 + 1) (.int .i64 k)).1.stored (i * 3 + 2) (.int .i64 m)).1
  have hi' : i < R.length := by omega
  have e1 : R = R.take i ++ R[i] :: R.drop (i + 1) := by rw [← List.drop_eq_getElem_cons hi', List.take_append_drop]
  have e2 : R.set i ⟨c, k, m⟩ = R.take i ++ ⟨c, k, m⟩ :: R.drop (i + 1) := by rw [List.set_eq_take_append_cons_drop, if_pos hi']
  have e3 := set_flatTks (R.take i) (R.drop (i + 1)) R[i] c k m i (by simp; omega)
  rw [← e1, ← e2] at e3
  rw [e3] at O2
  exact O2
/-- What stands when the places from q on are done. -/
structure SpI (p : Nat → Nat → Int) (e n : Nat) (w4 wr : World) (g pb q : Nat) (R : List TkV) : Prop where
  row : wr.ownsRow w4.heap.size 72 3 (.slice (some ⟨g, 0, none⟩) n n) n (flatTks R)
  len : R.length = n
  el : n = e + 1
  bst : Bst p e (cO R) (kO R) (nO R) q
  pos : ∀ j, 0 ≤ (R.getD j TkV.zero).n
  pl : wr.heap[pb]? = some (.cells #[.int .i64 ((q : Int) - 1)] 3 (0, 0))
  ne : pb ≠ g
  lo : w4.heap.size ≤ pb
  hb : Below w4.heap.size w4 wr
theorem oneC {w : World} {b : Nat} {c0 : Value} {t : TypeId} (h : w.heap[b]? = some (.cells #[c0] t (0, 0))) : w.cell? ⟨b, 0, none⟩ = some c0 ∧ w.frozen? ⟨b, 0, none⟩ = false :=
  ⟨Go.Joins.cell_of_block h 0, Go.Joins.unfrozen_of_block h 0⟩
theorem getD_set_ne {R : List TkV} {i j : Nat} {x : TkV} (h : i ≠ j) : (R.set i x).getD j TkV.zero = R.getD j TkV.zero := by simp [List.getD, h]
theorem getD_set_eq {R : List TkV} {i : Nat} {x : TkV} (h : i < R.length) : (R.set i x).getD i TkV.zero = x := by simp [List.getD, h]
/-- One place more. -/
theorem SpI.step {p : Nat → Nat → Int} {e n : Nat} {w4 wr w2 w3 : World} {g pb q pb2 : Nat} {R : List TkV} (h : SpI p e n w4 wr g pb (q + 1) R) (hq : q < e) {c k : Int} {m : Nat} (f : Fd p (cO R) (kO R) q n c k m) (hb : Below wr.heap.size wr w2)
    (hb3 : Below (((w2.setCell ⟨g, q * 3, none⟩ (.int .i64 c)).setCell ⟨g, q * 3 + 1, none⟩ (.int .i64 k)).setCell ⟨g, q * 3 + 2, none⟩ (.int .i64 (m : Int))).heap.size (((w2.setCell ⟨g, q * 3, none⟩ (.int .i64 c)).setCell ⟨g, q * 3 + 1, none⟩ (.int .i64 k)).setCell ⟨g, q * 3 + 2, none⟩ (.int .i64 (m : Int))) w3)
    (hp : w3.heap[pb2]? = some (.cells #[.int .i64 ((q : Int) - 1)] 3 (0, 0))) (hn : w2.heap.size ≤ pb2) : SpI p e n w4 w3 g pb2 q (R.set q ⟨c, k, m⟩) := by
  have hel := h.el
  have O2 := own_keep h.row hb
  have hgl := owns_lt O2
  have hg4 : w4.heap.size ≤ g := own_from h.row (Nat.le_refl _) g rfl
  have hb0 := btrans h.hb hb
  refine ⟨own_keep (tk_set O2 h.len (by omega) c k m) hb3, by simp [h.len], hel, ?_, ?_, hp, by omega, ?_, ?_⟩
  · refine h.bst.step hq (fun j h1 h2 => ?_) ?_
    · unfold cO kO nO
      rw [getD_set_ne (by omega)]
      exact ⟨rfl, rfl, rfl⟩
    · have e0 := getD_set_eq (R := R) (i := q) (x := ⟨c, k, m⟩) (by rw [h.len]; omega)
      have e1 : cO (R.set q ⟨c, k, m⟩) q = c := by unfold cO; rw [e0]
      have e2 : kO (R.set q ⟨c, k, m⟩) q = k := by unfold kO; rw [e0]
      have e3 : nO (R.set q ⟨c, k, m⟩) q = m := by unfold nO; rw [e0]; exact Int.toNat_natCast _
      rw [e1, e2, e3, ← hel]
      exact f
  · intro j
    by_cases e1 : q = j
    · subst e1
      rw [getD_set_eq (by rw [h.len]; omega)]
      exact Int.natCast_nonneg _
    · rw [getD_set_ne e1]; exact h.pos j
  · have := hb0.size; omega
  · exact btrans (below_set hg4 (below_set hg4 (below_set hg4 hb0))) hb3
/-- The number in a pointer's block. -/
def meaP (pv : Value) (wr : World) : Nat :=
  match pv with
  | .pointer (some a) =>
    match wr.cell? a with
    | some (.int _ z) => (z + 1).toNat
    | _ => 0
  | _ => 0
theorem SpI.mea {p : Nat → Nat → Int} {e n : Nat} {w4 wr : World} {g pb q : Nat} {R : List TkV} (h : SpI p e n w4 wr g pb q R) : meaP (.pointer (some ⟨pb, 0, none⟩)) wr = q := by
  have := (oneC h.pl).1
  simp only [meaP, this]
  omega
theorem flat_rep (n : Nat) : flatTks (List.replicate n TkV.zero) = List.replicate (n * 3) (Value.int .i64 0) := by
  induction n with
  | zero => rfl
  | succ n ih =>
    rw [List.replicate_succ, flatTks_cons, ih, show (n + 1) * 3 = n * 3 + 1 + 1 + 1 by omega, List.replicate_succ, List.replicate_succ, List.replicate_succ]
    rfl
theorem rep_get (n j : Nat) : (List.replicate n TkV.zero).getD j TkV.zero = TkV.zero := by
  simp only [List.getD, List.getElem?_replicate]
  split <;> rfl
/-- What stands behind t places of the cut. -/
def PlI (N : Nat → Nat) (e n : Nat) (w : World) (W : World) (g : Nat) (R : List TkV) (wr : World) (v u : Value) (t : Nat) : Prop :=
  u = .int .i64 ((it N (t + 1) : Nat) : Int) ∧ (∀ x, x ≤ t → it N x < e) ∧ wr.ownsRow w.heap.size 3 1 v t ((pls N t).map (.int .i64)) ∧ v.ownBlock ≠ some g ∧
    wr.ownsRow W.heap.size 72 3 (.slice (some ⟨g, 0, none⟩) n n) n (flatTks R) ∧ Below w.heap.size w wr

set_option maxRecDepth 20000 in
set_option maxHeartbeats 6400000 in
theorem cSplitI (b s r m : Int) (js : List Int) (a : Option Addr) (c : Nat) (za : Option Addr) (zc : Nat) (zs : List Int) (ca : Option Addr) (cc : Nat) (cs : List CardV) (w : World) (hz : Ints w a js) (hl : js.length ≤ 1048576) (hS : Ints w za zs) (hls : zs.length ≤ 1048576) (hL : Cards w ca cs) (hl2 : cs.length ≤ 1048576) :
    Calls Try.prog 31 #[.agg #[.int .i64 b, .int .i64 s, .slice a js.length c, .int .i64 r], .slice za zs.length zc, .slice ca cs.length cc, .int .i64 m] w (SpPost b s js r zs cs m w) := by
  obtain ⟨i0, hi, hz0, hz1, hz2⟩ := info_parts infoTks
  obtain ⟨i1, hi1, hy0, hy1, hy2⟩ := info_parts infoInts
  have B1 := balloc w (.cells #[.int .i64 b, .int .i64 s, .slice a js.length c, .int .i64 r] 27)
  have X1 := Bx4.new w (.int .i64 b) (.int .i64 s) (.slice a js.length c) (.int .i64 r) 27
  generalize hW1 : w.alloc (.cells #[.int .i64 b, .int .i64 s, .slice a js.length c, .int .i64 r] 27) = w1 at *
  have B2 := balloc w1 (.cells #[.slice za zs.length zc] 22)
  have K1 := one_block w1 (.cells #[.slice za zs.length zc] 22)
  generalize hW2 : w1.alloc (.cells #[.slice za zs.length zc] 22) = w2 at *
  have B3 := balloc w2 (.cells #[.slice ca cs.length cc] 36)
  have K2 := one_block w2 (.cells #[.slice ca cs.length cc] 36)
  generalize hW3 : w2.alloc (.cells #[.slice ca cs.length cc] 36) = w3 at *
  have B4 := balloc w3 (.cells #[.int .i64 m] 3)
  have K3 := one_block w3 (.cells #[.int .i64 m] 3)
  generalize hW4 : w3.alloc (.cells #[.int .i64 m] 3) = w4 at *
  have X4 := ((X1.below B2).below B3).below B4
  have x5 := ble B4 (ble B3 (oneC K1).1)
  have x6 := ble B4 (oneC K2).1
  have x7 := (oneC K3).1
  have HB := btrans (btrans (btrans B1 B2) B3) B4
  have CT := cThroughI b s r m js a c za zc zs ca cc cs w4 (hz.below HB) hl (hS.below HB) hls (hL.below HB) hl2
  clear X1 K1 K2 K3 B1 B2 B3 B4
  obtain ⟨x0, x1, x2, x3⟩ := id X4
  go_enter Try.func31, Try.ntmps31
  go_upto_region 1 with fail
  clear hW1 hW2 hW3 hW4
  generalize w1.heap.size = zb at *
  generalize w2.heap.size = cb at *
  generalize w3.heap.size = mb at *
  by_cases h0 : throughV b s js r zs cs m < 0
  · have RR : Hid (SplitAns b s js r zs cs m (-1) []) := hide (.inl ⟨h0, rfl, rfl⟩)
    generalize throughV b s js r zs cs m = T at *
    go_wp2_with fail
    refine CT.mono ?_
    rintro e w5 ⟨rfl, hb⟩
    replace HB := btrans HB hb
    go_wp2
    go_ret2
    exact ⟨_, _, _, rfl, RR.out, World.ownsRow_nil _ _ _ _, HB⟩
  obtain ⟨t1, t2, t3, t4⟩ := through_ok (by omega : 0 ≤ throughV b s js r zs cs m)
  have sl := stops_len t1
  have hp := prc_in t1 t2 t3 t4
  obtain ⟨e, hE⟩ : ∃ e : Nat, zs.length = e + 1 := ⟨zs.length - 1, by omega⟩
  rw [show zs.length - 1 = e by omega] at hp
  have RR : Hid (∀ c l, SplitA (prc b s js r zs cs m) e c l → SplitAns b s js r zs cs m c l) := hide (fun c l h => .inr ⟨by omega, by rw [show zs.length - 1 = e by omega]; exact h⟩)
  have CK := fun (pb i j : Nat) w' (hb : Below w4.heap.size w4 w') (hpb : w'.cell? ⟨pb, 0, none⟩ = some (.int .i64 i)) (hi : i < e + 1) (hj : j < e + 1) => cTicket w.heap.size zb pb cb mb b s r m js a c za zc zs ca cc cs i j w' (X4.below hb) (ble hb x5) hpb (ble hb x6) (ble hb x7) (hz.below (btrans HB hb)) hl (hS.below (btrans HB hb)) (hL.below (btrans HB hb)) hl2 (by omega) (by omega)
  generalize hpp : prc b s js r zs cs m = p at *
  replace hpp := hide hpp
  generalize throughV b s js r zs cs m = T at *
  clear t1 t2 t3 t4 hS hL hz
  have he20 : e ≤ 19 := by omega
  have he1 : 1 ≤ e := by omega
  replace sl := hide sl
  have HE := hide hE
  have hE1 : zs.length ≤ e + 1 := by omega
  have hE2 : e + 1 ≤ zs.length := by omega
  clear hE hls
  go_wp2_with fail
  refine CT.mono ?_
  rintro e5 w5 ⟨rfl, hb5⟩
  have X5 := X4.below hb5
  have y5 := ble hb5 x5
  have HB5 := btrans HB hb5
  clear x0 x1 x2 x3 CT
  go_wp2_with (at_make; refine wpList_make_full _ rfl _ _ 70 rfl w4.heap.size 72 i0 (.agg #[.int .i64 0, .int .i64 0, .int .i64 0]) 3 Try.underlying70 hi hz0 hz1 _ _ _ _ zs.length rfl rfl rfl rfl (by rw [hz2]; omega) (by unfold maxLen; omega) hb5.size ?_; intro w6 hown hgrow)
  rw [madeTks, ← flat_rep] at hown
  have hb6 : Below w4.heap.size w4 w6 := hb5.grown hgrow hb5.size (fun k hk => by cases hk)
  have HB6 := btrans HB hb6
  have hg := owns_lt hown
  have X6 := X4.below hb6
  have y6 := ble hb6 x5
  clear hgrow hb5 X5 y5 HB5 x6 x7
  have hal := balloc w6 (.cells #[.int .i64 ((zs.length : Int) - 1 - 1)] 3)
  have hal1 := one_block w6 (.cells #[.int .i64 ((zs.length : Int) - 1 - 1)] 3)
  have I0 : SpI p e zs.length w4 (w6.alloc (.cells #[.int .i64 ((zs.length : Int) - 1 - 1)] 3)) w5.heap.size w6.heap.size e (List.replicate zs.length TkV.zero) := by
    refine ⟨own_keep hown hal, by simp, HE.out, ⟨?_, ?_, fun i h1 h2 => absurd h1 (by omega)⟩, fun j => ?_, by rw [show (e : Int) - 1 = (zs.length : Int) - 1 - 1 by omega]; exact hal1, by omega, hb6.size, btrans hb6 hal⟩
    · unfold cO; rw [rep_get]; rfl
    · unfold kO; rw [rep_get]; rfl
    · rw [rep_get]; exact Int.le_refl _
  generalize w5.heap.size = g at *
  clear hown hal hal1 hb6
  go_wp2
  go_loopw [12] (fun pv wr => ∃ (q pb : Nat) (R : List TkV), pv = .pointer (some ⟨pb, 0, none⟩) ∧ q ≤ e ∧ SpI p e zs.length w4 wr g pb q R) (fun pv wr => meaP pv wr)
  case atStart => exact ⟨e, _, _, rfl, Nat.le_refl _, I0⟩
  case round =>
    clear I0
    obtain ⟨q, pb, R, rfl, hqe, I⟩ := hrel
    have hmea := hide I.mea
    cases q with
    | zero =>
      have c0 : wr.cell? ⟨pb, 0, none⟩ = some (.int .i64 (-1)) := by simpa using (oneC I.pl).1
      have hB := I.bst
      have hrow := I.row
      have hlen := hide I.len
      have hgl := owns_lt I.row
      have hbw := btrans HB I.hb
      have hNv := hide (fun j => show (R.getD j TkV.zero).n = ((nO R j : Nat) : Int) by unfold nO; have := I.pos j; omega)
      have hcell := hide (fun (wx : World) (hr : wx.ownsRow w4.heap.size 72 3 (.slice (some ⟨g, 0, none⟩) zs.length zs.length) zs.length (flatTks R)) (j : Nat) (hj : j < zs.length) => show wx.cell? ⟨g, j * 3 + 2, none⟩ = some (.int .i64 ((nO R j : Nat) : Int)) by rw [← hNv.out j]; exact (tk_at hr hlen.out hj).1.2.2)
      have hcost := hide (fun (wx : World) (hr : wx.ownsRow w4.heap.size 72 3 (.slice (some ⟨g, 0, none⟩) zs.length zs.length) zs.length (flatTks R)) => show wx.cell? ⟨g, 0, none⟩ = some (.int .i64 (cO R 0)) by have := (tk_at hr hlen.out (i := 0) (by omega)).1.1; rw [Nat.zero_mul] at this; exact this)
      have hg4 : w.heap.size ≤ g := by have := own_from hrow (Nat.le_refl _) g rfl; have := HB.size; omega
      clear I hmea
      generalize hN : nO R = N at *
      have n0 : wr.cell? ⟨g, 2, none⟩ = some (.int .i64 ((N 0 : Nat) : Int)) := by simpa using hcell.out wr hrow 0 (by omega)
      clear hN hNv
      have hz0' : 0 < zs.length := by omega
      have IT0 : PlI N e zs.length w w4 g R wr (.slice none 0 0) (.int .i64 ((N 0 : Nat) : Int)) 0 :=
        ⟨rfl, fun x hx => by obtain rfl : x = 0 := by omega
                             exact he1, World.ownsRow_nil _ _ _ _, by simp [Value.ownBlock], hrow, hbw⟩
      clear hrow hbw
      go_wp2
      go_loopw [13, 14] (fun v u wx => ∃ t : Nat, PlI N e zs.length w w4 g R wx v u t) (fun _ u _ => e - (intOf u).toNat)
      case atStart => exact ⟨0, IT0⟩
      case round =>
        clear IT0 n0 c0
        obtain ⟨t, rfl, hlt, ho, hng, hrow, hb⟩ := hrel
        obtain ⟨va, vc, rfl⟩ := own_form ho
        have hup := it_up hB (t + 1) (fun x hx => hlt x (by omega))
        have hnx := hide (show it N (t + 1 + 1) = N (it N (t + 1)) from rfl)
        have hps := hide (pls_succ N t)
        have hend := hide (fun (h : it N (t + 1) = e) => (show SplitA p e (cO R 0) (pls N t) from ⟨_, _, N, hB, rfl, t, rfl, hlt, h⟩))
        by_cases hP : it N (t + 1) < e
        · have hlt2 : ∀ x, x ≤ t + 1 → it N x < e := fun x hx => by
            by_cases e1 : x = t + 1
            · rw [e1]; exact hP
            · exact hlt x (by omega)
          have n1 := hcell.out wr hrow (it N (t + 1)) (by omega)
          clear n1
          have hup2 := it_up hB (t + 1 + 1) (fun x hx => hlt2 x (by omega))
          rw [hnx.out] at hup2
          have hfd := (hB.fd (it N (t + 1)) (Nat.zero_le _) hP).1
          generalize hPP : it N (t + 1) = P at *
          have HPP := hide hPP
          clear hPP
          have hP2 : (P : Int) < (zs.length : Int) - 1 := by omega
          have hP3 : P < zs.length := by omega
          have hsz := hb.size
          have hgl2 := owns_lt hrow
          have hvl : ∀ j, (Value.slice va t vc).ownBlock = some j → j < wr.heap.size := own_blk_lt ho
          have ht19 : t + 1 ≤ 19 := by omega
          go_wp2_with (at_builtin; refine wpList_append_own_at _ rfl _ _ 22 rfl w.heap.size 3 i1 (.int .i64 0) 1 8 Try.underlying22 hi1 hy0 hy1 hy2 rfl (by decide) _ _ _ rfl (ho.alloc _) ⟨wr.heap.size, 0, none⟩ 1 1 [.int .i64 (P : Int)] rfl rfl ?c1 ?c2 ?c3 ?c4 ?c5 ?_)
          case c1 =>
            intro j x hj
            match j, hj with
            | 0, hj => simp at hj; subst hj; simp [Addr.add]
          case c2 => intro x hx; simp at hx; subst hx; rfl
          case c3 => unfold maxLen; omega
          case c4 => omega
          case c5 => simp; omega
          intro v5 w9 hown5 hgrow5 _ hloc5
          have hfrom := own_from ho (Nat.le_refl _)
          have hb9 : Below w.heap.size w w9 := (hb.alloc hsz _).grown hgrow5 (by simp; omega) (fun j e => by have := hfrom j e; omega)
          have ho9 : w9.ownsRow w.heap.size 3 1 v5 (t + 1) ((pls N (t + 1)).map (.int .i64)) := by rw [hps.out, List.map_append]; exact hown5
          have hr9 : w9.ownsRow w4.heap.size 72 3 (.slice (some ⟨g, 0, none⟩) zs.length zs.length) zs.length (flatTks R) := own_far (own_keep hrow (balloc wr _)) hgrow5 (fun k hk e => by simp [Value.ownBlock] at hk; subst hk; exact hng e.symm)
          have hng9 : v5.ownBlock ≠ some g := by
            rcases hloc5 with e | e
            · rw [e]; exact hng
            · rw [e]; simp; omega
          have n9 := hcell.out w9 hr9 P hP3
          clear hown5 hgrow5 hloc5 hfrom ho hrow hb hps hend hvl
          go_wp2
          go_roundw
          case rel => exact ⟨t + 1, by rw [hnx.out], hlt2, ho9, hng9, hr9, hb9⟩
          case measure => simp [intOf]; omega
        · have hPe : it N (t + 1) = e := by omega
          have SA := hend.out hPe
          rw [hPe]
          have cc0 := hcost.out _ hrow
          have hPe2 : ¬ (e : Int) < (zs.length : Int) - 1 := by omega
          clear hnx hps hend hPe hup
          go_wp2
          go_ret2
          exact ⟨_, _, _, rfl, RR.out _ _ SA, by rw [pls_len]; exact ho, hb⟩
    | succ q =>
      have P := I.pl
      rw [show ((q + 1 : Nat) : Int) - 1 = (q : Int) by omega] at P
      obtain ⟨c0, f0⟩ := oneC P
      have CB := fun w' (hb : Below wr.heap.size wr w') => cBest w.heap.size zb pb cb mb q zs.length e p R (some ⟨g, 0, none⟩) zs.length w' (Tks.of_owns (own_keep I.row hb)) I.len I.el (by omega) (by omega) I.bst hp (fun w'' j hb'' h1 h2 => CK pb q j w'' (btrans I.hb (btrans hb hb'')) (ble hb'' (ble hb c0)) (by omega) (by omega))
      rw [I.len] at CB
      have TA := fun w' (hb : Below wr.heap.size wr w') => tk_at (own_keep I.row hb) I.len (i := q) (by omega)
      have hq0 : (0 : Int) ≤ q := by omega
      have hq1 : (q : Int) < zs.length := by omega
      have hq2 : q < zs.length := by omega
      have hne := I.ne
      have hne' := I.ne.symm
      have hgl := owns_lt I.row
      have hpl := lt_of_block P
      have h0 : Below wr.heap.size wr wr.drew := (Below.refl _ _).drew
      have vq : IntKind.i64.wrap ((q : Int) - 1) = (q : Int) - 1 := wrap_in _ (by omega) (by omega)
      go_wp2_with fail
      go_region_held3 (fun w' => w'.cell? ⟨pb, 0, none⟩ = some (.int .i64 q)) (go_keep) (first
        | (go_at_call 58; with_reducible refine (CB _ h0).mono ?_; rintro e7 w7 ⟨c7, k7, m7, rfl, hFd, hb7⟩; have hB7 := btrans h0 hb7; have v0 := ble hB7 c0; obtain ⟨⟨z0, z1, z2⟩, f1, f2, f3⟩ := TA _ hB7))
      have hST := hide (fun (w8 : World) (pb2 : Nat) hx hy hz => I.step (w3 := w8) (pb2 := pb2) (by omega) hFd hB7 hx hy hz)
      have hsS : (((w7.setCell ⟨g, q * 3, none⟩ (.int .i64 c7)).setCell ⟨g, q * 3 + 1, none⟩ (.int .i64 k7)).setCell ⟨g, q * 3 + 2, none⟩ (.int .i64 (m7 : Int))).heap.size = w7.heap.size := by simp [World.setCell]
      have hpS : (((w7.setCell ⟨g, q * 3, none⟩ (.int .i64 c7)).setCell ⟨g, q * 3 + 1, none⟩ (.int .i64 k7)).setCell ⟨g, q * 3 + 2, none⟩ (.int .i64 (m7 : Int))).cell? ⟨pb, 0, none⟩ = some (.int .i64 q) :=
        (oneC (blk_other (blk_other (blk_other (keepB hB7 P) hne) hne) hne)).1
      clear v0 z0 z1 z2 f1 f2 f3 hB7 hb7 hFd CB TA I c0 f0 P
      generalize (((w7.setCell ⟨g, q * 3, none⟩ (.int .i64 c7)).setCell ⟨g, q * 3 + 1, none⟩ (.int .i64 k7)).setCell ⟨g, q * 3 + 2, none⟩ (.int .i64 (m7 : Int))) = wS at *
      have HsS := hide hsS
      clear hsS
      have hN := one_block wS (.cells #[.int .i64 ((q : Int) - 1)] 3)
      have hBN := balloc wS (.cells #[.int .i64 ((q : Int) - 1)] 3)
      go_wp2
      go_roundw
      case rel => exact ⟨q, _, _, rfl, by omega, hST.out _ _ hBN hN (by rw [← HsS.out]; exact Nat.le_refl _)⟩
      case measure => 
        have hx := SpI.mea (hST.out _ _ hBN hN (by rw [← HsS.out]; exact Nat.le_refl _))
        rw [hx, hmea.out]
        omega
end Go.Proofs.Ytepdnaahhkkdeaa
