/- A trip's way back: the mathematics, and the model's. -/
import Derived.Test.YtpooifgeenbadaaK
namespace Go.Proofs.Ytpooifgeenbadaa
open Go.RowKit
def backC (T : Int) (c : HaltV) : HaltV := ⟨c.n, T - c.d, T - c.a⟩
def backL (T : Int) (cs : List HaltV) : List HaltV := cs.reverse.map (backC T)
def lastD (cs : List HaltV) : Int := (cs.getD (cs.length - 1) HaltV.zero).d
def backT (t : TripV) (x : Int) : TripV := if tripB t = true ∧ inB x 0 100000 = true then ifOk ⟨t.name, backL (x + lastD t.calls) t.calls⟩ else TripV.zero
theorem backL_len (T : Int) (cs : List HaltV) : (backL T cs).length = cs.length := by simp [backL]
theorem backL_step (T : Int) {cs : List HaltV} {k : Nat} (hk : k < cs.length) : backL T (cs.drop k) = backL T (cs.drop (k + 1)) ++ [⟨(cs.getD k HaltV.zero).n, T - (cs.getD k HaltV.zero).d, T - (cs.getD k HaltV.zero).a⟩] := by
  have e : cs.getD k HaltV.zero = cs[k] := by simp [List.getD, hk]
  rw [List.drop_eq_getElem_cons hk, e, backL, backL, List.reverse_cons, List.map_append]
  rfl
theorem back_small (s : ByteArray) (cs : List HaltV) (x : Int) (hl : cs.length ≤ 1048576) : (backT ⟨s, cs⟩ x).calls.length ≤ 1048576 := by
  unfold backT ifOk
  split
  · split
    · rw [backL_len]; exact hl
    · exact Nat.zero_le _
  · exact Nat.zero_le _

set_option maxRecDepth 100000 in
set_option maxHeartbeats 3200000 in
theorem cBackS (s : ByteArray) (a : Option Addr) (cap : Nat) (cs : List HaltV) (x : Int) (w : World) (hz : Halts w a cs) (hl : cs.length ≤ 1048576) (hs : s.size ≤ 1048576) :
    Calls Try.prog 5 #[.agg #[.string s, .slice a cs.length cap], .int .i64 x] w (AnsTrip w (backT ⟨s, cs⟩ x)) := by
  have E : Hid (backT ⟨s, cs⟩ x = (if tripB ⟨s, cs⟩ = true ∧ inB x 0 100000 = true then ifOk ⟨s, backL (x + lastD cs) cs⟩ else TripV.zero)) := rfl
  generalize backT ⟨s, cs⟩ x = res at *
  have A0 := blk_keep (balloc _ (.cells #[.string ⟨#[]⟩, .slice none 0 0] 28)) (one_block w (.cells #[.string s, .slice a cs.length cap] 28))
  have K0 := one_block (w.alloc (.cells #[.string s, .slice a cs.length cap] 28)) (.cells #[.string ⟨#[]⟩, .slice none 0 0] 28)
  have HB := btrans (balloc w (.cells #[.string s, .slice a cs.length cap] 28)) (balloc _ (.cells #[.string ⟨#[]⟩, .slice none 0 0] 28))
  simp only [sz1] at K0
  go_enter Try.func5, Try.ntmps5
  go_wp2_with fail
  refine (cTripS s a cap cs _ (hz.below HB) hl hs).mono ?_
  rintro e w1 ⟨rfl, hb⟩
  replace HB := btrans HB hb
  replace A0 := blk_keep hb A0
  replace K0 := blk_keep hb K0
  clear hb
  cases hT : tripB ⟨s, cs⟩
  · have hq := hide (show res = TripV.zero by rw [E.out, hT, if_neg (by simp)])
    clear E hT
    obtain ⟨⟨y0, y1⟩, f0, f1⟩ := blk2 K0
    go_wp2
    refine bodyPost_ret (v := .agg #[.string ⟨#[]⟩, .slice none 0 0]) (by simp [results, Try.results5, go_sem, y0, y1]) rfl ?_
    rw [hq.out]
    exact ⟨none, 0, rfl, World.ownsRow_nil _ _ _ _, below_set (by omega) (below_set (by omega) HB)⟩
  go_wp2_with fail
  refine (cIn x 0 100000 _).mono ?_
  rintro e w2 ⟨rfl, hw⟩
  subst w2
  cases hX : inB x 0 100000
  · have hq := hide (show res = TripV.zero by rw [E.out, hX, if_neg (by simp)])
    clear E hT hX
    obtain ⟨⟨y0, y1⟩, f0, f1⟩ := blk2 K0
    go_wp2
    refine bodyPost_ret (v := .agg #[.string ⟨#[]⟩, .slice none 0 0]) (by simp [results, Try.results5, go_sem, y0, y1]) rfl ?_
    rw [hq.out]
    exact ⟨none, 0, rfl, World.ownsRow_nil _ _ _ _, below_set (by omega) (below_set (by omega) HB)⟩
  have hq := hide (show res = ifOk ⟨s, backL (x + lastD cs) cs⟩ by rw [E.out, hT, hX, if_pos ⟨rfl, rfl⟩])
  obtain ⟨-, l1, l2, hall, -⟩ := trip_parts hT
  dsimp only at l1 l2 hall
  obtain ⟨x1, x2⟩ := inB_true hX
  clear E hT hX
  obtain ⟨⟨z0, z1⟩, -⟩ := blk2 A0
  obtain ⟨i0, hi, hz0, hz1, hz2⟩ := info_parts infoHalts
  have L0 : OutT w1 (w1.alloc (.cells #[.string s, .slice none 0 0] 28)) s none 0 (backL (x + lastD cs) (cs.drop cs.length)) := by
    rw [List.drop_length]
    exact ⟨balloc _ _, one_block _ _, World.ownsRow_nil _ _ _ _⟩
  have hws := lt_of_block A0
  have lp : 0 < cs.length := by omega
  rcases hz with h | ⟨b, off, rfl, hc⟩
  · simp [h] at lp
  obtain ⟨n, hn⟩ : ∃ n, cs.length = n + 1 := ⟨cs.length - 1, by omega⟩
  have hD := hide (show lastD cs = (cs.getD n HaltV.zero).d by unfold lastD; rw [hn]; rfl)
  obtain ⟨-, -, e2⟩ := hc n (by omega)
  replace e2 := ble (btrans HB (balloc w1 (.cells #[.string s, .slice none 0 0] 28))) e2
  rw [← hD.out] at e2
  have hbd := call_parts (call_at hall (show n < cs.length by omega))
  rw [← hD.out] at hbd
  obtain ⟨-, ⟨c1, c2⟩, c3⟩ := hbd
  have wn : IntKind.i64.wrap ((cs.length : Int) - 1) = (n : Int) := (wrap_in _ (by omega) (by omega)).trans (by omega)
  have hni : (n : Int) < (cs.length : Int) := by omega
  have hn0 : (0 : Int) ≤ (n : Int) := by omega
  have hbl0 : b < w1.heap.size := by have := cell_lt (hc n (by omega)).1; have := HB.size; omega
  generalize lastD cs = D at *
  have wD : IntKind.i64.wrap (x + D) = x + D := wrap_in _ (by omega) (by omega)
  have e0 := hide (show (n : Int) = ((n + 1 : Nat) : Int) - 1 by omega)
  have HN := hide hn
  clear hn hD
  go_wp2
  go_loopw [7] (fun i wr => ∃ (k m : Nat) (ao : Option Addr) (cp : Nat), m + k = cs.length ∧ i = .int .i64 ((k : Int) - 1) ∧ OutT w1 wr s ao cp (backL (x + D) (cs.drop k))) (fun i _ => (intOf i + 1).toNat)
  case atStart => exact ⟨n + 1, 0, none, 0, by have := HN.out; omega, by rw [← e0.out], by rw [← HN.out]; exact L0⟩
  case round =>
    obtain ⟨k, m, ao, cp, hkm, rfl, L⟩ := hrel
    clear L0 e2 e0
    have HK := hide hkm
    cases k with
    | succ k =>
      have ej : (((k + 1 : Nat) : Int) - 1) = (k : Int) := by omega
      rw [ej]
      have hlt : k < cs.length := by omega
      clear ej hkm
      have hki : (k : Int) < (cs.length : Int) := by omega
      have S := hide (backL_step (x + D) hlt)
      obtain ⟨q0, q1, q2⟩ := hc k hlt
      have fin := btrans HB L.bel
      replace q0 := ble fin q0
      replace q1 := ble fin q1
      replace q2 := ble fin q2
      obtain ⟨-, ⟨b1, b2⟩, b3⟩ := call_parts (call_at hall hlt)
      generalize cs.getD k HaltV.zero = y at *
      obtain ⟨n9, a, d⟩ := y
      dsimp only at *
      have hw1 : IntKind.i64.wrap (x + D - d) = x + D - d := wrap_in _ (by omega) (by omega)
      have hw2 : IntKind.i64.wrap (x + D - a) = x + D - a := wrap_in _ (by omega) (by omega)
      have hw3 : IntKind.i64.wrap ((k : Int) - 1) = (k : Int) - 1 := wrap_in _ (by omega) (by omega)
      have hl2 : (backL (x + D) (cs.drop (k + 1))).length ≤ 12 := by rw [backL_len]; simp; omega
      generalize hM : backL (x + D) (cs.drop (k + 1)) = ms at *
      replace hM := hide hM
      have hob := own_blk_lt L.own
      have hLt := L.lt
      have hC := one_block wr (.cells #[.int .i64 n9, .int .i64 a, .int .i64 d] 38)
      have L1 := L.keep (balloc wr (.cells #[.int .i64 n9, .int .i64 a, .int .i64 d] 38))
      have hcl : wr.heap.size < (wr.alloc (.cells #[.int .i64 n9, .int .i64 a, .int .i64 d] 38)).heap.size := by simp
      have hxl : w1.heap.size < wr.heap.size := hLt
      have A1 := blk_keep L.bel A0
      obtain ⟨⟨z0', z1'⟩, -⟩ := blk2 A1
      obtain ⟨⟨o0, o1⟩, f0, f1⟩ := blk2 L1.out
      have hwl : w.heap.size < wr.heap.size := lt_of_block A1
      have hbl : b < wr.heap.size := cell_lt q0
      have ho2 := own_keep L1.own (balloc _ (.cells #[.int .i64 n9, .int .i64 (x + D - d), .int .i64 (x + D - a)] 38))
      have hx2 := balloc (wr.alloc (.cells #[.int .i64 n9, .int .i64 a, .int .i64 d] 38)) (.cells #[.int .i64 n9, .int .i64 (x + D - d), .int .i64 (x + D - a)] 38)
      have hN : ((wr.alloc (.cells #[.int .i64 n9, .int .i64 a, .int .i64 d] 38)).alloc (.cells #[.int .i64 n9, .int .i64 (x + D - d), .int .i64 (x + D - a)] 38)).heap[wr.heap.size + 1]? = some (.cells #[.int .i64 n9, .int .i64 (x + D - d), .int .i64 (x + D - a)] 38) := by have := one_block (wr.alloc (.cells #[.int .i64 n9, .int .i64 a, .int .i64 d] 38)) (.cells #[.int .i64 n9, .int .i64 (x + D - d), .int .i64 (x + D - a)] 38); rwa [sz1] at this
      clear z0 z1
      go_wp2_with (at_builtin; refine wpList_append_own _ rfl _ _ 26 rfl (w1.heap.size + 1) 38 i0 _ 3 24 Try.underlying26 hi hz0 hz1 hz2 rfl (by decide) _ _ _ rfl ho2 ⟨wr.heap.size + 1, 0, none⟩ 1 1 (HaltV.vs ⟨n9, x + D - d, x + D - a⟩) rfl rfl ?c1 ?c2 ?c3 ?c4 ?c5 ?_)
      case c1 => exact World.news_of_block hN
      case c2 => simp [HaltV.vs, Value.oneCell']
      case c3 => unfold maxLen; omega
      case c4 => omega
      case c5 => simp; omega
      intro v2 w2 hown hgrow _
      rcases hown.2 with ⟨_, h0⟩ | ⟨g, cap2, cur, rfl, _⟩
      · simp at h0
      have L2 := L1.pushG hx2 hown hgrow
      obtain ⟨⟨u0, u1⟩, t0, t1⟩ := blk2 (L1.outG hx2 hgrow)
      rw [← S.out] at L2
      clear hown hgrow hN ho2 hx2 o0 o1 f0 f1 q0 q1 q2 z0' z1' L L1 hC hob
      go_wp2
      go_roundw
      case rel => exact ⟨k, m + 1, some ⟨g, 0, none⟩, cap2, by have := HK.out; omega, rfl, by simpa using L2⟩
      case measure => simp [intOf]
    | zero =>
      have ez : (((0 : Nat) : Int) - 1) = -1 := by omega
      rw [ez]
      rw [List.drop_zero] at L
      clear ez HK hkm
      have hlm : (backL (x + D) cs).length ≤ 1048576 := by rw [backL_len]; exact hl
      have fin := btrans HB L.bel
      have K1 := blk_keep L.bel K0
      have hws2 := lt_of_block K0
      have hq2 : Hid (ifOk ⟨s, backL (x + D) cs⟩ = if tripB ⟨s, backL (x + D) cs⟩ = true then ⟨s, backL (x + D) cs⟩ else TripV.zero) := rfl
      generalize backL (x + D) cs = ms at *
      clear hc hall K0
      have A1 := blk_keep L.bel A0
      obtain ⟨⟨z0', z1'⟩, -⟩ := blk2 A1
      obtain ⟨⟨o0, o1⟩, -⟩ := blk2 L.out
      clear z0 z1
      go_wp2_with fail
      refine (cTripS s ao cp ms _ (Halts.own L.own) hlm hs).mono ?_
      rintro e w3 ⟨rfl, hb⟩
      have fin2 := btrans fin hb
      have K2 := blk_keep hb K1
      have ho := own_keep L.own hb
      have O2 := blk_keep hb L.out
      clear hb fin K1 L A0 A1 z0' z1' o0 o1
      obtain ⟨⟨y0, y1⟩, f0, f1⟩ := blk2 K2
      obtain ⟨⟨o0, o1⟩, -⟩ := blk2 O2
      cases hT : tripB ⟨s, ms⟩
      · have hq3 := hide (show res = TripV.zero by rw [hq.out, hq2.out, hT, if_neg (by simp)])
        clear hq hq2 hT ho
        go_wp2
        refine bodyPost_ret (v := .agg #[.string ⟨#[]⟩, .slice none 0 0]) (by simp [results, Try.results5, go_sem, y0, y1]) rfl ?_
        rw [hq3.out]
        exact ⟨none, 0, rfl, World.ownsRow_nil _ _ _ _, below_set (by omega) (below_set (by omega) fin2)⟩
      · have hq3 := hide (show res = ⟨s, ms⟩ by rw [hq.out, hq2.out, hT, if_pos rfl])
        clear hq hq2 hT
        have hfr := own_from ho (Nat.le_refl _)
        have hne3 : w.heap.size + 1 ≠ w1.heap.size := by omega
        go_wp2
        refine bodyPost_ret (v := .agg #[.string s, .slice ao ms.length cp]) (by simp [results, Try.results5, go_sem, y0, y1]) rfl ?_
        rw [hq3.out]
        exact ⟨ao, cp, rfl, own_base (own_set (own_set ho (fun k hk => by have := hfr k hk; omega)) (fun k hk => by have := hfr k hk; omega)) (by omega), below_set (by omega) (below_set (by omega) fin2)⟩
end Go.Proofs.Ytpooifgeenbadaa
