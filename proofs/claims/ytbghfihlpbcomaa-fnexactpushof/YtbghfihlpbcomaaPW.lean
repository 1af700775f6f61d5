/- One trip more behind a list: of the model. -/
import Derived.Test.YtbghfihlpbcomaaPT
namespace Go.Proofs.Ytbghfihlpbcomaa
open Go.RowKit
theorem flatP_snoc (vs : List (Value × Value)) (q : Value × Value) : flatP (vs ++ [q]) = flatP vs ++ [q.1, q.2] := by simp [flatP]
theorem TripsIn.snoc {w : World} {vs : List (Value × Value)} {ts : List TripV} (h : TripsIn w vs ts) {va vb : Value} {t : TripV} (g : TripIn w va vb t) : TripsIn w (vs ++ [(va, vb)]) (ts ++ [t]) :=
  h.app ⟨rfl, fun i hi => by
    have : i = 0 := by simp at hi; exact hi
    subst this
    simpa using g⟩
theorem own_app2 {B : Nat} {w : World} {v : Value} {n : Nat} {vs : List (Value × Value)} {va vb : Value} (h : w.ownsRow B 35 2 v (n + 1) (flatP vs ++ [va, vb])) : w.ownsRow B 35 2 v (n + 1) (flatP (vs ++ [(va, vb)])) := by
  rw [flatP_snoc]; exact h

set_option maxRecDepth 100000 in
set_option maxHeartbeats 3200000 in
theorem cWith (a : Option Addr) (cap : Nat) (vs : List (Value × Value)) (va vb : Value) (w : World) (h1 : PairsAt w a vs) (n1 : ∀ u ∈ flatP vs, u.oneCell' = true) (n2 : va.oneCell' = true) (n3 : vb.oneCell' = true) (hl : vs.length ≤ 60) :
    Calls Try.prog 66 #[.slice a vs.length cap, .agg #[va, vb]] w fun e w' => ∃ ao cp, e = .returned (.slice ao (vs.length + 1) cp) ∧ w'.ownsRow w.heap.size 35 2 (.slice ao (vs.length + 1) cp) (vs.length + 1) (flatP (vs ++ [(va, vb)])) ∧ Below w.heap.size w w' := by
  obtain ⟨i0, hi, hz0, hz1, hz2⟩ := info_parts infoTrip
  have X := one_block w (.cells #[va, vb] 35)
  have hW := balloc w (.cells #[va, vb] 35)
  go_enter Try.func66, Try.ntmps66
  have hO : ((w.alloc (.cells #[va, vb] 35)).alloc (.cells #[] 35)).ownsRow (w.heap.size + 1) 35 2 (.slice (some ⟨w.heap.size + 1, 0, none⟩) 0 0) 0 (flatP []) := by
    have := World.ownsRow_made (base := w.heap.size + 1) (e := 35) (size := 2) (w.alloc (.cells #[va, vb] 35)) #[] 0 (by simp) (by unfold maxLen; omega) rfl
    rw [sz1] at this
    exact this
  have hB0 : Below (w.heap.size + 1) (w.alloc (.cells #[va, vb] 35)) ((w.alloc (.cells #[va, vb] 35)).alloc (.cells #[] 35)) := by
    have := balloc (w.alloc (.cells #[va, vb] 35)) (.cells #[] 35)
    rwa [sz1] at this
  go_wp2
  go_loopw [5, 6] (fun v i wr => ∃ k : Nat, k ≤ vs.length ∧ i = .int .i64 k ∧ wr.ownsRow (w.heap.size + 1) 35 2 v k (flatP (vs.take k)) ∧ Below (w.heap.size + 1) (w.alloc (.cells #[va, vb] 35)) wr) (fun _ i _ => vs.length - (intOf i).toNat)
  case atStart => exact ⟨0, Nat.zero_le _, rfl, hO, hB0⟩
  case round =>
    obtain ⟨k, hk, rfl, hown, hb⟩ := hrel
    clear hO hB0
    have hb' : Below (w.alloc (.cells #[va, vb] 35)).heap.size (w.alloc (.cells #[va, vb] 35)) wr := by rw [sz1]; exact hb
    have fin := btrans hW hb'
    have hbs := hb'.size
    rw [sz1] at hbs
    by_cases hlt : k < vs.length
    · rcases h1 with h | ⟨b, off, rfl, hc⟩
      · simp [h] at hlt
      obtain ⟨f1, f2⟩ := flatP_get vs k hlt
      have q0 := ble fin (hc _ _ f1)
      have q1 := ble fin (hc _ _ f2)
      rw [← Nat.add_assoc] at q1
      have m1 := n1 _ (List.mem_of_getElem? f1)
      have m2 := n1 _ (List.mem_of_getElem? f2)
      have ET : flatP (vs.take (k + 1)) = flatP (vs.take k) ++ [vs[k].1, vs[k].2] := by rw [List.take_succ_eq_append_getElem hlt, flatP_snoc]
      replace ET := hide ET
      generalize vs[k].1 = xa at *
      generalize vs[k].2 = xb at *
      clear f1 f2 hc
      have O2 := own_keep hown (balloc wr (.cells #[xa, xb] 35))
      have B2 := hb.trans ((balloc wr (.cells #[xa, xb] 35)).mono hbs)
      clear hb'
      go_wp2_with (at_builtin; refine wpList_append_own _ rfl _ _ 27 rfl (w.heap.size + 1) 35 i0 _ 2 40 Try.underlying27 hi hz0 hz1 hz2 rfl (by decide) _ _ _ rfl O2 ⟨wr.heap.size, 0, none⟩ 1 1 [xa, xb] rfl rfl ?c1 ?c2 ?c3 ?c4 ?c5 ?_)
      case c1 =>
        intro j u hj
        rw [add_offP, Nat.zero_add]
        match j, hj with
        | 0, hj => simp at hj; subst hj; simp
        | 1, hj => simp at hj; subst hj; simp
      case c2 => simp [m1, m2]
      case c3 => unfold maxLen; omega
      case c4 => omega
      case c5 => rw [sz1]; omega
      intro v2 w5 hown5 hgrow _
      have B5 := B2.grown hgrow (by rw [sz1] at *; have := B2.size; simpa using this) (own_from O2 (Nat.le_refl _))
      rw [← ET.out] at hown5
      clear hgrow O2 B2 hown
      go_wp2
      go_roundw
      case rel => exact ⟨k + 1, by omega, by go_num, hown5, B5⟩
      case measure => simp [intOf]; omega
    · obtain rfl : k = vs.length := by omega
      rw [List.take_length] at hown
      have X1 := blk_keep hb' X
      obtain ⟨⟨x0, x1⟩, -⟩ := blk2 X1
      clear h1
      have O2 := own_keep hown (balloc wr (.cells #[va, vb] 35))
      have B2 := hb.trans ((balloc wr (.cells #[va, vb] 35)).mono hbs)
      clear hb'
      go_wp2_with (at_builtin; refine wpList_append_own _ rfl _ _ 27 rfl (w.heap.size + 1) 35 i0 _ 2 40 Try.underlying27 hi hz0 hz1 hz2 rfl (by decide) _ _ _ rfl O2 ⟨wr.heap.size, 0, none⟩ 1 1 [va, vb] rfl rfl ?c1 ?c2 ?c3 ?c4 ?c5 ?_)
      case c1 =>
        intro j u hj
        rw [add_offP, Nat.zero_add]
        match j, hj with
        | 0, hj => simp at hj; subst hj; simp
        | 1, hj => simp at hj; subst hj; simp
      case c2 => simp [n2, n3]
      case c3 => unfold maxLen; omega
      case c4 => omega
      case c5 => rw [sz1]; omega
      intro v2 w5 hown5 hgrow _
      have B5 := B2.grown hgrow (by rw [sz1] at *; have := B2.size; simpa using this) (own_from O2 (Nat.le_refl _))
      replace hown5 := Go.Joins.ownsRow_le (own_app2 hown5) (base' := w.heap.size) (by omega)
      have hb5 := btrans hW (by rw [sz1]; exact B5)
      obtain ⟨ao, cp, rfl⟩ := own_form hown5
      clear hgrow O2 B2 hown B5 x0 x1
      go_wp2
      go_ret
      exact ⟨ao, cp, rfl, hown5, hb5⟩
end Go.Proofs.Ytbghfihlpbcomaa
