/- Sums of the model. -/
import Derived.Test.YtapnidhokpkmdaaZE
import Derived.Test.YtapnidhokpkmdaaWZ
namespace Go.Proofs.Ytapnidhokpkmdaa
open Go.RowKit Fl
attribute [local go_sem] run_store_float

theorem Done.push {n : Nat} {f : Nat → C2} {zs : List ZV} {z : ZV} (h : Done n n f zs) (hz : z.c = f n) : Done (n + 1) (n + 1) f (zs ++ [z]) := by
  refine ⟨by simp [h.len], fun j hj => ?_⟩
  by_cases e : j = n
  · subst e
    have : zs.length = j := h.len
    simp [List.getD, ← this]
    rw [this]; exact hz
  · have h1 : j < zs.length := by rw [h.len]; omega
    have := h.at' j (by omega)
    simpa [List.getD, List.getElem?_append_left h1] using this
theorem flatZs_one (zs : List ZV) (z : ZV) : flatZs (zs ++ [z]) = flatZs zs ++ [.float .f64 z.re, .float .f64 z.im] := by rw [flatZs_app]; rfl
/-- The box of a sum. -/
def Bz (w : World) (b : Nat) (z : ZV) : Prop := w.heap[b]? = some (.cells #[.float .f64 z.re, .float .f64 z.im] 26 (0, 0))
theorem Bz.set {w w1 : World} {b : Nat} {z y : ZV} (h : Bz w b z) (hb : Below w.heap.size w w1) : Bz ((w1.setCell ⟨b, 0, none⟩ (.float .f64 y.re)).setCell ⟨b, 1, none⟩ (.float .f64 y.im)) b y :=
  heap_same _ b 1 _ _ _ (heap_same _ b 0 _ _ _ (keepB hb h))

set_option maxRecDepth 20000 in
set_option maxHeartbeats 6400000 in
theorem cSumsS (a : Option Addr) (cap : Nat) (es : List ZV) (w : World) (he : Zs w a es) (hl : es.length ≤ maxLen) :
    Calls Try.prog 41 #[.slice a es.length cap] w (AnsZ w (sumsC (cs es))) := by
  obtain ⟨i0, hi, hz0, hz1, hz2⟩ := info_parts infoZs
  unfold maxLen at hl
  by_cases h40 : 40 < es.length
  · have E : sumsC (cs es) = [] := by unfold sumsC; rw [cs_len, if_pos h40]
    rw [E]
    have h41 : (40 : Int) < es.length := by omega
    clear E
    go_enter Try.func41, Try.ntmps41
    go_wp2
    go_ret
    exact AnsZ.no (Below.refl _ _)
  have E : sumsC (cs es) = (List.range es.length).map (sAt (cs es)) := by unfold sumsC; rw [cs_len, if_neg h40]
  rw [E]
  clear E
  obtain ⟨n, hn⟩ : ∃ n, es.length = n := ⟨_, rfl⟩
  have HN := hide hn
  rw [hn] at h40 ⊢
  have h41 : ¬ (40 : Int) < n := by omega
  have h42 : n ≤ 40 := by omega
  clear hl h40 hn
  have O0 : (w.alloc (.cells #[] 26)).ownsRow w.heap.size 26 2 (.slice (some ⟨w.heap.size, 0, none⟩) 0 0) 0 (flatZs []) := World.ownsRow_made w #[] 0 (Nat.le_refl _) (by unfold maxLen; omega) rfl
  have hb0 := balloc w (.cells #[] 26)
  go_enter Try.func41, Try.ntmps41
  go_wp2
  go_loopw [3, 4, 5, 6] (fun v i _ _ wr => ∃ (k : Nat) (zs : List ZV), k ≤ n ∧ i = .int .i64 k ∧ wr.ownsRow w.heap.size 26 2 v k (flatZs zs) ∧ Done k k (sAt (cs es)) zs ∧ Below w.heap.size w wr) (fun _ i _ _ _ => n - (intOf i).toNat)
  case atStart => exact ⟨0, [], Nat.zero_le _, rfl, O0, ⟨rfl, fun j h => by omega⟩, hb0⟩
  case round =>
    clear O0 hb0
    obtain ⟨k, zs, hk, rfl, O, hD, hb⟩ := hrel
    by_cases hlt : k < n
    · obtain ⟨m, hm⟩ : ∃ m, m + 1 = n := ⟨n - 1, by omega⟩
      have hmn : m < es.length := by have := HN.out; omega
      rcases he with h | ⟨b1, o1, rfl, q1⟩
      · simp [h] at hmn
      obtain ⟨p0, p1⟩ := q1 m hmn
      replace p0 := ble hb p0
      replace p1 := ble hb p1
      have e1 : IntKind.i64.wrap ((n : Int) - 1) = (m : Int) := (wrap_in _ (by omega) (by omega)).trans (by omega)
      have e2 : IntKind.i64.wrap ((n : Int) - 2) = (m : Int) - 1 := (wrap_in _ (by omega) (by omega)).trans (by omega)
      have hc : Hid ((es.getD m ZV.zero).c = sAt (cs es) m) := hide (by rw [sAt_last (by rw [cs_len]; have := HN.out; omega), gC_cs hmn])
      have hQ := hide q1
      clear q1
      generalize es.getD m ZV.zero = x at *
      obtain ⟨xr, xi⟩ := x
      dsimp only at p0 p1
      have hb1 := balloc wr (.cells #[.float .f64 xr, .float .f64 xi] 26)
      have KB : Bz (wr.alloc (.cells #[.float .f64 xr, .float .f64 xi] 26)) wr.heap.size ⟨xr, xi⟩ := one_block wr _
      have hkm : k ≤ m := by omega
      have hmm : m < n := by omega
      have hbw : w.heap.size ≤ wr.heap.size := hb.size
      have hob := own_blk_lt O
      obtain ⟨va, vc, rfl⟩ := own_form O
      go_wp2
      generalize hwo : wr = wo at *
      go_loopw [6] (fun j wr => ∃ (q : Nat) (z : ZV), k ≤ q ∧ q ≤ m ∧ j = .int .i64 ((q : Int) - 1) ∧ Bz wr wo.heap.size z ∧ z.c = sAt (cs es) q ∧ Below wo.heap.size wo wr) (fun j _ => (intOf j + 1).toNat)
      case atStart => exact ⟨m, _, hkm, Nat.le_refl _, rfl, KB, hc.out, hb1⟩
      case round =>
        clear KB hb1 p0 p1 hc e1 e2
        obtain ⟨q, z, hkq, hqm, rfl, KB, hz, hbi⟩ := hrel
        by_cases hq : k < q
        · obtain ⟨j, rfl⟩ : ∃ j, q = j + 1 := ⟨q - 1, by omega⟩
          have ej : (((j + 1 : Nat) : Int) - 1) = (j : Int) := by omega
          rw [ej]
          have hjn : j < es.length := by have := HN.out; omega
          obtain ⟨p0, p1⟩ := hQ.out j hjn
          replace p0 := ble (btrans hb hbi) p0
          replace p1 := ble (btrans hb hbi) p1
          have hG := hide (gC_cs hjn)
          have hS := hide (sAt_step (l := cs es) (i := j) (by rw [cs_len]; have := HN.out; omega))
          have hZ := hide hz
          have hkj : (k : Int) ≤ (j : Int) := by omega
          have hjN : j < n := by omega
          have w1 : IntKind.i64.wrap ((j : Int) - 1) = (j : Int) - 1 := wrap_in _ (by omega) (by omega)
          clear ej hz
          generalize es.getD j ZV.zero = x at *
          obtain ⟨ur, ui⟩ := x
          obtain ⟨zr, zi⟩ := z
          dsimp only at p0 p1
          obtain ⟨⟨k0, k1⟩, g0, g1⟩ := twoC KB
          go_wp2_with fail
          go_region_with (go_at_call 33; refine (cZAddS2 ur ui zr zi _).mono ?_; rintro e w6 ⟨pr, pi, rfl, hC, hb6⟩; have B6 := undrew hb6; obtain ⟨⟨l0, l1⟩, f0, f1⟩ := twoC (keepB B6 KB))
          all_goals have KS := KB.set (y := ⟨pr, pi⟩) B6
          all_goals have BS := below_set (b := wo.heap.size) (o := 1) (v := .float .f64 pi) (Nat.le_refl _) (below_set (b := wo.heap.size) (o := 0) (v := .float .f64 pr) (Nat.le_refl _) (btrans hbi B6))
          all_goals have hz2 : ZV.c ⟨pr, pi⟩ = sAt (cs es) j := by rw [hS.out, hG.out, ← hZ.out]; exact hC
          all_goals clear B6 hC KB k0 k1 g0 g1 l0 l1 f0 f1 hS hG hZ p0 p1
          all_goals go_wp2
          all_goals exact ⟨⟨j, ⟨pr, pi⟩, by omega, by omega, rfl, KS, hz2, BS⟩, by simp [intOf]⟩
        · obtain rfl : q = k := by omega
          obtain ⟨zr, zi⟩ := z
          have hN := one_block wr (.cells #[.float .f64 zr, .float .f64 zi] 26)
          have hb6 := balloc wr (.cells #[.float .f64 zr, .float .f64 zi] 26)
          have ho6 := own_keep O (btrans hbi hb6)
          have hbx := btrans hb (btrans hbi hb6)
          have hD6 := hD.push hz
          have hq2 : ¬ ((q : Int) ≤ (q : Int) - 1) := by omega
          obtain ⟨⟨k0, k1⟩, -⟩ := twoC KB
          clear hD hz KB hQ hob O
          go_wp2_with (at_builtin; refine wpList_append_own _ rfl _ _ 27 rfl w.heap.size 26 i0 _ 2 16 Try.underlying27 hi hz0 hz1 hz2 rfl (by decide) _ _ _ rfl ho6 ⟨wr.heap.size, 0, none⟩ 1 1 [.float .f64 zr, .float .f64 zi] rfl rfl ?c1 ?c2 ?c3 ?c4 ?c5 ?_)
          case c2 => exact ⟨rfl, rfl⟩
          case c3 => unfold maxLen; omega
          case c4 => omega
          case c5 => have := hbx.size; rw [sz1] at this; exact this
          intro v2 w5 hown hgrow _
          have hb5 := hbx.grown hgrow hbx.size (own_from ho6 (Nat.le_refl _))
          have S1 := flatZs_one zs ⟨zr, zi⟩
          rw [← S1] at hown
          clear hgrow hN ho6 hbx S1 hb6
          go_wp2
          go_roundw
          case rel => exact ⟨q + 1, _, by omega, by go_num, hown, hD6, hb5⟩
          case measure => simp [intOf]; omega
    · obtain rfl : k = n := by omega
      clear he
      have hcs := hD.cs
      have hlz := hD.len
      obtain ⟨va, vc, rfl⟩ := own_form O
      go_wp2
      go_ret
      exact ⟨_, zs, rfl, by rw [hlz]; exact O, hcs, hb⟩
end Go.Proofs.Ytapnidhokpkmdaa
