/- Kilometres, who is due, and nights, of the model. -/
import Derived.Test.YtbnhkkaiohmllaaSN
import Derived.Test.YtbnhkkaiohmllaaOU
namespace Go.Proofs.Ytbnhkkaiohmllaa
open Go.RowKit Go.Lib

theorem cntU_take {zs : List Int} {k : Nat} (hk : k < zs.length) : cntU (zs.take (k + 1)) = if cntU (zs.take k) ≤ zs.getD k 0 then zs.getD k 0 + 1 else cntU (zs.take k) := by
  rw [List.take_succ_eq_append_getElem hk, cntU_snoc]
  simp [List.getD, hk]

set_option maxHeartbeats 1600000 in
theorem cUnitsS (a : Option Addr) (cap : Nat) (zs : List Int) (w : World) (hz : Ints w a zs) (hl : zs.length ≤ 40) (hr : ∀ z ∈ zs, z ≤ 1000) :
    Calls Try.prog 72 #[.slice a zs.length cap] w fun e w' => e = .returned (.int .i64 (cntU zs)) ∧ w' = w := by
  have hG := hide (fun k (hk : k < zs.length) => hr (zs.getD k 0) (by rw [show zs.getD k 0 = zs[k] by simp [List.getD, hk]]; exact List.getElem_mem hk))
  have hC := hide (fun k => (cntU_props (zs.take k)).1)
  clear hr
  go_enter Try.func72, Try.ntmps72
  go_wp2
  go_loop [3, 4] (fun s i => ∃ k : Nat, k ≤ zs.length ∧ s = .int .i64 (cntU (zs.take k)) ∧ i = .int .i64 k) (fun _ i => zs.length - (intOf i).toNat)
  case atStart => exact ⟨0, Nat.zero_le _, by simp [cntU], rfl⟩
  case round =>
    obtain ⟨k, hk, rfl, rfl⟩ := hrel
    by_cases hlt : k < zs.length
    · have hlt' : (k : Int) < (zs.length : Int) := by omega
      rcases hz with h | ⟨b, off, rfl, hc⟩
      · simp [h] at hlt
      have q0 := hc k hlt
      have hT := hide (cntU_take hlt)
      have hb1 := hG.out k hlt
      have hb2 := hC.out k
      generalize zs.getD k 0 = z at *
      generalize cntU (zs.take k) = s at *
      clear hc
      by_cases hs : s ≤ z
      · have hf := hide (show cntU (zs.take (k + 1)) = z + 1 by rw [hT.out, if_pos hs])
        have hw : IntKind.i64.wrap (z + 1) = z + 1 := wrap_in _ (by omega) (by omega)
        clear hT
        go_wp2
        go_round
        case rel => exact ⟨k + 1, by omega, by rw [hf.out], by go_num⟩
        case measure => simp [intOf]; omega
      · have hf := hide (show cntU (zs.take (k + 1)) = s by rw [hT.out, if_neg hs])
        clear hT
        go_wp2
        go_round
        case rel => exact ⟨k + 1, by omega, by rw [hf.out], by go_num⟩
        case measure => simp [intOf]; omega
    · obtain rfl : k = zs.length := by omega
      clear hz
      go_wp2
      go_ret
      exact ⟨rfl, rfl⟩

/-- What the model sums up. -/
def kmZ (ts : List TaskV) (zs : List Int) (u : Nat) (i : Nat) : Int := if zs.getD i 0 = (u : Int) then (tkA ts i).p else 0
/-- What stands of the answer of Chains, for the model. -/
structure ChZ (ts : List TaskV) (n : Int) (zs : List Int) : Prop where
  len : zs.length ≤ 40
  range : ∀ z ∈ zs, 0 ≤ z ∧ z < 40
  full : 0 < zs.length → zs.length = ts.length ∧ ts.all taskB = true
  km : UnA ts n (kmOf ts) ((List.range (cntU zs).toNat).map (fun u => sumTo (kmZ ts zs u) zs.length))
  run : ∀ os, Ord ts os → ∀ tell : List Nat → Int, UnA ts n tell ((List.range (cntU zs).toNat).map (fun u => tell (pick zs u os)))
  empty : ∀ tell : List Nat → Int, zs.length = 0 → UnA ts n tell []
  cnt : cntU zs ≤ 40
theorem ChZ.of {ts : List TaskV} {n : Int} {zs : List Int} (h : ChA ts n zs) : ChZ ts n zs := by
  rcases h with ⟨h1, rfl⟩ | ⟨h1, os, hh, h2, h3, rfl⟩
  · exact ⟨by simp, fun z hz => by simp at hz, fun h => by simp at h, .inl ⟨h1, by simp [cntU]⟩, fun os _ tell => .inl ⟨h1, by simp [cntU]⟩, fun tell _ => .inl ⟨h1, rfl⟩, by simp [cntU]⟩
  · have h5 : ts.length ≤ 40 ∧ ts.all taskB = true := by simp only [Bool.and_eq_true, tasksB, decide_eq_true_eq] at h1; exact h1.1
    have D := Dealt.of h2 h3
    have hcn := D.cnt
    have hl := uL_len hh 0 ts.length
    have hnu : nU hh ≤ 40 := by
      have h6 := h3.nU_le
      have h7 := congrArg List.length h3.places
      rw [List.length_map] at h7
      have := h2.len
      omega
    have hrun : ∀ u, pick (uL hh 0 ts.length) u os = runU hh u := fun u => by rw [← D.pick u, h3.places]
    refine ⟨by omega, fun z hz => ?_, fun _ => ⟨hl, h5.2⟩, ?_, fun os' ho' tell => ?_, fun tell h0 => ?_, by omega⟩
    · unfold uL at hz
      rw [List.mem_map] at hz
      obtain ⟨t, ht, rfl⟩ := hz
      obtain ⟨u, hu, e⟩ := D.get (List.mem_range.1 ht)
      rw [e 0]
      have := unit_lt hu
      omega
    · refine .inr ⟨h1, os, hh, h2, h3, ?_⟩
      rw [hcn, Int.toNat_natCast]
      refine List.map_congr_left (fun u _ => ?_)
      rw [← D.sum ts u, hl]
      refine sumTo_congr (fun i hi => ?_)
      unfold kmZ kmIf
      rw [uL_get hh 0 hi]
    · refine .inr ⟨h1, os, hh, h2, h3, ?_⟩
      rw [hcn, Int.toNat_natCast, ho'.uniq h2]
      exact List.map_congr_left (fun u _ => by rw [hrun u])
    · refine .inr ⟨h1, os, hh, h2, h3, ?_⟩
      have h7 := congrArg List.length h3.places
      rw [List.length_map] at h7
      have h8 := h2.len
      have h9 := h3.nU_le
      have : nU hh = 0 := by omega
      rw [this]; rfl
theorem kmZ_sum {ts : List TaskV} {zs : List Int} (hr : ts.all taskB = true) (hl : zs.length = ts.length) (u : Nat) : ∀ k, k ≤ zs.length → 0 ≤ sumTo (kmZ ts zs u) k ∧ sumTo (kmZ ts zs u) k ≤ 2000 * k := by
  intro k
  induction k with
  | zero => intro _; simp [sumTo]
  | succ k ih =>
    intro hk
    have h1 := ih (by omega)
    have h2 := taskB_iff.1 (tkA_ok hr (i := k) (by omega))
    have h3 : 0 ≤ kmZ ts zs u k ∧ kmZ ts zs u k ≤ 2000 := by
      unfold kmZ
      split <;> omega
    rw [sumTo]
    omega

set_option maxRecDepth 20000 in
set_option maxHeartbeats 3200000 in
theorem cMilS (a : Option Addr) (cap : Nat) (ts : List TaskV) (n : Int) (w : World) (hz : Tasks w a ts) (hl : ts.length ≤ 1048576) :
    Calls Try.prog 47 #[.slice a ts.length cap, .int .i64 n] w (AnsZ (UnA ts n (kmOf ts)) w) := by
  obtain ⟨i0, hi, hz0, hz1, hz2⟩ := info_parts infoInts
  go_enter Try.func47, Try.ntmps47
  go_wp2_with fail
  refine (cChainsS a cap ts n _ hz hl).mono ?_
  rintro e w1 ⟨v, zs, rfl, hA, O5, hb⟩
  have Z := ChZ.of hA
  obtain ⟨ua, uc, rfl⟩ := own_form O5
  have hlz := Z.len
  have hU := hide Z.km
  have hrg := hide (fun (z : Int) hz => (show z ≤ 1000 by have := Z.range z hz; omega))
  have hc0 := (cntU_props zs).1
  have hc1 := Z.cnt
  have hful := hide (fun u h0 => kmZ_sum (Z.full h0).2 (Z.full h0).1 u)
  have hful2 := hide (fun h0 => Z.full h0)
  have hcz : zs.length = 0 → cntU zs = 0 := fun h0 => by rw [List.length_eq_zero_iff.1 h0]; rfl
  clear hA Z
  have CU := fun (V : World) (hV : Below w1.heap.size w1 V) => cUnitsS ua uc zs V ((Ints.own O5 rfl).below hV) hlz hrg.out
  obtain ⟨K, hK⟩ : ∃ K : Nat, cntU zs = K := ⟨(cntU zs).toNat, by omega⟩
  rw [hK] at hU CU hc1 hcz
  rw [Int.toNat_natCast] at hU
  clear hK hc0
  have hO := World.ownsRow_made (base := w1.heap.size) (e := 3) (size := 1) w1 #[] 0 (Nat.le_refl _) (by unfold maxLen; omega) rfl
  have HB := balloc w1 (.cells #[] 3)
  go_wp2
  go_loopw [6, 7] (fun v i wr => ∃ k : Nat, k ≤ K ∧ i = .int .i64 k ∧ wr.ownsRow w1.heap.size 3 1 v k (((List.range k).map (fun u => sumTo (kmZ ts zs u) zs.length)).map (Value.int .i64)) ∧ Below w1.heap.size w1 wr) (fun _ i _ => K - (intOf i).toNat)
  case atStart => exact ⟨0, Nat.zero_le _, rfl, by simpa using hO, HB⟩
  case round =>
    obtain ⟨k, hk, rfl, ho, hbr⟩ := hrel
    clear hO HB
    obtain ⟨va, vc, rfl⟩ := own_form ho
    by_cases hlt : k < K
    · have hlt' : (k : Int) < (K : Int) := by omega
      have hz0' : 0 < zs.length := by
        rcases Nat.eq_zero_or_pos zs.length with h | h
        · have := hcz h; omega
        · exact h
      have hzt : Hid (zs.length = ts.length) := hide (hful2.out hz0').1
      have hall := hide (hful2.out hz0').2
      have hsm := hide (hful.out k hz0')
      have hrk : Hid ((List.range (k + 1)).map (fun u => sumTo (kmZ ts zs u) zs.length) = (List.range k).map (fun u => sumTo (kmZ ts zs u) zs.length) ++ [sumTo (kmZ ts zs k) zs.length]) := hide (by rw [List.range_succ, List.map_append]; rfl)
      have C1 := CU wr hbr
      have O5r := own_keep O5 hbr
      have I5 : Ints wr ua zs := Ints.own O5r rfl
      have hbw := btrans hb hbr
      go_wp2_with fail
      refine C1.mono ?_
      rintro e w2 ⟨rfl, hw⟩
      subst w2
      clear C1
      go_wp2
      go_loop [8, 9] (fun s i => ∃ q : Nat, q ≤ zs.length ∧ s = .int .i64 (sumTo (kmZ ts zs k) q) ∧ i = .int .i64 q) (fun _ i => zs.length - (intOf i).toNat)
      case atStart => exact ⟨0, Nat.zero_le _, rfl, rfl⟩
      case round =>
        obtain ⟨q, hq, rfl, rfl⟩ := hrel
        by_cases hqt : q < zs.length
        · have hqt' : (q : Int) < (zs.length : Int) := by omega
          have hqs : q < ts.length := by have := hzt.out; omega
          have hqs' : (q : Int) < (ts.length : Int) := by omega
          rcases I5 with h | ⟨b5, o5, rfl, hc5⟩
          · simp [h] at hqt
          have p0 := hc5 q hqt
          rcases hz with h | ⟨b, off, rfl, hc⟩
          · simp [h] at hqs
          have p4 := ble hbw (hc q hqs).2.2.2.2
          have hT : Hid (sumTo (kmZ ts zs k) (q + 1) = sumTo (kmZ ts zs k) q + kmZ ts zs k q) := rfl
          have hz4 : Hid (kmZ ts zs k q = if zs.getD q 0 = (k : Int) then (ts.getD q TaskV.zero).p else 0) := rfl
          have hs1 := hsm.out q hq
          have hs2 := taskB_iff.1 (tkA_ok hall.out hqs)
          have hs3 : 0 ≤ (ts.getD q TaskV.zero).p ∧ (ts.getD q TaskV.zero).p ≤ 2000 := by unfold tkA at hs2; omega
          rw [hz4.out] at hT
          clear hc hc5 hz4 hs2
          generalize zs.getD q 0 = z at *
          generalize (ts.getD q TaskV.zero).p = y at *
          generalize sumTo (kmZ ts zs k) q = s at *
          by_cases hzk : z = (k : Int)
          · rw [if_pos hzk] at hT
            subst hzk
            have hw : IntKind.i64.wrap (s + y) = s + y := wrap_in _ (by omega) (by omega)
            go_wp2
            go_round
            case rel => exact ⟨q + 1, by omega, by rw [hT.out], by go_num⟩
            case measure => simp [intOf]; omega
          · rw [if_neg hzk, Int.add_zero] at hT
            go_wp2
            go_round
            case rel => exact ⟨q + 1, by omega, by rw [hT.out], by go_num⟩
            case measure => simp [intOf]; omega
        · obtain rfl : q = zs.length := by omega
          have hqt' : ¬ ((zs.length : Int) < (zs.length : Int)) := by omega
          clear hsm
          generalize sumTo (kmZ ts zs k) zs.length = x at *
          generalize (List.range k).map (fun u => sumTo (kmZ ts zs u) zs.length) = xs at *
          have ho1 := own_keep ho (balloc wr (.cells #[.int .i64 x] 3))
          have hb3 := btrans hbr (balloc wr (.cells #[.int .i64 x] 3))
          have hsz := hbr.size
          clear I5 O5r
          go_wp2_with (at_builtin; refine wpList_append_own _ rfl _ _ 27 rfl w1.heap.size 3 i0 _ 1 8 Try.underlying27 hi hz0 hz1 hz2 rfl (by decide) _ _ _ rfl ho1 ⟨wr.heap.size, 0, none⟩ 1 1 [.int .i64 x] rfl rfl ?c1 ?c2 ?c3 ?c4 ?c5 ?_)
          case c2 => simp [Value.oneCell']
          case c3 => unfold maxLen; omega
          case c4 => omega
          case c5 => first | omega | (simp; omega)
          intro v2 w5 hown hgrow _
          have hb5 := hb3.grown hgrow hb3.size (own_from ho1 (Nat.le_refl _))
          have hown2 : w5.ownsRow w1.heap.size 3 1 v2 (k + 1) ((xs ++ [x]).map (Value.int .i64)) := by rw [List.map_append]; exact hown
          rw [← hrk.out] at hown2
          obtain ⟨v2a, v2c, rfl⟩ := own_form hown2
          clear hgrow hown ho1 hb3 ho
          go_wp2
          go_roundw
          case rel => exact ⟨k + 1, by omega, by go_num, hown2, hb5⟩
          case measure => simp [intOf]; omega
    · obtain rfl : k = K := by omega
      have hlt' : ¬ ((k : Int) < (k : Int)) := by omega
      have C1 := CU wr hbr
      have ho2 := Go.Joins.ownsRow_le ho hb.size
      have hb3 := btrans hb hbr
      have hlen : Hid (((List.range k).map (fun u => sumTo (kmZ ts zs u) zs.length)).length = k) := hide (by simp)
      clear CU ho
      go_wp2_with fail
      refine C1.mono ?_
      rintro e w2 ⟨rfl, hw⟩
      subst w2
      go_wp2
      go_ret
      exact ⟨_, _, rfl, hU.out, by rw [hlen.out]; exact ho2, hb3⟩
end Go.Proofs.Ytbnhkkaiohmllaa
