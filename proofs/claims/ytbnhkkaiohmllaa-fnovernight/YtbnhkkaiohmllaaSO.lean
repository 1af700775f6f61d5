/- The model's order of the tasks. -/
import Derived.Test.YtbnhkkaiohmllaaCH
import Derived.Deep.AppendLies
namespace Go.Proofs.Ytbnhkkaiohmllaa
open Go.RowKit

def intsOf (os : List Nat) : List Int := os.map Int.ofNat
def lenOf : Value → Nat
  | .slice _ n _ => n
  | _ => 0
theorem intsOf_get (os : List Nat) {k : Nat} (hk : k < os.length) : (intsOf os).getD k 0 = ((os.getD k 0 : Nat) : Int) := by simp [intsOf, List.getD, hk]
theorem intsOf_mem {os : List Nat} {k : Nat} : (k : Int) ∈ intsOf os ↔ k ∈ os := by
  unfold intsOf
  rw [List.mem_map]
  constructor
  · rintro ⟨o, ho, e⟩; have : o = k := Int.ofNat.inj e
    subst this; exact ho
  · intro h; exact ⟨k, h, rfl⟩
theorem has_drop {zs : List Int} {x : Int} {k : Nat} (hk : k < zs.length) : decide (x ∈ zs.drop k) = (decide (zs[k] = x) || decide (x ∈ zs.drop (k + 1))) := by
  rw [List.drop_eq_getElem_cons hk, Bool.eq_iff_iff]
  simp only [Bool.or_eq_true, decide_eq_true_eq, List.mem_cons]
  constructor
  · rintro (h | h)
    · exact .inl h.symm
    · exact .inr h
  · rintro (h | h)
    · exact .inl h.symm
    · exact .inr h

set_option maxHeartbeats 800000 in
theorem cHas (a : Option Addr) (cap : Nat) (zs : List Int) (x : Int) (w : World) (hz : Ints w a zs) (hl : zs.length ≤ 1048576) :
    Calls Try.prog 83 #[.slice a zs.length cap, .int .i64 x] w fun e w' => e = .returned (.bool (decide (x ∈ zs))) ∧ w' = w := by
  generalize hr : decide (x ∈ zs) = res
  have hr0 : Hid (decide (x ∈ zs.drop 0) = res) := hr
  clear hr
  go_enter Try.func83, Try.ntmps83
  go_wp2
  go_loop [5] (fun i => ∃ k : Nat, k ≤ zs.length ∧ i = .int .i64 k ∧ Hid (decide (x ∈ zs.drop k) = res)) (fun i => zs.length - (intOf i).toNat)
  case atStart => exact ⟨0, Nat.zero_le _, rfl, hr0⟩
  case round =>
    obtain ⟨k, hk, rfl, hres⟩ := hrel
    clear hr0
    by_cases hlt : k < zs.length
    · rcases hz with h | ⟨b, off, rfl, hc⟩
      · simp [h] at hlt
      have q0 := hc k hlt
      have e0 : zs.getD k 0 = zs[k] := by simp [List.getD, hlt]
      rw [e0] at q0
      have hd := hide ((has_drop (x := x) hlt).symm.trans hres.out)
      generalize zs[k] = y at *
      clear hc e0 hres
      by_cases hy : y = x
      · have hf := hide (show res = true by rw [← hd.out]; simp [hy])
        clear hd
        subst hy
        go_wp2
        go_ret
        exact ⟨ret_bool hf.out.symm, rfl⟩
      · have hf := hide (show decide (x ∈ zs.drop (k + 1)) = res by rw [← hd.out]; simp [hy])
        clear hd
        go_wp2
        go_round
        case rel => exact ⟨k + 1, by omega, by go_num, hf⟩
        case measure => simp [intOf]; omega
    · obtain rfl : k = zs.length := by omega
      have hf := hide (show res = false by rw [← hres.out, List.drop_length]; simp)
      clear hz
      go_wp2
      go_ret
      exact ⟨ret_bool hf.out.symm, rfl⟩

/-- The order as an answer. -/
def AnsOrder (ss : List TaskV) (w : World) (e : Ending) (w' : World) : Prop := ∃ v os, e = .returned v ∧ w'.ownsRow w.heap.size 3 1 v (List.length os) ((intsOf os).map (Value.int .i64)) ∧ Ord ss os ∧ Below w.heap.size w w'

set_option maxRecDepth 20000 in
set_option maxHeartbeats 3200000 in
theorem cOrder (a : Option Addr) (cap : Nat) (ss : List TaskV) (w : World) (hz : Tasks w a ss) (hl : ss.length ≤ 40) :
    Calls Try.prog 63 #[.slice a ss.length cap] w (AnsOrder ss w) := by
  obtain ⟨i0, hi, hz0, hz1, hz2⟩ := info_parts infoInts
  have hO := World.ownsRow_made (base := w.heap.size) (e := 3) (size := 1) w #[] 0 (Nat.le_refl _) (by unfold maxLen; omega) rfl
  have HB := balloc w (.cells #[] 3)
  go_enter Try.func63, Try.ntmps63
  go_wp2
  go_loopw [3] (fun v wr => ∃ os : List Nat, IsOrder ss os ∧ wr.ownsRow w.heap.size 3 1 v os.length ((intsOf os).map (Value.int .i64)) ∧ Below w.heap.size w wr) (fun v _ => ss.length - lenOf v)
  case atStart => exact ⟨[], IsOrder.nil ss, by simpa [intsOf] using hO, HB⟩
  case round =>
    obtain ⟨os, hos, ho, hb⟩ := hrel
    clear hO HB
    obtain ⟨va, vc, rfl⟩ := own_form ho
    obtain ⟨wo, rfl⟩ : ∃ wo, wo = wr := ⟨wr, rfl⟩
    have hol := hos.len
    have hIn : Ints wo va (intsOf os) := Ints.own ho (by simp [intsOf])
    by_cases hlt : os.length < ss.length
    · have hlt' : (os.length : Int) < (ss.length : Int) := by omega
      have hlI : Hid ((intsOf os).length = os.length) := hide (by simp [intsOf])
      have CH := fun (k : Nat) V (hV : Below wo.heap.size wo V) => cHas va vc (intsOf os) (k : Int) V (hIn.below hV) (by rw [hlI.out]; omega)
      rw [hlI.out] at CH
      have hpush := hide (fun b => hos.push (b := b) hlt)
      go_wp2
      go_loopw [4, 5] (fun b i wr => ∃ k : Nat, ∃ bb : Int, k ≤ ss.length ∧ b = .int .i64 bb ∧ i = .int .i64 k ∧ Hid (NextTo ss os k bb) ∧ -1 ≤ bb ∧ bb < ss.length ∧ Below wo.heap.size wo wr) (fun _ i _ => ss.length - (intOf i).toNat)
      case atStart => exact ⟨0, -1, Nat.zero_le _, rfl, rfl, hide (.inl ⟨rfl, fun i h => by omega⟩), by omega, by omega, Below.refl _ _⟩
      case round =>
        obtain ⟨k, bb, hk, rfl, rfl, hN, hb0, hb1, hbr⟩ := hrel
        by_cases hkl : k < ss.length
        · have hkl' : (k : Int) < (ss.length : Int) := by omega
          have C1 := CH k
          have hbw := btrans hb hbr
          by_cases hm : k ∈ os
          · have hN2 := hide (hN.out.skip hm)
            rw [decide_eq_true (intsOf_mem.2 hm)] at C1
            clear hm hN CH
            go_wp2
            go_quiet (first | (go_at_call 83; with_reducible refine Calls.quiet_of_same (C1 _ (bdraw hbr _))))
            go_wp2
            go_roundw
            case rel => exact ⟨k + 1, bb, by omega, rfl, by go_num, hN2, hb0, hb1, bdraw hbr _⟩
            case measure => simp [intOf]; omega
          · rw [decide_eq_false (fun h => hm (intsOf_mem.1 h))] at C1
            rcases hz with h | ⟨b, off, rfl, hc⟩
            · simp [h] at hkl
            have qk := ble hbw (hc k hkl).2.2.1
            have hfk : Hid ((tkA ss k).f = (ss.getD k TaskV.zero).f) := rfl
            rw [← hfk.out] at qk
            by_cases hneg : bb < 0
            · obtain rfl : bb = -1 := by omega
              have hN2 := hide (hN.out.first hm)
              clear hm hN CH hc
              generalize (tkA ss k).f = fk at *
              go_wp2
              go_quiet (first | (go_at_call 83; with_reducible refine Calls.quiet_of_same (C1 _ (bdraw hbr _))))
              go_wp2
              go_roundw
              case rel => exact ⟨k + 1, k, by omega, rfl, by go_num, hN2, by omega, by omega, bdraw hbr _⟩
              case measure => simp [intOf]; omega
            · obtain ⟨m, rfl⟩ : ∃ m : Nat, bb = m := ⟨bb.toNat, by omega⟩
              have hml : m < ss.length := by omega
              have qm := ble hbw (hc m hml).2.2.1
              have hfm : Hid ((tkA ss m).f = (ss.getD m TaskV.zero).f) := rfl
              rw [← hfm.out] at qm
              have hnd : decide ((m : Int) < 0) = false := by simp
              by_cases hf : (tkA ss k).f < (tkA ss m).f
              · have hN2 := hide (hN.out.less hm hf)
                have hfd : decide ((tkA ss k).f < (tkA ss m).f) = true := decide_eq_true hf
                clear hm hN CH hc
                generalize (tkA ss k).f = fk at *
                generalize (tkA ss m).f = fm at *
                go_wp2
                go_quiet (first | (go_at_call 83; with_reducible refine Calls.quiet_of_same (C1 _ (bdraw hbr _))))
                go_wp2
                go_roundw
                case rel => exact ⟨k + 1, k, by omega, rfl, by go_num, hN2, by omega, by omega, bdraw hbr _⟩
                case measure => simp [intOf]; omega
              · have hN2 := hide (hN.out.more hf)
                have hfd : decide ((tkA ss k).f < (tkA ss m).f) = false := decide_eq_false hf
                clear hm hN CH hc
                generalize (tkA ss k).f = fk at *
                generalize (tkA ss m).f = fm at *
                go_wp2
                go_quiet (first | (go_at_call 83; with_reducible refine Calls.quiet_of_same (C1 _ (bdraw hbr _))))
                go_wp2
                go_roundw
                case rel => exact ⟨k + 1, m, by omega, rfl, by go_num, hN2, by omega, by omega, bdraw hbr _⟩
                case measure => simp [intOf]; omega
        · obtain rfl : k = ss.length := by omega
          obtain ⟨m, rfl, hml, hos2⟩ := hpush.out bb hN.out
          have hbw := btrans hb hbr
          have ho1 := own_keep ho hbr
          have ho2 := own_keep ho1 (balloc wr (.cells #[.int .i64 m] 3))
          have hb2 := btrans hbw (balloc wr (.cells #[.int .i64 m] 3))
          clear hN CH hbr
          go_wp2_with (at_builtin; refine wpList_append_own _ rfl _ _ 27 rfl w.heap.size 3 i0 _ 1 8 Try.underlying27 hi hz0 hz1 hz2 rfl (by decide) _ _ _ rfl ho2 ⟨wr.heap.size, 0, none⟩ 1 1 [.int .i64 m] rfl rfl ?c1 ?c2 ?c3 ?c4 ?c5 ?_)
          case c1 => exact World.news_of_block (heap_alloc_new wr _)
          case c2 => simp [Value.oneCell']
          case c3 => unfold maxLen; omega
          case c4 => omega
          case c5 => have := hbw.size; simp; omega
          intro v2 w5 hown hgrow _
          have hb5 := hb2.grown hgrow hb2.size (own_from ho1 (Nat.le_refl _))
          have hown2 : w5.ownsRow w.heap.size 3 1 v2 (os ++ [m]).length ((intsOf (os ++ [m])).map (Value.int .i64)) := by
            simpa [intsOf] using hown
          obtain ⟨v2a, v2c, rfl⟩ := own_form hown2
          clear hgrow hown ho2 hb2 ho1
          go_wp2
          go_roundw
          case rel => exact ⟨os ++ [m], hos2, hown2, hb5⟩
          case measure => simp [lenOf]; omega
    · have hle : Hid (os.length = ss.length) := hide (by omega)
      have hlt' : ¬ ((os.length : Int) < (ss.length : Int)) := by omega
      clear hIn
      go_wp2
      go_ret
      exact ⟨_, os, rfl, ho, hos.ord hle.out, hb⟩
end Go.Proofs.Ytbnhkkaiohmllaa
