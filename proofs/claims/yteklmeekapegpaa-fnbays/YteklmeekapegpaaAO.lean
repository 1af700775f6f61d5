/- AssignOk of the program. -/
import Derived.Test.YteklmeekapegpaaST
namespace Go.Proofs.Yteklmeekapegpaa
open Go.RowKit Go.Conc

def mayB (zs : List Int) (len k : Int) : Bool := decide (k = -1) || (inB k 0 ((zs.length : Int) - 1) && decide (len ≤ zs.getD k.toNat 0))
def May (zs : List Int) (len k : Int) : Prop := k = -1 ∨ ∃ b : Nat, b < zs.length ∧ k = b ∧ len ≤ zs.getD b 0
theorem mayB_iff (zs : List Int) (len k : Int) : mayB zs len k = true ↔ May zs len k := by
  unfold mayB May
  rw [Bool.or_eq_true, Bool.and_eq_true, decide_eq_true_eq, decide_eq_true_eq]
  constructor
  · rintro (h | ⟨h1, h2⟩)
    · exact .inl h
    · have := inB_true h1
      exact .inr ⟨k.toNat, by omega, by omega, h2⟩
  · rintro (h | ⟨b, h1, rfl, h2⟩)
    · exact .inl h
    · exact .inr ⟨inB_yes (by omega) (by omega), by simpa using h2⟩
set_option maxHeartbeats 800000 in
theorem cMayStand (a : Option Addr) (ca : Nat) (zs : List Int) (len k : Int) (w : World) (hz : Ints w a zs) (hl : zs.length ≤ 1048576) :
    Calls Try.prog 49 #[.slice a zs.length ca, .int .i64 len, .int .i64 k] w fun e w' => e = .returned (.bool (mayB zs len k)) ∧ w' = w := by
  have E : Hid (mayB zs len k = (decide (k = -1) || (inB k 0 ((zs.length : Int) - 1) && decide (len ≤ zs.getD k.toNat 0)))) := rfl
  have hw1 : IntKind.i64.wrap ((zs.length : Int) - 1) = (zs.length : Int) - 1 := wrap_in _ (by omega) (by omega)
  by_cases h1 : k = -1
  · have R := hide (show mayB zs len k = true by rw [E.out]; simp [h1])
    clear E
    subst h1
    go_enter Try.func49, Try.ntmps49
    go_wp2
    go_ret
    exact ⟨ret_bool R.out.symm, rfl⟩
  have h1' : ((k : Int) == -1) = false := by simp [h1]
  cases h2 : inB k 0 ((zs.length : Int) - 1)
  · have R := hide (show mayB zs len k = false by rw [E.out, h2]; simp [h1])
    clear E
    go_enter Try.func49, Try.ntmps49
    go_wp2_with (go_at_call 55; refine (cWithin _ _ _ _).mono ?_; rintro e w' ⟨rfl, rfl⟩)
    go_ret
    exact ⟨ret_bool R.out.symm, rfl⟩
  obtain ⟨h3, h4⟩ := inB_true h2
  obtain ⟨b, rfl⟩ : ∃ b : Nat, k = b := ⟨k.toNat, by omega⟩
  have hb : b < zs.length := by omega
  have hb' : (b : Int) < (zs.length : Int) := by omega
  rcases hz with h | ⟨zb, zo, rfl, hc⟩
  · simp [h] at hb
  have q0 := hc b hb
  rw [show ((b : Int)).toNat = b from rfl] at E
  clear hc
  generalize zs.getD b 0 = y at *
  by_cases hy : len ≤ y
  · have R := hide (show mayB zs len b = true by rw [E.out, h2]; simp [hy])
    clear E
    go_enter Try.func49, Try.ntmps49
    go_wp2_with (go_at_call 55; refine (cWithin _ _ _ _).mono ?_; rintro e w' ⟨rfl, rfl⟩)
    go_ret
    exact ⟨ret_bool R.out.symm, rfl⟩
  · have R := hide (show mayB zs len b = false by rw [E.out, h2]; simp [hy])
    clear E
    go_enter Try.func49, Try.ntmps49
    go_wp2_with (go_at_call 55; refine (cWithin _ _ _ _).mono ?_; rintro e w' ⟨rfl, rfl⟩)
    go_ret
    exact ⟨ret_bool (by rw [R.out]; exact decide_eq_false (by omega)), rfl⟩

/-- The list is a right one. -/
structure AOk (zs : List Int) (ss : List StayV) (g : Int) (ls : List Int) : Prop where
  ok : assignOk zs ss g = true
  len : ls.length = ss.length
  may : ∀ i, i < ss.length → May zs (lenA ss i) (ls.getD i 0)
  clean : ∀ i k, i < ss.length → k < ss.length → ¬ Clash ss g ls i k
structure OkPost (zs : List Int) (ss : List StayV) (g : Int) (ls : List Int) (w : World) (e : Ending) (w' : World) : Prop where
  ex : ∃ r, e = .returned (.bool r) ∧ (r = true ↔ AOk zs ss g ls)
  below : Below w.heap.size w w'
theorem OkPost.no {zs : List Int} {ss : List StayV} {g : Int} {ls : List Int} {w w' : World} (h : ¬ AOk zs ss g ls) (hb : Below w.heap.size w w') : OkPost zs ss g ls w (.returned (.bool false)) w' := ⟨⟨false, rfl, by simp [h]⟩, hb⟩
theorem OkPost.yes {zs : List Int} {ss : List StayV} {g : Int} {ls : List Int} {w w' : World} (h : AOk zs ss g ls) (hb : Below w.heap.size w w') : OkPost zs ss g ls w (.returned (.bool true)) w' := ⟨⟨true, rfl, by simp [h]⟩, hb⟩
theorem placed_of {zs : List Int} {ss : List StayV} {ls : List Int} (hl : ls.length = ss.length) (h : ∀ i, i < ss.length → May zs (lenA ss i) (ls.getD i 0)) : Placed zs.length ls := fun i hi => by
  rcases h i (by omega) with h | ⟨b, h1, h2, _⟩
  · exact .inl h
  · exact .inr ⟨b, h1, h2⟩

set_option maxRecDepth 20000 in
set_option maxHeartbeats 1600000 in
theorem cAssignOkI (a : Option Addr) (ca : Nat) (zs : List Int) (b : Option Addr) (cb : Nat) (ss : List StayV) (g : Int) (l : Option Addr) (cl : Nat) (ls : List Int) (w : World) (hz : Ints w a zs) (hl : zs.length ≤ 1048576) (hy : Stays w b ss) (hl2 : ss.length ≤ 1048576) (hx : Ints w l ls) :
    Calls Try.prog 18 #[.slice a zs.length ca, .slice b ss.length cb, .int .i64 g, .slice l ls.length cl] w (OkPost zs ss g ls w) := by
  go_enter Try.func18, Try.ntmps18
  go_wp2_with fail
  refine (cBaysI a ca zs _ hz hl).mono ?_
  rintro e w1 ⟨rfl, hw⟩
  subst w1
  cases hZ : baysB zs
  · have hf : Hid (¬ AOk zs ss g ls) := hide (fun h => by have := h.ok; simp [assignOk, hZ] at this)
    clear hZ
    go_wp2
    go_ret
    exact OkPost.no hf.out (Below.refl _ _)
  go_wp2_with fail
  refine (cStaysI b cb ss _ hy hl2).mono ?_
  rintro e w1 ⟨rfl, hb1⟩
  cases hS : staysB ss
  · have hf : Hid (¬ AOk zs ss g ls) := hide (fun h => by have := h.ok; simp [assignOk, hS] at this)
    clear hZ hS
    go_wp2
    go_ret
    exact OkPost.no hf.out hb1
  go_wp2_with fail
  refine (cGapI g _).mono ?_
  rintro e w2 ⟨rfl, hw⟩
  subst w2
  cases hG : gapB g
  · have hf : Hid (¬ AOk zs ss g ls) := hide (fun h => by have := h.ok; simp [assignOk, hG] at this)
    clear hZ hS hG
    go_wp2
    go_ret
    exact OkPost.no hf.out hb1
  obtain ⟨hz1, hz12⟩ := bays_len hZ
  have h60 := stays_len hS
  have hg1 := (inB_true hG).1
  have hF := hide (fine_of hS)
  have hOk : Hid (assignOk zs ss g = true) := hide (by simp [assignOk, hZ, hS, hG])
  have hT5 : Hid (∀ k, k < ss.length → fA ss k ≤ 100000) := hide (fun k hk => by have := stays_get hS hk; unfold fA; omega)
  have CP := fun V hV => cPassages b cb ss g V hV hS hG
  clear hZ hS hG
  by_cases hL : ls.length = ss.length
  · have hL' : ((ls.length : Int) != (ss.length : Int)) = false := by simp [hL]
    replace hL := hide hL
    go_wp2
    go_loop [35] (fun x => ∃ k : Nat, k ≤ ls.length ∧ x = .int .i64 k ∧ Hid (∀ i, i < k → May zs (lenA ss i) (ls.getD i 0))) (fun x => ls.length - (intOf x).toNat)
    case atStart => exact ⟨0, Nat.zero_le _, rfl, hide (fun i h => by omega)⟩
    case round =>
      obtain ⟨k, hk, rfl, hA⟩ := hrel
      by_cases hlt : k < ls.length
      · have hks : k < ss.length := by rw [← hL.out]; exact hlt
        have hks' : (k : Int) < (ss.length : Int) := by omega
        have hxB := hx.below hb1
        rcases hxB with h | ⟨lb, lo, rfl, hc⟩
        · simp [h] at hlt
        have q0 := hc k hlt
        have hyB := hy.below hb1
        rcases hyB with h | ⟨sb, so, rfl, hsc⟩
        · simp [h] at hks
        have q1 := (hsc k hks).2.2
        have CM := cMayStand a ca zs (ss.getD k StayV.zero).l (ls.getD k 0) w1 (hz.below hb1) hl
        have hMi := hide (mayB_iff zs (ss.getD k StayV.zero).l (ls.getD k 0))
        have hNx : mayB zs (ss.getD k StayV.zero).l (ls.getD k 0) = true → Hid (∀ i, i < k + 1 → May zs (lenA ss i) (ls.getD i 0)) := fun h => hide (fun i hi => by
          by_cases e : i = k
          · subst e; exact hMi.out.1 h
          · exact hA.out i (by omega))
        have hNo : mayB zs (ss.getD k StayV.zero).l (ls.getD k 0) = false → Hid (¬ AOk zs ss g ls) := fun h => hide (fun hx => by
          have := hMi.out.2 (hx.may k hks)
          rw [h] at this; cases this)
        clear hc hsc hA hMi
        generalize (ss.getD k StayV.zero).l = ln at *
        generalize ls.getD k 0 = lk at *
        go_wp2_with fail
        refine CM.mono ?_
        rintro e w2 ⟨rfl, hw⟩
        subst hw
        cases hm : mayB zs ln lk
        · have hf := hNo hm
          clear hNx hNo hm CM
          go_wp2
          go_ret
          exact OkPost.no hf.out hb1
        · have hS := hNx hm
          clear hNx hNo hm CM
          go_wp2
          go_round
          case rel => exact ⟨k + 1, by omega, by go_num, hS⟩
          case measure => simp [intOf]; omega
      · obtain rfl : k = ls.length := by omega
        have hMay : Hid (∀ i, i < ss.length → May zs (lenA ss i) (ls.getD i 0)) := hide (fun i hi => hA.out i (by rw [hL.out]; exact hi))
        have hPl := hide (placed_of hL.out hMay.out)
        clear hA
        go_wp2_with fail
        refine (CP _ (hy.below hb1)).mono ?_
        rintro e w2 ⟨v, es, rfl, hp, hI, hb2⟩
        obtain ⟨pa, pc, rfl⟩ := own_form hp
        have hb3 := btrans hb1 hb2
        have CS := cStanding zs.length pa pc es l cl ls 100000 ss g w2 (Passes.own hp) hI (hx.below hb3) hz1 hz12 h60 hg1 hF.out hL.out hPl.out
        go_wp2_with fail
        refine CS.mono ?_
        rintro e w3 ⟨hb4, hR⟩
        have hb5 := btrans hb3 hb4
        clear CS CP hb4 hb3 hb2 hp hPl
        rcases hR with ⟨j, ga, cs, occ, hU, hS, -, -, rfl⟩ | ⟨⟨i, k, hi, hk, hC⟩, rfl⟩
        · have hfin : Hid (AOk zs ss g ls) := hide ⟨hOk.out, hL.out, hMay.out, fun i k hi hk => hS.clean i k hi hk ((hU.mem hI.sorted ((hI.mem _).2 ⟨i, hi, .inl rfl⟩)).2 (hT5.out i hi))⟩
          clear hU hS hI
          go_wp2
          go_ret
          exact OkPost.yes hfin.out hb5
        · have hfin : Hid (¬ AOk zs ss g ls) := hide (fun h => h.clean i k hi hk hC)
          clear hC hI
          go_wp2
          go_ret
          exact OkPost.no hfin.out hb5
  · have hL' : ((ls.length : Int) != (ss.length : Int)) = true := by simp; omega
    have hf : Hid (¬ AOk zs ss g ls) := hide (fun h => hL h.len)
    clear hL
    go_wp2
    go_ret
    exact OkPost.no hf.out hb1
end Go.Proofs.Yteklmeekapegpaa
