/- The model's search. -/
import Derived.Test.YtggdejceobagcaaK
namespace Go.Proofs.Ytggdejceobagcaa
open Go.RowKit

theorem cell_far {w w' : World} {r : Option Nat} (hg : w.grownBy w' r) {b o : Nat} {v : Value} (hr : some b ≠ r) (hc : w.cell? ⟨b, o, none⟩ = some v) : w'.cell? ⟨b, o, none⟩ = some v := by
  have := hg.block b (cell_lt hc) hr
  rw [← hc]
  simp only [World.cell?, this]
theorem Ints.off {w w' : World} {a : Option Addr} {zs : List Int} {g : Nat} (h : Ints w a zs) (hg : w.grownBy w' (some g)) (hn : ∀ x, a = some x → x.block ≠ g) : Ints w' a zs := by
  rcases h with h | ⟨b, off, ha, hc⟩
  · exact .inl h
  · exact .inr ⟨b, off, ha, fun i hi => cell_far hg (by have := hn _ ha; simp; exact this) (hc i hi)⟩
theorem Singles.off {w w' : World} {a : Option Addr} {es : List SingleV} {g : Nat} (h : Singles w a es) (hg : w.grownBy w' (some g)) (hn : ∀ x, a = some x → x.block ≠ g) : Singles w' a es := by
  rcases h with h | ⟨b, off, ha, hc⟩
  · exact .inl h
  · refine .inr ⟨b, off, ha, fun i hi => ⟨cell_far hg ?_ (hc i hi).1, cell_far hg ?_ (hc i hi).2⟩⟩ <;> (have := hn _ ha; simp; exact this)
theorem mayMove_at {ls : List Int} {ts : List SingleV} (h : singlesOk ls ts = true) {k : Nat} (hk : k < ts.length) : mayMove ls ts k = mayGo ls ts k := by
  simp only [mayMove, Int.toNat_natCast, h, Bool.true_and]
  rw [inB_yes (by omega) (by omega), Bool.true_and]
theorem moveR_at {ls : List Int} {ts : List SingleV} (h : singlesOk ls ts = true) {k : Nat} (hk : k < ts.length) (hm : mayGo ls ts k = true) : moveR ls ts k = moveT ts k := by
  rw [moveR_yes (by rw [mayMove_at h hk]; exact hm), Int.toNat_natCast]

set_option maxRecDepth 20000 in
set_option maxHeartbeats 3200000 in
theorem cSearchS (ls : List Int) (a : Option Addr) (ca g N : Nat) (hl : lineOk ls = true) (hag : ∀ x, a = some x → x.block ≠ g) (n : Nat) :
    ∀ (ts : List SingleV) (S : List Bool) (b : Option Addr) (cb : Nat) (w : World), far ts = n → singlesOk ls ts = true → Ints w a ls → Singles w b ts → (∀ x, b = some x → x.block ≠ g) →
      w.ownsRow 0 4 1 (.slice (some ⟨g, 0, none⟩) N N) N (S.map Value.bool) → N = (2 * ls.length - 1) ^ ts.length → Seen ls (2 * (ls.length : Int) - 1) ts S →
    Calls Try.prog 45 #[.slice a ls.length ca, .slice b ts.length cb, .slice (some ⟨g, 0, none⟩) N N] w fun e w' => ∃ S', e = .returned (.bool (canFin ls ts)) ∧
      w'.ownsRow 0 4 1 (.slice (some ⟨g, 0, none⟩) N N) N (S'.map Value.bool) ∧ w.grownBy w' (some g) ∧ (canFin ls ts = false → NewSeen ls (2 * (ls.length : Int) - 1) ts S S') := by
  obtain ⟨-, hl2, hl5⟩ := lineOk_parts hl
  induction n using Nat.strongRecOn with
  | _ n IH =>
  intro ts S b cb w hfar hok hz ht hbg O hN hseen
  obtain ⟨-, hm4, -⟩ := singlesOk_parts hok
  cases hd : doneT ts
  rotate_left
  · have hc := canFin_done (ls := ls) hd
    go_enter Try.func45, Try.ntmps45
    go_wp2_with fail
    refine (cDoneS b cb ts _ ht (by omega)).mono ?_
    rintro e w1 ⟨rfl, hb⟩
    have O1 := own_keep O hb
    have G1 : w.grownBy w1 (some g) := gof hb
    rw [hd]
    clear hd IH hseen hb O
    go_wp2
    go_ret
    exact ⟨S, ret_bool hc.symm, O1, G1, fun h => by rw [hc] at h; cases h⟩
  have hkin := ok_kin hok
  have e2 : (2 * (ls.length : Int) - 1) = ((2 * ls.length - 1 : Nat) : Int) := by omega
  have hkr : ∀ q, Kin (2 * (ls.length : Int) - 1) ts q → 0 ≤ keyN (2 * (ls.length : Int) - 1) q ∧ keyN (2 * (ls.length : Int) - 1) q < (N : Int) := by
    intro q hq
    rw [e2] at hq ⊢
    have := keyN_rng (M := 2 * ls.length - 1) (by omega) q.length q rfl hq.spots
    rw [hq.len, ← hN] at this
    exact this
  have hstart : NowSeen ls (2 * (ls.length : Int) - 1) ts S (S.set (keyN (2 * (ls.length : Int) - 1) ts).toNat true) := by
    rw [e2] at hkin ⊢
    exact NowSeen.start (by omega) hkin S
  have hSl : S.length = N := by have := O.1; simpa using this
  generalize hmm : (2 * (ls.length : Int) - 1) = m at *
  have CM := fun w' k (h1 : Ints w' a ls) (h2 : Singles w' b ts) => cMoveOnS a b ca cb ls ts k w' h1 (by omega) h2 (by omega)
  have CK := fun (w' : World) b' cb' (q : List SingleV) (h2 : Singles w' b' q) (h3 : Kin m ts q) => cKeyS a b' ca cb' ls q w' h2 hl2 hl5 (by rw [h3.len]; exact hm4) (by rw [hmm]; exact h3.spots)
  rw [hmm] at CK
  replace hmm := hide hmm
  replace e2 := hide e2
  replace hSl := hide hSl
  replace hN := hide hN
  replace hfar := hide hfar
  go_enter Try.func45, Try.ntmps45
  go_wp2_with fail
  refine (cDoneS b cb ts _ ht (by omega)).mono ?_
  rintro e w1 ⟨rfl, hb⟩
  have O1 := own_keep O hb
  have G1 : w.grownBy w1 (some g) := gof hb
  rw [hd]
  clear hb O
  go_wp2_with fail
  refine (CK _ b cb ts (ht.off G1 hbg) hkin).mono ?_
  rintro e w2 ⟨rfl, hw⟩
  subst w2
  obtain ⟨k0, k1⟩ := hkr ts hkin
  generalize keyN m ts = key at *
  have hkt : ((key.toNat : Nat) : Int) = key := by omega
  have hkN : key.toNat < N := by omega
  have hfr := O1.frozenAt key.toNat
  have hcell : ∃ x, w1.cell? ⟨g, key.toNat, none⟩ = some (.bool x) := by
    refine ⟨S.getD key.toNat false, ?_⟩
    rw [O1.cellAt _ (by omega)]
    have := hSl.out
    simp [List.getD, show key.toNat < S.length by omega]
  obtain ⟨x0, hcell⟩ := hcell
  obtain ⟨O2, -⟩ := O1.stored key.toNat (.bool true)
  have hmap : (S.map Value.bool).set key.toNat (.bool true) = (S.set key.toNat true).map Value.bool := by rw [List.map_set]
  rw [hmap] at O2
  have G2 := gset G1 key.toNat (.bool true)
  clear O1 G1 hmap
  replace hkt := hide hkt
  go_wp2
  go_loopw [7] (fun i wr => ∃ (k : Nat) (S' : List Bool), k ≤ ts.length ∧ i = .int .i64 k ∧ wr.ownsRow 0 4 1 (.slice (some ⟨g, 0, none⟩) N N) N (S'.map Value.bool) ∧ w.grownBy wr (some g) ∧ NowSeen ls m ts S S' ∧ ∀ j, j < k → goodI ls ts j = false) (fun i _ => ts.length - (intOf i).toNat)
  case atStart => exact ⟨0, _, Nat.zero_le _, rfl, O2, G2, hstart, fun j h => by omega⟩
  case round =>
    obtain ⟨k, S', hk, rfl, O, G, hnow, hbad⟩ := hrel
    clear hstart O2 G2 hcell hfr
    by_cases hlt : k < ts.length
    · have C := CM wr k (hz.off G hag) (ht.off G hbg)
      rw [mayMove_at hok hlt] at C
      cases hmg : mayGo ls ts k
      · have hbad2 : ∀ j, j < k + 1 → goodI ls ts j = false := by
          intro j hj
          by_cases e : j = k
          · subst e; simp [goodI, hmg]
          · exact hbad j (by omega)
        rw [hmg] at C
        clear CM CK IH hbad hkr
        go_wp2_with fail
        refine C.mono ?_
        rintro e w3 ⟨v, rfl, -, hb3⟩
        have O3 := own_keep O hb3
        have G3 := gbelow G hb3
        clear C O G hb3
        go_wp2
        go_roundw
        case rel => exact ⟨k + 1, S', by omega, by go_num, O3, G3, hnow, hbad2⟩
        case measure => simp [intOf]; omega
      · have hgk : goodI ls ts k = canFin ls (moveT ts k) := by simp only [goodI, hmg, Bool.true_and]
        have hbad2 : canFin ls (moveT ts k) = false → ∀ j, j < k + 1 → goodI ls ts j = false := by
          intro h j hj
          by_cases e : j = k
          · subst e; rw [hgk]; exact h
          · exact hbad j (by omega)
        have hgood : canFin ls (moveT ts k) = true → canFin ls ts = true := fun h => canFin_of hlt (by rw [hgk]; exact h)
        rw [hmg, moveR_at hok hlt hmg, moveT_len] at C
        have hokR := move_ok hok hlt hmg
        have hfR := far_move hlt hmg
        have hKR := move_kin hok hlt hmg
        rw [hmm.out] at hKR
        have hlenR := moveT_len ts k
        have hhit := hnow.hit hseen hKR (by omega)
        have hsub := hnow.sub hseen hKR (by omega)
        have hstep := fun S'' => hnow.step (S'' := S'') hKR
        have hgO := owns_lt O
        obtain ⟨r0, r1⟩ := hkr _ hKR
        have IHR := fun b cb w h1 h2 h3 h4 => IH (far (moveT ts k)) (by rw [← hfar.out]; omega) (moveT ts k) S' b cb w rfl hokR h1 h2 h3 h4 (by rw [hlenR]; exact hN.out) hsub
        rw [hlenR] at IHR
        have CKR := fun w' b' cb' h => CK w' b' cb' (moveT ts k) h hKR
        rw [hlenR] at CKR
        clear CM CK IH hbad hkr hgk hsub hokR hfR hKR hlenR
        generalize moveT ts k = R at *
        replace hgood := hide hgood
        replace hbad2 := hide hbad2
        replace hhit := hide hhit
        replace hstep := hide hstep
        have hS'l : S'.length = N := by have := O.1; simpa using this
        replace hS'l := hide hS'l
        go_wp2_with fail
        refine C.mono ?_
        rintro e w3 ⟨v, rfl, OV, hb3⟩
        have O3 := own_keep O hb3
        have G3 := gbelow G hb3
        have hvf := own_from OV (Nat.le_refl _)
        obtain ⟨vo, vc, rfl⟩ := own_form OV
        have SV := Singles.own OV
        have hvg : ∀ x, vo = some x → x.block ≠ g := by
          intro x hx
          subst hx
          have := hvf x.block rfl
          omega
        clear C O G hb3 OV hvf
        go_wp2_with fail
        refine (CKR _ vo vc SV).mono ?_
        rintro e w4 ⟨rfl, hw⟩
        subst w4
        generalize hkey : keyN m R = key2 at *
        have hkt2 : ((key2.toNat : Nat) : Int) = key2 := by omega
        have hkN2 : key2.toNat < N := by omega
        have hc3 : w3.cell? ⟨g, key2.toNat, none⟩ = some (.bool (S'.getD key2.toNat false)) := by
          rw [O3.cellAt _ (by omega)]
          have := hS'l.out
          simp [List.getD, show key2.toNat < S'.length by omega]
        replace hkt2 := hide hkt2
        cases hx : S'.getD key2.toNat false
        · rw [hx] at hc3
          clear hhit hx hkey
          go_wp2_with fail
          refine (IHR vo vc _ (hz.off G3 hag) SV hvg O3).mono ?_
          rintro e w5 ⟨S2, rfl, O5, G5, hnew⟩
          have G6 := gtrans G3 G5
          clear IHR O3 G3 G5 SV hvg hc3 CKR
          cases hcf : canFin ls R
          · have hb3 := hbad2.out hcf
            have hn3 := hstep.out S2 (hnew hcf)
            clear hbad2 hstep hnew hgood hnow
            go_wp2
            go_roundw
            case rel => exact ⟨k + 1, S2, by omega, by go_num, O5, G6, hn3, hb3⟩
            case measure => simp [intOf]; omega
          · have hc := hgood.out hcf
            clear hbad2 hstep hnew hgood hnow hseen
            go_wp2
            go_ret
            exact ⟨S2, ret_bool hc.symm, O5, G6, fun h => by rw [hc] at h; cases h⟩
        · have hb3 := hbad2.out (hhit.out hx)
          rw [hx] at hc3
          clear hhit hx hkey hbad2 hstep hgood IHR CKR SV hvg
          go_wp2
          go_roundw
          case rel => exact ⟨k + 1, S', by omega, by go_num, O3, G3, hnow, hb3⟩
          case measure => simp [intOf]; omega
    · obtain rfl : k = ts.length := by omega
      have hc := canFin_none hd hbad
      clear CM CK IH hkr hbad hseen
      go_wp2
      go_ret
      exact ⟨S', ret_bool hc.symm, O, G, fun _ => hnow.done hc⟩
end Go.Proofs.Ytggdejceobagcaa
