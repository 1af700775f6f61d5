/- Fleet of the model. -/
import Derived.Test.YtbnhkkaiohmllaaSN
import Derived.Test.YtbnhkkaiohmllaaMF
import Derived.Deep.RegionHeld3
namespace Go.Proofs.Ytbnhkkaiohmllaa
open Go.RowKit Go.Lib

def cntF (bs : List Bool) (N : Nat) : Int := sumTo (fun b => if bs.getD b false = true then 0 else 1) N
theorem sumTo_le {f g : Nat → Int} {n : Nat} (h : ∀ i, i < n → f i ≤ g i) : sumTo f n ≤ sumTo g n := by
  induction n with
  | zero => simp [sumTo]
  | succ n ih => have := ih (fun i hi => h i (by omega)); have := h n (by omega); rw [sumTo, sumTo]; omega
theorem cntF_mono {bs ck : List Bool} {N : Nat} (h : ∀ b, sA bs b → sA ck b) : cntF ck N ≤ cntF bs N := by
  refine sumTo_le (fun i _ => ?_)
  have := h i
  unfold sA at this
  by_cases h1 : bs.getD i false = true
  · rw [if_pos h1, if_pos (this h1)]; omega
  · rw [if_neg h1]; split <;> omega
theorem cntF_set {bs : List Bool} {N b : Nat} (hl : bs.length = N) (hb : b < N) (hs : bs.getD b false = false) : cntF (bs.set b true) N = cntF bs N - 1 := by
  unfold cntF
  rw [sumTo_one (f := fun c => if (bs.set b true).getD c false = true then 0 else 1) (g := fun c => if bs.getD c false = true then 0 else 1) hb (fun i hi => by simp only [List.getD_eq_getElem?_getD, List.getElem?_set_ne (Ne.symm hi)])]
  rw [show (bs.set b true).getD b false = true by simp [List.getD_eq_getElem?_getD, hl, hb], hs]
  simp
  omega
theorem cntF_nonneg (bs : List Bool) (N : Nat) : 0 ≤ cntF bs N := sumTo_nonneg (fun i _ => show (0 : Int) ≤ if bs.getD i false = true then 0 else 1 by split <;> omega)
abbrev FF (ts : List TaskV) (n : Int) (a b : Nat) : Prop := folB (tkA ts a) (tkA ts b) n = true
/-- What the model's search leaves behind. -/
def MPost (B : Nat) (ts : List TaskV) (n : Int) (x : Nat) (aq : List Int) (bs : List Bool) (ga ca gs cs : Nat) (w : World) (e : Ending) (w' : World) : Prop :=
  ∃ r aq' bs', e = .returned (.bool r) ∧ w'.ownsRow B 3 1 (.slice (some ⟨ga, 0, none⟩) ts.length ca) ts.length (aq'.map (Value.int .i64)) ∧ w'.ownsRow B 4 1 (.slice (some ⟨gs, 0, none⟩) ts.length cs) ts.length (bs'.map Value.bool) ∧ Below B w w' ∧ MRes (FF ts n) ts.length x aq bs r aq' bs'
theorem mA_get {aq : List Int} {k : Nat} (hk : k < aq.length) : aq.getD k 0 = mA aq k := by unfold mA; simp [List.getD, hk]

set_option maxRecDepth 20000 in
set_option maxHeartbeats 6400000 in
theorem cKuhn (a : Option Addr) (cap : Nat) (ts : List TaskV) (n : Int) (w0 : World) (hz : Tasks w0 a ts) (h40 : ts.length ≤ 40) (ga ca gs cs : Nat) :
    ∀ (u x : Nat) (aq : List Int) (bs : List Bool) (w : World), (cntF bs ts.length).toNat = u → x < ts.length → aq.length = ts.length → bs.length = ts.length → Valid (FF ts n) ts.length aq → w.ownsRow w0.heap.size 3 1 (.slice (some ⟨ga, 0, none⟩) ts.length ca) ts.length (aq.map (Value.int .i64)) → w.ownsRow w0.heap.size 4 1 (.slice (some ⟨gs, 0, none⟩) ts.length cs) ts.length (bs.map Value.bool) → Below w0.heap.size w0 w →
      Calls Try.prog 76 #[.slice a ts.length cap, .int .i64 n, .int .i64 x, .slice (some ⟨ga, 0, none⟩) ts.length ca, .slice (some ⟨gs, 0, none⟩) ts.length cs] w (MPost w0.heap.size ts n x aq bs ga ca gs cs w) := by
  intro u
  induction u using Nat.strongRecOn with
  | ind u ih =>
  intro x aq bs w hu hx hla hlb hv OA OS hbw
  replace hla := hide hla
  replace hlb := hide hlb
  replace hu := hide hu
  replace ih := hide ih
  replace hv := hide hv
  have hL0 : Hid (LInv (FF ts n) ts.length x aq bs 0 bs) := hide (LInv.start hlb.out)
  have hxN : (x : Int) < (ts.length : Int) := by omega
  go_enter Try.func76, Try.ntmps76
  go_wp2
  go_loopw [11] (fun i wr => ∃ (k : Nat) (ck : List Bool), k ≤ ts.length ∧ i = .int .i64 k ∧ Hid (LInv (FF ts n) ts.length x aq bs k ck) ∧ wr.ownsRow w0.heap.size 3 1 (.slice (some ⟨ga, 0, none⟩) ts.length ca) ts.length (aq.map (Value.int .i64)) ∧ wr.ownsRow w0.heap.size 4 1 (.slice (some ⟨gs, 0, none⟩) ts.length cs) ts.length (ck.map Value.bool) ∧ Below w0.heap.size w wr) (fun i _ => ts.length - (intOf i).toNat)
  case atStart => exact ⟨0, bs, Nat.zero_le _, rfl, hL0, OA, OS, Below.refl _ _⟩
  case round =>
    obtain ⟨k, ck, hk, rfl, hL, OA, OS, hbr⟩ := hrel
    clear hL0
    have hbW := hbw.trans hbr
    by_cases hlt : k < ts.length
    · have hlt' : (k : Int) < (ts.length : Int) := by omega
      have hlc := hide hL.out.lb
      have s0 : wr.cell? ⟨gs, k, none⟩ = some (.bool (ck.getD k false)) := by
        rw [OS.cellAt k (by omega), List.getElem?_map]
        simp [List.getD, hlc.out, hlt]
      have s1 := OS.frozenAt k
      rcases hz with h | ⟨b, off, rfl, hc⟩
      · simp [h] at hlt
      obtain ⟨y0, y1, y2, y3, y4⟩ := tk_cells hc hbW hx
      obtain ⟨x0, x1, x2, x3, x4⟩ := tk_cells hc hbW hlt
      have CF := fun w => cFolS (tkA ts x) (tkA ts k) n w
      have hFd : Hid (FF ts n x k ↔ folB (tkA ts x) (tkA ts k) n = true) := hide Iff.rfl
      have hskip := hide (fun h => hL.out.skip h)
      generalize tkA ts x = ty at *
      generalize tkA ts k = tx at *
      obtain ⟨ye, yd, yf, yt, yp⟩ := ty
      obtain ⟨xe, xd, xf, xt, xp⟩ := tx
      unfold TaskV.val at CF
      dsimp only at *
      have hsv : Hid (∀ v, ck.getD k false = v → (sA ck k ↔ v = true)) := hide (fun v e => by unfold sA; rw [e])
      clear hc
      cases hsk : ck.getD k false
      rotate_left
      · -- it was asked
        rw [hsk] at s0
        have hL2 := hide (hskip.out (fun _ => (hsv.out _ hsk).2 rfl))
        clear hskip hsv hFd hL
        go_wp2
        go_quiet (fail)
        go_wp2
        go_roundw
        case rel => exact ⟨k + 1, ck, by omega, by go_num, hL2, own_keep OA (bdraw (Below.refl _ _) _), own_keep OS (bdraw (Below.refl _ _) _), bdraw hbr _⟩
        case measure => simp [intOf]; omega
      rw [hsk] at s0
      have hns : Hid (¬ sA ck k) := hide (fun h => by have := (hsv.out _ hsk).1 h; cases this)
      cases hf : folB ⟨ye, yd, yf, yt, yp⟩ ⟨xe, xd, xf, xt, xp⟩ n
      · rw [hf] at CF
        have hL2 := hide (hskip.out (fun h => by have := hFd.out.1 h; rw [hf] at this; cases this))
        clear hskip hsv hFd hL hf hsk
        go_wp2_with fail
        go_region_held3 (fun w' => w'.cell? ⟨b, off + x * 5, none⟩ = some (.int .i64 ye) ∧ w'.cell? ⟨b, off + x * 5 + 1, none⟩ = some (.int .i64 yd) ∧ w'.cell? ⟨b, off + x * 5 + 2, none⟩ = some (.int .i64 yf) ∧ w'.cell? ⟨b, off + x * 5 + 3, none⟩ = some (.int .i64 yt) ∧ w'.cell? ⟨b, off + x * 5 + 4, none⟩ = some (.int .i64 yp) ∧ w'.cell? ⟨b, off + k * 5, none⟩ = some (.int .i64 xe) ∧ w'.cell? ⟨b, off + k * 5 + 1, none⟩ = some (.int .i64 xd) ∧ w'.cell? ⟨b, off + k * 5 + 2, none⟩ = some (.int .i64 xf) ∧ w'.cell? ⟨b, off + k * 5 + 3, none⟩ = some (.int .i64 xt) ∧ w'.cell? ⟨b, off + k * 5 + 4, none⟩ = some (.int .i64 xp) ∧ w'.cell? ⟨gs, k, none⟩ = some (.bool false)) (go_keep) ((go_at_call 37; with_reducible refine (CF _).mono ?_; rintro e w5 ⟨rfl, hbf⟩; replace hbf := undrew hbf; have v0 := ble hbf y0; have v1 := ble hbf y1; have v2 := ble hbf y2; have v3 := ble hbf y3; have v4 := ble hbf y4; have u0 := ble hbf x0; have u1 := ble hbf x1; have u2 := ble hbf x2; have u3 := ble hbf x3; have u4 := ble hbf x4; have u5 := ble hbf s0))
        have hb3 := hbr.trans (hbf.mono (by have := hbW.size; omega))
        have OA3 := own_keep OA hbf
        have OS3 := own_keep OS hbf
        go_wp2
        go_roundw
        case rel => exact ⟨k + 1, ck, by omega, by go_num, hL2, OA3, OS3, hb3⟩
        case measure => simp [intOf]; omega
      rw [hf] at CF
      have hFx := hide (hFd.out.2 hf)
      have hck : Hid (cntF (ck.set k true) ts.length = cntF ck ts.length - 1) := hide (cntF_set hlc.out hlt hsk)
      have hcm : Hid (cntF ck ts.length ≤ cntF bs ts.length) := hide (cntF_mono hL.out.mono)
      clear hskip hsv hFd hf
      go_wp2_with fail
      go_region_held3 (fun w' => w'.cell? ⟨b, off + x * 5, none⟩ = some (.int .i64 ye) ∧ w'.cell? ⟨b, off + x * 5 + 1, none⟩ = some (.int .i64 yd) ∧ w'.cell? ⟨b, off + x * 5 + 2, none⟩ = some (.int .i64 yf) ∧ w'.cell? ⟨b, off + x * 5 + 3, none⟩ = some (.int .i64 yt) ∧ w'.cell? ⟨b, off + x * 5 + 4, none⟩ = some (.int .i64 yp) ∧ w'.cell? ⟨b, off + k * 5, none⟩ = some (.int .i64 xe) ∧ w'.cell? ⟨b, off + k * 5 + 1, none⟩ = some (.int .i64 xd) ∧ w'.cell? ⟨b, off + k * 5 + 2, none⟩ = some (.int .i64 xf) ∧ w'.cell? ⟨b, off + k * 5 + 3, none⟩ = some (.int .i64 xt) ∧ w'.cell? ⟨b, off + k * 5 + 4, none⟩ = some (.int .i64 xp) ∧ w'.cell? ⟨gs, k, none⟩ = some (.bool false)) (go_keep) ((go_at_call 37; with_reducible refine (CF _).mono ?_; rintro e w5 ⟨rfl, hbf⟩; replace hbf := undrew hbf; have v0 := ble hbf y0; have v1 := ble hbf y1; have v2 := ble hbf y2; have v3 := ble hbf y3; have v4 := ble hbf y4; have u0 := ble hbf x0; have u1 := ble hbf x1; have u2 := ble hbf x2; have u3 := ble hbf x3; have u4 := ble hbf x4; have u5 := ble hbf s0))
      clear v0 v1 v2 v3 v4 u0 u1 u2 u3 u4 y0 y1 y2 y3 y4 x0 x1 x2 x3 x4
      have hb3 := hbr.trans (hbf.mono (by have := hbW.size; omega))
      have hbW3 := hbW.trans (hbf.mono (by have := hbW.size; omega))
      have OA3 := own_keep OA hbf
      have OS3 := own_keep OS hbf
      have g0 := OS3.frozenAt k
      have OS4 := (OS3.stored k (.bool true)).1
      have hgne : ga ≠ gs := fun e => own_ne OA3 OS3 (by decide) ga rfl (by rw [e]; rfl)
      have hgne2 : gs ≠ ga := Ne.symm hgne
      have OA4 := own_set (b := gs) (i := k) (u := .bool true) OA3 (fun q hq => by have h9 : ga = q := (by simpa [Value.ownBlock] using hq); omega)
      have hgsB : w0.heap.size ≤ gs := own_from OS3 (Nat.le_refl _) gs rfl
      have hgaB : w0.heap.size ≤ ga := own_from OA3 (Nat.le_refl _) ga rfl
      have hb4 := below_set (o := k) (v := .bool true) hgsB hb3
      have hbW4 := below_set (o := k) (v := .bool true) hgsB hbW3
      have a0 : w5.cell? ⟨ga, k, none⟩ = some (.int .i64 (aq.getD k 0)) := by
        rw [OA3.cellAt k (by omega), List.getElem?_map]
        simp [List.getD, hla.out, hlt]
      have hms := OS4
      rw [← List.map_set] at hms
      have hmk : Hid (aq.getD k 0 = mA aq k) := hide (mA_get (by rw [hla.out]; exact hlt))
      rw [hmk.out] at a0
      clear OS4 OA OS hbr hbf
      have hVk := hv.out k hlt
      by_cases hneg : mA aq k < 0
      · have hM := hide (hL.out.free hla.out hlt hns.out hFx.out hx hv.out hneg)
        have a1 := OA4.frozenAt k
        have OA5 := (OA4.stored k (.int .i64 x)).1
        rw [← List.map_set] at OA5
        have OS5 := own_set (b := ga) (i := k) (u := .int .i64 x) hms (fun q hq => by have h9 : gs = q := (by simpa [Value.ownBlock] using hq); omega)
        have hb5 := below_set (o := k) (v := .int .i64 x) hgaB hb4
        generalize mA aq k = mk at *
        clear hL hVk hms OA3 OS3 OA4
        go_wp2
        go_ret
        exact ⟨true, _, _, rfl, OA5, OS5, hb5, hM.out⟩
      · obtain ⟨y, hy, hyN, hyF⟩ : ∃ y : Nat, mA aq k = y ∧ y < ts.length ∧ FF ts n y k := by
          rcases hVk with h | h
          · omega
          · exact h
        have hlS : (ck.set k true).length = ts.length := by rw [List.length_set]; exact hlc.out
        have hcn := cntF_nonneg (ck.set k true) ts.length
        have CI := ih.out (cntF (ck.set k true) ts.length).toNat (by have := hck.out; have := hcm.out; have := hu.out; omega) y aq (ck.set k true) _ rfl hyN hla.out hlS hv.out OA4 hms hbW4
        have hlost := hide (fun aq' ck' R => hL.out.lost (x := y) (aq' := aq') (ck' := ck') hlt hy R)
        have hwon := hide (fun aq' ck' R => hL.out.won (x := y) (aq' := aq') (ck' := ck') hlt hns.out hFx.out hx hy R)
        rw [hy] at a0 hneg
        have hneg2 : ¬ ((y : Int) < 0) := by omega
        clear hVk hL hms OA3 OS3 OA4 hy ih hlc hcn hck hcm hlS
        go_wp2_with fail
        refine CI.mono ?_
        rintro e w6 ⟨r, aq', ck', rfl, OA6, OS6, hb6, hM⟩
        have hb7 := hb4.trans (hb6.mono (Nat.le_refl _))
        cases r
        · have hL2 := hide (hlost.out aq' ck' hM)
          have has : aq' = aq := (hM.no rfl).1
          subst has
          clear hlost hwon hM CI
          go_wp2
          go_roundw
          case rel => exact ⟨k + 1, ck', by omega, by go_num, hL2, OA6, OS6, hb7⟩
          case measure => simp [intOf]; omega
        · have hM2 := hide (hwon.out aq' ck' hM)
          have hla6 := hM.la
          have a6 : w6.cell? ⟨ga, k, none⟩ = some (.int .i64 (aq'.getD k 0)) := by
            rw [OA6.cellAt k (by omega), List.getElem?_map]
            simp [List.getD, hla6, hlt]
          have a7 := OA6.frozenAt k
          have OA7 := (OA6.stored k (.int .i64 x)).1
          rw [← List.map_set] at OA7
          have OS7 := own_set (b := ga) (i := k) (u := .int .i64 x) OS6 (fun q hq => by have h9 : gs = q := (by simpa [Value.ownBlock] using hq); omega)
          have hb8 := below_set (o := k) (v := .int .i64 x) hgaB hb7
          clear hlost hwon hM CI hla6
          generalize aq'.getD k 0 = z6 at *
          go_wp2
          go_ret
          exact ⟨true, _, _, rfl, OA7, OS7, hb8, hM2.out⟩
    · obtain rfl : k = ts.length := by omega
      have hlt' : ¬ ((ts.length : Int) < (ts.length : Int)) := by omega
      have hM := hide (hL.out.fin hla.out)
      clear hL hz
      go_wp2
      go_ret
      exact ⟨false, aq, ck, rfl, OA, OS, hbr, hM.out⟩
end Go.Proofs.Ytbnhkkaiohmllaa
