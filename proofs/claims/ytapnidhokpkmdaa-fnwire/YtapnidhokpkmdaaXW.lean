/- The walk of FnWire. -/
import Derived.Test.YtapnidhokpkmdaaXV
import Derived.BigQuiet
import Derived.Deep.CutRange
namespace Go.Proofs.Ytapnidhokpkmdaa
open Go.RowKit Fl
attribute [local go_sem] run_store_float

def LowK (l : List C2) (k j : Nat) : Prop := (k = 0 ∧ j = 0) ∨ (j < k ∧ lowI l k = (j : Int))
theorem LowK.step {l : List C2} {k j : Nat} (h : LowK l k j) (hs : (szAt l k).isSome = true) (L : Bool) (hL : ltZ (szAt l k) (szAt l j) = L) : LowK l (k + 1) (bif L then k else j) := by
  rcases h with ⟨rfl, rfl⟩ | ⟨h1, h2⟩
  · refine .inr ⟨by cases L <;> simp, ?_⟩
    rw [lowI_succ]
    have : lowP l (lowI l 0) 0 = true := by unfold lowP; rw [hs]; rfl
    rw [this]
    cases L <;> rfl
  · refine .inr ⟨by cases L <;> simp <;> omega, ?_⟩
    rw [lowI_succ, h2]
    have : lowP l (j : Int) k = L := by
      unfold lowP
      rw [hs, Int.toNat_natCast, hL, decide_eq_false (by omega)]
      rfl
    rw [this]
    cases L <;> rfl
theorem LowK.lt {l : List C2} {k j n : Nat} (h : LowK l k j) (hk : k < n) : j < n := by
  rcases h with ⟨rfl, rfl⟩ | ⟨h1, h2⟩ <;> omega
/-- A difference that stands for a number is a plain one. -/
theorem sub_of {x y u : Nat} {k : Nat} {n : Int} (h : cl u = zo .sub (cl x) (cl y)) (hd : Dz k n (cl u)) : ∃ r, cl u = cl r ∧ ∀ t w, (binOp .sub t (.float .f64 x) (.float .f64 y)).run Try.prog w = .ok (.float .f64 r) w := by
  obtain ⟨r, hr, hq⟩ := hd
  rw [hr] at h
  have hb : floatBits .sub .f64 x y = some r := by
    cases hx : cl x with
    | none => rw [hx] at h; cases h
    | some x' =>
      cases hy : cl y with
      | none => rw [hx, hy] at h; cases h
      | some y' =>
        rw [hx, hy] at h
        obtain ⟨rfl, -⟩ := cl_some hx
        obtain ⟨rfl, -⟩ := cl_some hy
        exact h.symm
  refine ⟨r, ?_, fopD hb⟩
  have := bits_not hb
  rw [hr]
  simp [cl, this]

theorem madeZ (n i : Nat) (h : i < n * 2) : (madeCells (Value.agg #[.float .f64 0, .float .f64 0]).cells (n * 2))[i]? = some (.float .f64 0) := by
  have h4 : i % 2 < 2 := Nat.mod_lt _ (by omega)
  simp only [madeCells, Value.cells]
  generalize hq : i % 2 = q at h4
  match q, h4 with
  | 0, _ => simp [h, hq]
  | 1, _ => simp [h, hq]
theorem makeZ {n : Nat} (h : n ≤ 40) {i1 : TypeInfo} (hi : Try.prog.info? 26 = some i1) (hz0 : i1.zero = some (.agg #[.float .f64 0, .float .f64 0])) (hz1 : i1.size = 2) (hz2 : i1.bytes = 16) :
    ∃ M, (∀ w' : World, (Instr.makeSlice 27 (.int .i64 (n : Int)) (.int .i64 (n : Int))).run Try.prog w' = .ok (.slice (some ⟨w'.heap.size, 0, none⟩) n n) (w'.alloc (.cells M 26))) ∧ ∀ w' : World, Zs (w'.alloc (.cells M 26)) (some ⟨w'.heap.size, 0, none⟩) (zeros n) := by
  refine ⟨madeCells (Value.agg #[.float .f64 0, .float .f64 0]).cells (n * 2), fun w' => ?_, fun w' => .inr ⟨_, _, rfl, fun i hi => ?_⟩⟩
  · have h := run_make (P := Try.prog) w' 27 26 i1 (.agg #[.float .f64 0, .float .f64 0]) Try.underlying27 hi hz0 .i64 .i64 (n : Int) (n : Int) (by omega) (by omega) (by rw [hz2]; omega) (by omega)
    rw [hz1] at h
    rw [h, Int.toNat_natCast]
  · have hi2 : i < n := by simpa [zeros] using hi
    have hb := one_block w' (.cells (madeCells (Value.agg #[.float .f64 0, .float .f64 0]).cells (n * 2)) 26)
    have hz : (zeros n).getD i ZV.zero = ZV.zero := by simp [zeros, List.getD, hi2]
    rw [hz]
    refine ⟨?_, ?_⟩
    · rw [Nat.zero_add]; exact (Go.Joins.cell_of_block hb (i * 2)).trans (madeZ n (i * 2) (by omega))
    · rw [Nat.zero_add]; exact (Go.Joins.cell_of_block hb (i * 2 + 1)).trans (madeZ n (i * 2 + 1) (by omega))
theorem ge_D {k : Nat} {N : Int} {a b : Option Nat} (h0 : 0 ≤ N) (ha : Dz k N a) (hb : Dz k 0 b) : geZ a b = true := by
  unfold geZ
  rw [ha.cmp hb]
  have : compare N 0 = if N < 0 then Ordering.lt else if N = 0 then .eq else .gt := rfl
  rw [this, if_neg (by omega)]
  by_cases h : N = 0 <;> simp [h]
theorem fed_D {v : ZV} {ls ds us : List ZV} (h : Wr v ls ds) (hl : us.length = ls.length) (hu : ∀ k, k < ls.length → (us.getD k ZV.zero).c = vAt v.c (cs ls) (cs ds) (k + 1)) : fedB (zo .mul (cl 0) (cl 0)) (cs us) = true := by
  have h7 := h.n7
  unfold fedB
  rw [cs_len, decide_eq_true (by omega), Bool.true_and, List.all_eq_true]
  intro c hc
  obtain ⟨z, hz, rfl⟩ := List.mem_map.1 hc
  obtain ⟨i, hi, rfl⟩ := List.getElem_of_mem hz
  have e : us[i] = us.getD i ZV.zero := by simp [List.getD, hi]
  rw [e, hu i (by omega)]
  obtain ⟨N, h0, hN⟩ := size_D h (k := i) (by omega)
  have hq := ((Dq.zero 9).cl).mul ((Dq.zero 9).cl) (by decide) (by omega)
  rw [Int.zero_mul] at hq
  exact ge_D h0 hN (Dz.as hq (by decide))
theorem loss_yes {v : ZV} {ls ds : List ZV} (h : Wr v ls ds) : lossC (cs ls) (cs ds) = lAt (cs ls) (cs ds) ls.length := by
  rw [lossC_yes (wireB_yes h.len.symm (by have := h.n7; omega)), cs_len]
theorem still_at {v : ZV} {ls ds : List ZV} (h : Wr v ls ds) {k : Nat} (hk : k < ls.length) {z : ZV} (hz : z.c = vAt v.c (cs ls) (cs (zeros ls.length)) (k + 1)) : FloatKind.f64.format.order z.re v.re = some .eq ∧ FloatKind.f64.format.order z.im v.im = some .eq := by
  obtain ⟨p, q, h1, h2, h3, h4, h5⟩ := h.v
  have := still_D h h5 ⟨by omega, by omega⟩ ⟨by omega, by omega⟩ (k + 1) (by omega)
  rw [← hz] at this
  exact ⟨eq_of this.1 h5.1, eq_of this.2 h5.2⟩

set_option maxRecDepth 20000 in
set_option maxHeartbeats 12800000 in
theorem walkWireD (a : Option Addr) (cap : Nat) (bs : List Int) (w : World) (hz : Bytes w a bs) (hn : bs.length ≤ maxLen) :
    Calls Try.prog 3 #[.slice a bs.length cap] w fun e w' => e = .returned (.bool true) ∧ Below w.heap.size w w' := by
  obtain ⟨i1, hi1, hy0, hy1, hy2⟩ := info_parts infoZs
  go_enter Try.func3, Try.ntmps3
  go_wp2_with fail
  refine (cbig a cap bs.length _ hn).mono ?_
  rintro e w1 ⟨rfl, hw⟩
  subst w1
  by_cases hB : 1048576 < bs.length
  · rw [decide_eq_true hB]
    go_wp2
    go_ret
    exact ⟨rfl, Below.refl _ _⟩
  rw [decide_eq_false hB]
  have hl : bs.length ≤ 1048576 := by omega
  clear hB
  go_wp2_with fail
  refine (cDrawWire cap a bs _ hz hl).mono ?_
  rintro e w1 ⟨v, la, da, lc, dc, ls, ds, rfl, hlen, hn1, hn7, hV, hL, hD, VL, VD, HB⟩
  have hW := hide (⟨hlen, hn1, hn7, hV, hL, hD⟩ : Wr v ls ds)
  have hSA := hide (fun ss h => sums_at (ss := ss) (ds := ds) h (by omega))
  have hVA := hide (fun us h => volts_at (us := us) (v := v) (ls := ls) (ds := ds) h (by omega) (by omega))
  have CS := fun w2 h => cSumsI da dc ds w2 h (by unfold maxLen; omega)
  have CV := fun w2 h1 h2 => cVoltsI v la da lc dc ls ds w2 h1 h2 (by unfold maxLen; omega)
  have CV0 := fun w2 (b : Option Addr) (bc : Nat) h1 h2 => cVoltsI v la b lc bc ls (zeros ls.length) w2 h1 h2 (by unfold maxLen; omega)
  have CL := fun w2 h1 h2 => cLossesI la da lc dc ls ds w2 h1 h2 (by unfold maxLen; omega)
  have CL0 := fun w2 (b : Option Addr) (bc : Nat) h1 h2 => cLossesI la b lc bc ls (zeros ls.length) w2 h1 h2 (by unfold maxLen; omega)
  have CLS := fun w2 h1 h2 => cLossesS la da lc dc ls ds w2 h1 h2 (by unfold maxLen; omega)
  have hzl : (zeros ls.length).length = ls.length := by simp [zeros]
  obtain ⟨n, hn⟩ : ∃ n, ls.length = n := ⟨_, rfl⟩
  have HL := hide hn
  have HD : Hid (ds.length = n) := hide (hlen.trans hn)
  rw [hzl, hn] at CV0 CL0
  rw [hlen, hn] at CS CV CL CLS
  rw [hn] at hn1 hn7 ⊢
  rw [HD.out] at hSA
  rw [HL.out] at hVA
  clear hlen hV hL hD hzl hn
  obtain ⟨v0, v1⟩ := v
  simp only [ZV.val] at CV CV0 ⊢
  have hbx := balloc w1 (.cells #[.float .f64 v0, .float .f64 v1] 26)
  have K3 := one_block w1 (.cells #[.float .f64 v0, .float .f64 v1] 26)
  have VL1 := VL.below hbx
  have VD1 := VD.below hbx
  replace HB := btrans HB hbx
  clear VL VD hbx
  go_wp2_with fail
  generalize w1.heap.size = b3 at K3 ⊢
  generalize w1.alloc (.cells #[.float .f64 v0, .float .f64 v1] 26) = w2 at *
  refine (CS w2 VD1).mono ?_
  rintro e w3 ⟨sv, ss, rfl, OS, hss, hb⟩
  obtain ⟨hsl, hsa⟩ := hSA.out ss hss
  rw [hsl] at OS
  obtain ⟨sa, sc, rfl⟩ := own_form OS
  have VS := Zs.own OS
  have HSL := hide hsl
  have HSA := hide hsa
  replace HB := btrans HB hb
  replace VL1 := VL1.below hb
  replace VD1 := VD1.below hb
  replace K3 := keepB hb K3
  clear CS hSA hss hsl hsa OS hb
  obtain ⟨⟨c0, c1⟩, -⟩ := twoC K3
  go_wp2_with fail
  refine (CV w3 VL1 VD1).mono ?_
  rintro e w4 ⟨uv, us, rfl, OU, hus, hb⟩
  obtain ⟨hul, hua⟩ := hVA.out us hus
  rw [hul] at OU
  obtain ⟨ua, uc, rfl⟩ := own_form OU
  have VU := Zs.own OU
  have HUL := hide hul
  have HUA := hide hua
  replace HB := btrans HB hb
  replace VL1 := VL1.below hb
  replace VD1 := VD1.below hb
  replace VS := VS.below hb
  replace K3 := keepB hb K3
  clear CV hVA hus hul hua OU hb c0 c1
  -- the last current is its own
  obtain ⟨m, hm⟩ : ∃ m, m + 1 = n := ⟨n - 1, by omega⟩
  have hmn : m < n := by omega
  have VS0 := VS
  have VD0 := VD1
  have hms : m < ss.length := by have := HSL.out; omega
  have hmd : m < ds.length := by have := HD.out; omega
  have ec : (ss.getD m ZV.zero).c = (ds.getD m ZV.zero).c := by rw [HSA.out m hmn, sAt_last (by rw [cs_len, HD.out]; exact hm), gC_cs hmd]
  rcases VS with h | ⟨sb, so, rfl, qs⟩
  · simp [h] at hms
  rcases VD1 with h | ⟨db, do', rfl, qd⟩
  · simp [h] at hmd
  obtain ⟨p0, p1⟩ := qs m hms
  obtain ⟨p2, p3⟩ := qd m hmd
  have e1 : IntKind.i64.wrap ((n : Int) - 1) = (m : Int) := (wrap_in _ (by omega) (by omega)).trans (by omega)
  have HQS := hide qs
  have HQD := hide qd
  clear qs qd
  generalize ss.getD m ZV.zero = x at *
  generalize ds.getD m ZV.zero = y at *
  obtain ⟨x0, x1⟩ := x
  obtain ⟨y0, y1⟩ := y
  dsimp only at p0 p1 p2 p3
  simp only [ZV.c, Prod.mk.injEq] at ec
  have S1 := fun w9 => cSameB x0 y0 w9 ec.1
  have S2 := fun w9 => cSameB x1 y1 w9 ec.2
  have g0 : ((n : Int) != (n : Int)) = false := by simp
  clear ec
  go_upto_region 7 with fail
  go_quiet (first | (go_at_call 20; with_reducible refine Calls.quiet_of (S1 _)) | (go_at_call 20; with_reducible refine Calls.quiet_of (S2 _)))
  have hbq := Go.Joins.below_draws w4.heap.size w4 nq
  replace HB := btrans HB hbq
  replace VL1 := VL1.below hbq
  replace VD0 := VD0.below hbq
  replace VS0 := VS0.below hbq
  replace VU := VU.below hbq
  replace K3 := keepB hbq K3
  clear p0 p1 p2 p3 S1 S2 e1 hm hmn hms hmd VS0
  generalize w4.drewN nq = w5 at *
  have VL0 := VL1
  have VU0 := VU
  rcases VL1 with h | ⟨lb, lo, rfl, ql⟩
  · have := HL.out; simp [h] at this; omega
  rcases VU with h | ⟨ub, uo, rfl, qu⟩
  · have := HUL.out; simp [h] at this; omega
  have HQL := hide ql
  have HQU := hide qu
  clear ql qu
  obtain ⟨⟨c0, c1⟩, -⟩ := twoC K3
  have hb9 := balloc w5 (.cells #[.float .f64 v0, .float .f64 v1] 26)
  have K9 : Bz _ w5.heap.size ⟨v0, v1⟩ := one_block w5 (.cells #[.float .f64 v0, .float .f64 v1] 26)
  go_wp2_with fail
  clear c0 c1
  go_loopw [10, 11, 12, 13] (fun lw i _ _ wr => ∃ (k j : Nat) (z : ZV), k ≤ n ∧ i = .int .i64 k ∧ lw = .int .i64 j ∧ LowK (cs us) k j ∧ Bz wr w5.heap.size z ∧ z.c = vAt (ZV.c ⟨v0, v1⟩) (cs ls) (cs ds) k ∧ Below w5.heap.size w5 wr) (fun _ i _ _ _ => n - (intOf i).toNat)
  case atStart => exact ⟨0, 0, ⟨v0, v1⟩, Nat.zero_le _, rfl, rfl, .inl ⟨rfl, rfl⟩, K9, rfl, hb9⟩
  case round =>
    clear K9 hb9
    obtain ⟨k, j, ⟨z0, z1⟩, hk, rfl, rfl, hLw, KZ, hzc, hb⟩ := hrel
    by_cases hlt : k < n
    · have hjn := hLw.lt hlt
      obtain ⟨d0, d1, hV1⟩ : ∃ x y : Int, DC 9 x y (vAt (ZV.c ⟨v0, v1⟩) (cs ls) (cs ds) (k + 1)) := by
        obtain ⟨p, q, -, -, -, -, h⟩ := volt_D hW.out (k + 1) (by rw [HL.out]; omega)
        exact ⟨p, q, h⟩
      have hkl : k < ls.length := by have := HL.out; omega
      have hks : k < ss.length := by have := HSL.out; omega
      have hku : k < us.length := by have := HUL.out; omega
      have hju : j < us.length := by have := HUL.out; omega
      have hkd : k < ds.length := by have := HD.out; omega
      have hgl := hide (gC_cs hkl)
      have hgd := hide (gC_cs hkd)
      have hgu := hide (gC_cs hku)
      have hgj := hide (gC_cs hju)
      have hsk := hide (HSA.out k hlt)
      have huk := hide (HUA.out k hlt)
      have hss : Hid ((szAt (cs us) k).isSome = true) := hide (by
        obtain ⟨N, -, h⟩ := size_D hW.out (k := k) (by rw [HL.out]; exact hlt)
        unfold szAt
        rw [hgu.out, huk.out]
        exact h.some)
      have hbs := btrans hbq hb
      obtain ⟨p0, p1⟩ := HQL.out k hkl
      obtain ⟨q0, q1⟩ := HQS.out k hks
      replace p0 := ble hb p0
      replace p1 := ble hb p1
      replace q0 := ble hbs q0
      replace q1 := ble hbs q1
      have hSK : Hid (ss.getD k ZV.zero = ss.getD k ZV.zero) := hide rfl
      generalize ls.getD k ZV.zero = x at *
      obtain ⟨xr, xi⟩ := x
      generalize hy : ss.getD k ZV.zero = y at p0 p1 q0 q1 hsk
      obtain ⟨yr, yi⟩ := y
      dsimp only at p0 p1 q0 q1
      clear hSK
      have hSK := hide hy
      clear hy
      generalize hu : us.getD k ZV.zero = u at hgu huk
      obtain ⟨u0, u1⟩ := u
      have hUK := hide hu
      clear hu
      go_upto_region 14 with fail
      go_cut [12] from 75 to 164 (fun pv wc => GotZ wr (zmul (ZV.c ⟨xr, xi⟩) (ZV.c ⟨yr, yi⟩)) pv wc)
      case first => as_aux_lemma =>
        refine wp_region_held_drew (S := (fun w' => w'.cell? ⟨lb, lo + k * 2, none⟩ = some (.float .f64 xr) ∧ w'.cell? ⟨lb, lo + k * 2 + 1, none⟩ = some (.float .f64 xi) ∧ w'.cell? ⟨sb, so + k * 2, none⟩ = some (.float .f64 yr) ∧ w'.cell? ⟨sb, so + k * 2 + 1, none⟩ = some (.float .f64 yi))) (by kernel_rfl) ?_ (fun hHeld => ?_)
        · go_keep
        have B0d : Below wr.heap.size wr wr.drew := (Below.refl _ _).drew
        generalize wr.drew = wd at *
        refine wpAnyH_take (i := 0) (v := .slice (some ⟨lb, lo, none⟩) n lc) rfl (by kernel_rfl) (by kernel_rfl) (by kernel_rfl) (fun _ _ _ h => h) (Or.inl ⟨by kernel_rfl, fun w hS => by go_simp⟩) hHeld ?_
        change wpAnyH _ _ _ _ _ _ _ { tmps := List.toArray (_ :: _ :: _ :: _ :: .slice (some ⟨lb, lo, none⟩) n lc :: .slice (some ⟨db, do', none⟩) n dc :: .slice (some ⟨sb, so, none⟩) n sc :: _ :: _ :: _ :: _ :: .int .i64 (k : Int) :: _ :: _ :: _ :: _ :: _ :: _ :: _ :: _ :: _ :: _ :: _ :: _ :: _ :: _ :: _ :: _ :: _ :: _ :: _ :: _ :: _ :: _ :: _ :: _ :: _ :: _ :: _ :: _ :: _ :: _ :: _ :: _ :: _ :: _ :: _ :: _ :: _ :: _ :: _ :: _ :: _ :: _ :: _ :: _ :: _ :: _ :: _ :: _ :: _ :: _ :: _ :: _ :: _ :: _ :: _ :: _ :: _ :: _ :: _ :: _ :: _ :: _ :: _ :: _ :: _ :: _ :: _ :: _ :: .slice (some ⟨lb, lo, none⟩) n lc :: _ :: _ :: _ :: _ :: _ :: _ :: _ :: _ :: _ :: _ :: _ :: _ :: _ :: _ :: _ :: _ :: _ :: _ :: _ :: _ :: _ :: _ :: _ :: _ :: _ :: _ :: _ :: _ :: _ :: _ :: _ :: _ :: _ :: _ :: _ :: _ :: _ :: _ :: _ :: _ :: _ :: _ :: _ :: _ :: _ :: _ :: _ :: _ :: _ :: _ :: _ :: _ :: _ :: _ :: _ :: _ :: _ :: _ :: _ :: _ :: _ :: _ :: _ :: _ :: _ :: _ :: _ :: _ :: _ :: _ :: _ :: _ :: _ :: _ :: _ :: _ :: _ :: _ :: _ :: _ :: _ :: _ :: _ :: _ :: _ :: _ :: _ :: _ :: _ :: _ :: _ :: _ :: _ :: _ :: _ :: _ :: _ :: _ :: _ :: _ :: _ :: _ :: _ :: _ :: _ :: _ :: _ :: _ :: _ :: _ :: _ :: _ :: _ :: _ :: _ :: _ :: _ :: _ :: _ :: _ :: _ :: _ :: _ :: _ :: _ :: _ :: _ :: _ :: _ :: _ :: _ :: _ :: _ :: _ :: _ :: _ :: _ :: _ :: _ :: _ :: _ :: _ :: _ :: _ :: _ :: _ :: []), defers := [] } _
        refine wpAnyH_take (i := 1) (v := .int .i64 (k : Int)) rfl (by kernel_rfl) (by kernel_rfl) (by kernel_rfl) (fun _ _ _ h => h) (Or.inl ⟨by kernel_rfl, fun w hS => by go_simp⟩) hHeld ?_
        change wpAnyH _ _ _ _ _ _ _ { tmps := List.toArray (_ :: _ :: _ :: _ :: .slice (some ⟨lb, lo, none⟩) n lc :: .slice (some ⟨db, do', none⟩) n dc :: .slice (some ⟨sb, so, none⟩) n sc :: _ :: _ :: _ :: _ :: .int .i64 (k : Int) :: _ :: _ :: _ :: _ :: _ :: _ :: _ :: _ :: _ :: _ :: _ :: _ :: _ :: _ :: _ :: _ :: _ :: _ :: _ :: _ :: _ :: _ :: _ :: _ :: _ :: _ :: _ :: _ :: _ :: _ :: _ :: _ :: _ :: _ :: _ :: _ :: _ :: _ :: _ :: _ :: _ :: _ :: _ :: _ :: _ :: _ :: _ :: _ :: _ :: _ :: _ :: _ :: _ :: _ :: _ :: _ :: _ :: _ :: _ :: _ :: _ :: _ :: _ :: _ :: _ :: _ :: _ :: _ :: .slice (some ⟨lb, lo, none⟩) n lc :: .int .i64 (k : Int) :: _ :: _ :: _ :: _ :: _ :: _ :: _ :: _ :: _ :: _ :: _ :: _ :: _ :: _ :: _ :: _ :: _ :: _ :: _ :: _ :: _ :: _ :: _ :: _ :: _ :: _ :: _ :: _ :: _ :: _ :: _ :: _ :: _ :: _ :: _ :: _ :: _ :: _ :: _ :: _ :: _ :: _ :: _ :: _ :: _ :: _ :: _ :: _ :: _ :: _ :: _ :: _ :: _ :: _ :: _ :: _ :: _ :: _ :: _ :: _ :: _ :: _ :: _ :: _ :: _ :: _ :: _ :: _ :: _ :: _ :: _ :: _ :: _ :: _ :: _ :: _ :: _ :: _ :: _ :: _ :: _ :: _ :: _ :: _ :: _ :: _ :: _ :: _ :: _ :: _ :: _ :: _ :: _ :: _ :: _ :: _ :: _ :: _ :: _ :: _ :: _ :: _ :: _ :: _ :: _ :: _ :: _ :: _ :: _ :: _ :: _ :: _ :: _ :: _ :: _ :: _ :: _ :: _ :: _ :: _ :: _ :: _ :: _ :: _ :: _ :: _ :: _ :: _ :: _ :: _ :: _ :: _ :: _ :: _ :: _ :: _ :: _ :: _ :: _ :: _ :: _ :: _ :: _ :: _ :: _ :: []), defers := [] } _
        refine wpAnyH_take (i := 2) (v := .pointer (some ⟨lb, lo + k * 2, none⟩)) rfl (by kernel_rfl) (by kernel_rfl) (by kernel_rfl) (fun _ _ _ h => h) (Or.inl ⟨by kernel_rfl, fun w hS => by go_simp⟩) hHeld ?_
        change wpAnyH _ _ _ _ _ _ _ { tmps := List.toArray (_ :: _ :: _ :: _ :: .slice (some ⟨lb, lo, none⟩) n lc :: .slice (some ⟨db, do', none⟩) n dc :: .slice (some ⟨sb, so, none⟩) n sc :: _ :: _ :: _ :: _ :: .int .i64 (k : Int) :: _ :: _ :: _ :: _ :: _ :: _ :: _ :: _ :: _ :: _ :: _ :: _ :: _ :: _ :: _ :: _ :: _ :: _ :: _ :: _ :: _ :: _ :: _ :: _ :: _ :: _ :: _ :: _ :: _ :: _ :: _ :: _ :: _ :: _ :: _ :: _ :: _ :: _ :: _ :: _ :: _ :: _ :: _ :: _ :: _ :: _ :: _ :: _ :: _ :: _ :: _ :: _ :: _ :: _ :: _ :: _ :: _ :: _ :: _ :: _ :: _ :: _ :: _ :: _ :: _ :: _ :: _ :: _ :: .slice (some ⟨lb, lo, none⟩) n lc :: .int .i64 (k : Int) :: .pointer (some ⟨lb, lo + k * 2, none⟩) :: _ :: _ :: _ :: _ :: _ :: _ :: _ :: _ :: _ :: _ :: _ :: _ :: _ :: _ :: _ :: _ :: _ :: _ :: _ :: _ :: _ :: _ :: _ :: _ :: _ :: _ :: _ :: _ :: _ :: _ :: _ :: _ :: _ :: _ :: _ :: _ :: _ :: _ :: _ :: _ :: _ :: _ :: _ :: _ :: _ :: _ :: _ :: _ :: _ :: _ :: _ :: _ :: _ :: _ :: _ :: _ :: _ :: _ :: _ :: _ :: _ :: _ :: _ :: _ :: _ :: _ :: _ :: _ :: _ :: _ :: _ :: _ :: _ :: _ :: _ :: _ :: _ :: _ :: _ :: _ :: _ :: _ :: _ :: _ :: _ :: _ :: _ :: _ :: _ :: _ :: _ :: _ :: _ :: _ :: _ :: _ :: _ :: _ :: _ :: _ :: _ :: _ :: _ :: _ :: _ :: _ :: _ :: _ :: _ :: _ :: _ :: _ :: _ :: _ :: _ :: _ :: _ :: _ :: _ :: _ :: _ :: _ :: _ :: _ :: _ :: _ :: _ :: _ :: _ :: _ :: _ :: _ :: _ :: _ :: _ :: _ :: _ :: _ :: _ :: _ :: _ :: _ :: _ :: _ :: []), defers := [] } _
        refine wpAnyH_take (i := 3) (v := .agg #[.float .f64 xr, .float .f64 xi]) rfl (by kernel_rfl) (by kernel_rfl) (by kernel_rfl) (fun _ _ _ h => h) (Or.inl ⟨by kernel_rfl, fun w hS => by (obtain ⟨hS0, hS1, hS2, hS3⟩ := hS; go_simp)⟩) hHeld ?_
        change wpAnyH _ _ _ _ _ _ _ { tmps := List.toArray (_ :: _ :: _ :: _ :: .slice (some ⟨lb, lo, none⟩) n lc :: .slice (some ⟨db, do', none⟩) n dc :: .slice (some ⟨sb, so, none⟩) n sc :: _ :: _ :: _ :: _ :: .int .i64 (k : Int) :: _ :: _ :: _ :: _ :: _ :: _ :: _ :: _ :: _ :: _ :: _ :: _ :: _ :: _ :: _ :: _ :: _ :: _ :: _ :: _ :: _ :: _ :: _ :: _ :: _ :: _ :: _ :: _ :: _ :: _ :: _ :: _ :: _ :: _ :: _ :: _ :: _ :: _ :: _ :: _ :: _ :: _ :: _ :: _ :: _ :: _ :: _ :: _ :: _ :: _ :: _ :: _ :: _ :: _ :: _ :: _ :: _ :: _ :: _ :: _ :: _ :: _ :: _ :: _ :: _ :: _ :: _ :: _ :: .slice (some ⟨lb, lo, none⟩) n lc :: .int .i64 (k : Int) :: .pointer (some ⟨lb, lo + k * 2, none⟩) :: .agg #[.float .f64 xr, .float .f64 xi] :: _ :: _ :: _ :: _ :: _ :: _ :: _ :: _ :: _ :: _ :: _ :: _ :: _ :: _ :: _ :: _ :: _ :: _ :: _ :: _ :: _ :: _ :: _ :: _ :: _ :: _ :: _ :: _ :: _ :: _ :: _ :: _ :: _ :: _ :: _ :: _ :: _ :: _ :: _ :: _ :: _ :: _ :: _ :: _ :: _ :: _ :: _ :: _ :: _ :: _ :: _ :: _ :: _ :: _ :: _ :: _ :: _ :: _ :: _ :: _ :: _ :: _ :: _ :: _ :: _ :: _ :: _ :: _ :: _ :: _ :: _ :: _ :: _ :: _ :: _ :: _ :: _ :: _ :: _ :: _ :: _ :: _ :: _ :: _ :: _ :: _ :: _ :: _ :: _ :: _ :: _ :: _ :: _ :: _ :: _ :: _ :: _ :: _ :: _ :: _ :: _ :: _ :: _ :: _ :: _ :: _ :: _ :: _ :: _ :: _ :: _ :: _ :: _ :: _ :: _ :: _ :: _ :: _ :: _ :: _ :: _ :: _ :: _ :: _ :: _ :: _ :: _ :: _ :: _ :: _ :: _ :: _ :: _ :: _ :: _ :: _ :: _ :: _ :: _ :: _ :: _ :: _ :: _ :: []), defers := [] } _
        refine wpAnyH_take (i := 4) (v := .slice (some ⟨sb, so, none⟩) n sc) rfl (by kernel_rfl) (by kernel_rfl) (by kernel_rfl) (fun _ _ _ h => h) (Or.inl ⟨by kernel_rfl, fun w hS => by go_simp⟩) hHeld ?_
        change wpAnyH _ _ _ _ _ _ _ { tmps := List.toArray (_ :: _ :: _ :: _ :: .slice (some ⟨lb, lo, none⟩) n lc :: .slice (some ⟨db, do', none⟩) n dc :: .slice (some ⟨sb, so, none⟩) n sc :: _ :: _ :: _ :: _ :: .int .i64 (k : Int) :: _ :: _ :: _ :: _ :: _ :: _ :: _ :: _ :: _ :: _ :: _ :: _ :: _ :: _ :: _ :: _ :: _ :: _ :: _ :: _ :: _ :: _ :: _ :: _ :: _ :: _ :: _ :: _ :: _ :: _ :: _ :: _ :: _ :: _ :: _ :: _ :: _ :: _ :: _ :: _ :: _ :: _ :: _ :: _ :: _ :: _ :: _ :: _ :: _ :: _ :: _ :: _ :: _ :: _ :: _ :: _ :: _ :: _ :: _ :: _ :: _ :: _ :: _ :: _ :: _ :: _ :: _ :: _ :: .slice (some ⟨lb, lo, none⟩) n lc :: .int .i64 (k : Int) :: .pointer (some ⟨lb, lo + k * 2, none⟩) :: .agg #[.float .f64 xr, .float .f64 xi] :: .slice (some ⟨sb, so, none⟩) n sc :: _ :: _ :: _ :: _ :: _ :: _ :: _ :: _ :: _ :: _ :: _ :: _ :: _ :: _ :: _ :: _ :: _ :: _ :: _ :: _ :: _ :: _ :: _ :: _ :: _ :: _ :: _ :: _ :: _ :: _ :: _ :: _ :: _ :: _ :: _ :: _ :: _ :: _ :: _ :: _ :: _ :: _ :: _ :: _ :: _ :: _ :: _ :: _ :: _ :: _ :: _ :: _ :: _ :: _ :: _ :: _ :: _ :: _ :: _ :: _ :: _ :: _ :: _ :: _ :: _ :: _ :: _ :: _ :: _ :: _ :: _ :: _ :: _ :: _ :: _ :: _ :: _ :: _ :: _ :: _ :: _ :: _ :: _ :: _ :: _ :: _ :: _ :: _ :: _ :: _ :: _ :: _ :: _ :: _ :: _ :: _ :: _ :: _ :: _ :: _ :: _ :: _ :: _ :: _ :: _ :: _ :: _ :: _ :: _ :: _ :: _ :: _ :: _ :: _ :: _ :: _ :: _ :: _ :: _ :: _ :: _ :: _ :: _ :: _ :: _ :: _ :: _ :: _ :: _ :: _ :: _ :: _ :: _ :: _ :: _ :: _ :: _ :: _ :: _ :: _ :: _ :: _ :: []), defers := [] } _
        refine wpAnyH_take (i := 5) (v := .int .i64 (k : Int)) rfl (by kernel_rfl) (by kernel_rfl) (by kernel_rfl) (fun _ _ _ h => h) (Or.inl ⟨by kernel_rfl, fun w hS => by go_simp⟩) hHeld ?_
        change wpAnyH _ _ _ _ _ _ _ { tmps := List.toArray (_ :: _ :: _ :: _ :: .slice (some ⟨lb, lo, none⟩) n lc :: .slice (some ⟨db, do', none⟩) n dc :: .slice (some ⟨sb, so, none⟩) n sc :: _ :: _ :: _ :: _ :: .int .i64 (k : Int) :: _ :: _ :: _ :: _ :: _ :: _ :: _ :: _ :: _ :: _ :: _ :: _ :: _ :: _ :: _ :: _ :: _ :: _ :: _ :: _ :: _ :: _ :: _ :: _ :: _ :: _ :: _ :: _ :: _ :: _ :: _ :: _ :: _ :: _ :: _ :: _ :: _ :: _ :: _ :: _ :: _ :: _ :: _ :: _ :: _ :: _ :: _ :: _ :: _ :: _ :: _ :: _ :: _ :: _ :: _ :: _ :: _ :: _ :: _ :: _ :: _ :: _ :: _ :: _ :: _ :: _ :: _ :: _ :: .slice (some ⟨lb, lo, none⟩) n lc :: .int .i64 (k : Int) :: .pointer (some ⟨lb, lo + k * 2, none⟩) :: .agg #[.float .f64 xr, .float .f64 xi] :: .slice (some ⟨sb, so, none⟩) n sc :: .int .i64 (k : Int) :: _ :: _ :: _ :: _ :: _ :: _ :: _ :: _ :: _ :: _ :: _ :: _ :: _ :: _ :: _ :: _ :: _ :: _ :: _ :: _ :: _ :: _ :: _ :: _ :: _ :: _ :: _ :: _ :: _ :: _ :: _ :: _ :: _ :: _ :: _ :: _ :: _ :: _ :: _ :: _ :: _ :: _ :: _ :: _ :: _ :: _ :: _ :: _ :: _ :: _ :: _ :: _ :: _ :: _ :: _ :: _ :: _ :: _ :: _ :: _ :: _ :: _ :: _ :: _ :: _ :: _ :: _ :: _ :: _ :: _ :: _ :: _ :: _ :: _ :: _ :: _ :: _ :: _ :: _ :: _ :: _ :: _ :: _ :: _ :: _ :: _ :: _ :: _ :: _ :: _ :: _ :: _ :: _ :: _ :: _ :: _ :: _ :: _ :: _ :: _ :: _ :: _ :: _ :: _ :: _ :: _ :: _ :: _ :: _ :: _ :: _ :: _ :: _ :: _ :: _ :: _ :: _ :: _ :: _ :: _ :: _ :: _ :: _ :: _ :: _ :: _ :: _ :: _ :: _ :: _ :: _ :: _ :: _ :: _ :: _ :: _ :: _ :: _ :: _ :: _ :: _ :: []), defers := [] } _
        refine wpAnyH_take (i := 6) (v := .pointer (some ⟨sb, so + k * 2, none⟩)) rfl (by kernel_rfl) (by kernel_rfl) (by kernel_rfl) (fun _ _ _ h => h) (Or.inl ⟨by kernel_rfl, fun w hS => by go_simp⟩) hHeld ?_
        change wpAnyH _ _ _ _ _ _ _ { tmps := List.toArray (_ :: _ :: _ :: _ :: .slice (some ⟨lb, lo, none⟩) n lc :: .slice (some ⟨db, do', none⟩) n dc :: .slice (some ⟨sb, so, none⟩) n sc :: _ :: _ :: _ :: _ :: .int .i64 (k : Int) :: _ :: _ :: _ :: _ :: _ :: _ :: _ :: _ :: _ :: _ :: _ :: _ :: _ :: _ :: _ :: _ :: _ :: _ :: _ :: _ :: _ :: _ :: _ :: _ :: _ :: _ :: _ :: _ :: _ :: _ :: _ :: _ :: _ :: _ :: _ :: _ :: _ :: _ :: _ :: _ :: _ :: _ :: _ :: _ :: _ :: _ :: _ :: _ :: _ :: _ :: _ :: _ :: _ :: _ :: _ :: _ :: _ :: _ :: _ :: _ :: _ :: _ :: _ :: _ :: _ :: _ :: _ :: _ :: .slice (some ⟨lb, lo, none⟩) n lc :: .int .i64 (k : Int) :: .pointer (some ⟨lb, lo + k * 2, none⟩) :: .agg #[.float .f64 xr, .float .f64 xi] :: .slice (some ⟨sb, so, none⟩) n sc :: .int .i64 (k : Int) :: .pointer (some ⟨sb, so + k * 2, none⟩) :: _ :: _ :: _ :: _ :: _ :: _ :: _ :: _ :: _ :: _ :: _ :: _ :: _ :: _ :: _ :: _ :: _ :: _ :: _ :: _ :: _ :: _ :: _ :: _ :: _ :: _ :: _ :: _ :: _ :: _ :: _ :: _ :: _ :: _ :: _ :: _ :: _ :: _ :: _ :: _ :: _ :: _ :: _ :: _ :: _ :: _ :: _ :: _ :: _ :: _ :: _ :: _ :: _ :: _ :: _ :: _ :: _ :: _ :: _ :: _ :: _ :: _ :: _ :: _ :: _ :: _ :: _ :: _ :: _ :: _ :: _ :: _ :: _ :: _ :: _ :: _ :: _ :: _ :: _ :: _ :: _ :: _ :: _ :: _ :: _ :: _ :: _ :: _ :: _ :: _ :: _ :: _ :: _ :: _ :: _ :: _ :: _ :: _ :: _ :: _ :: _ :: _ :: _ :: _ :: _ :: _ :: _ :: _ :: _ :: _ :: _ :: _ :: _ :: _ :: _ :: _ :: _ :: _ :: _ :: _ :: _ :: _ :: _ :: _ :: _ :: _ :: _ :: _ :: _ :: _ :: _ :: _ :: _ :: _ :: _ :: _ :: _ :: _ :: _ :: _ :: []), defers := [] } _
        refine wpAnyH_take (i := 7) (v := .agg #[.float .f64 yr, .float .f64 yi]) rfl (by kernel_rfl) (by kernel_rfl) (by kernel_rfl) (fun _ _ _ h => h) (Or.inl ⟨by kernel_rfl, fun w hS => by (obtain ⟨hS0, hS1, hS2, hS3⟩ := hS; go_simp)⟩) hHeld ?_
        change wpAnyH _ _ _ _ _ _ _ { tmps := List.toArray (_ :: _ :: _ :: _ :: .slice (some ⟨lb, lo, none⟩) n lc :: .slice (some ⟨db, do', none⟩) n dc :: .slice (some ⟨sb, so, none⟩) n sc :: _ :: _ :: _ :: _ :: .int .i64 (k : Int) :: _ :: _ :: _ :: _ :: _ :: _ :: _ :: _ :: _ :: _ :: _ :: _ :: _ :: _ :: _ :: _ :: _ :: _ :: _ :: _ :: _ :: _ :: _ :: _ :: _ :: _ :: _ :: _ :: _ :: _ :: _ :: _ :: _ :: _ :: _ :: _ :: _ :: _ :: _ :: _ :: _ :: _ :: _ :: _ :: _ :: _ :: _ :: _ :: _ :: _ :: _ :: _ :: _ :: _ :: _ :: _ :: _ :: _ :: _ :: _ :: _ :: _ :: _ :: _ :: _ :: _ :: _ :: _ :: .slice (some ⟨lb, lo, none⟩) n lc :: .int .i64 (k : Int) :: .pointer (some ⟨lb, lo + k * 2, none⟩) :: .agg #[.float .f64 xr, .float .f64 xi] :: .slice (some ⟨sb, so, none⟩) n sc :: .int .i64 (k : Int) :: .pointer (some ⟨sb, so + k * 2, none⟩) :: .agg #[.float .f64 yr, .float .f64 yi] :: _ :: _ :: _ :: _ :: _ :: _ :: _ :: _ :: _ :: _ :: _ :: _ :: _ :: _ :: _ :: _ :: _ :: _ :: _ :: _ :: _ :: _ :: _ :: _ :: _ :: _ :: _ :: _ :: _ :: _ :: _ :: _ :: _ :: _ :: _ :: _ :: _ :: _ :: _ :: _ :: _ :: _ :: _ :: _ :: _ :: _ :: _ :: _ :: _ :: _ :: _ :: _ :: _ :: _ :: _ :: _ :: _ :: _ :: _ :: _ :: _ :: _ :: _ :: _ :: _ :: _ :: _ :: _ :: _ :: _ :: _ :: _ :: _ :: _ :: _ :: _ :: _ :: _ :: _ :: _ :: _ :: _ :: _ :: _ :: _ :: _ :: _ :: _ :: _ :: _ :: _ :: _ :: _ :: _ :: _ :: _ :: _ :: _ :: _ :: _ :: _ :: _ :: _ :: _ :: _ :: _ :: _ :: _ :: _ :: _ :: _ :: _ :: _ :: _ :: _ :: _ :: _ :: _ :: _ :: _ :: _ :: _ :: _ :: _ :: _ :: _ :: _ :: _ :: _ :: _ :: _ :: _ :: _ :: _ :: _ :: _ :: _ :: _ :: _ :: []), defers := [] } _
        refine wpAnyH_ready (rs := [8, 9]) (by kernel_rfl) (by simp) ?_
        refine (AllReadyH.cons rfl (fun KK hK => ?_) (AllReadyH.cons rfl (fun KK hK => ?_) AllReadyH.nil))
        · skip
          go_simp
          refine (cZMulI2 xr xi yr yi _).mono ?_
          rintro e w9 ⟨pr, pi, rfl, hC, hb8⟩
          have B3 := btrans B0d hb8
          clear hb8
          go_wp2_with fail
          clear hHeld
          refine hK.out _ _ (⟨ble B3 p0, ble B3 p1, ble B3 q0, ble B3 q1⟩) (fun hHeld => ?_)
          clear hK KK
          change wpAnyH _ _ _ _ _ _ _ { tmps := List.toArray (_ :: _ :: _ :: _ :: .slice (some ⟨lb, lo, none⟩) n lc :: .slice (some ⟨db, do', none⟩) n dc :: .slice (some ⟨sb, so, none⟩) n sc :: _ :: _ :: _ :: _ :: .int .i64 (k : Int) :: _ :: _ :: _ :: _ :: _ :: _ :: _ :: _ :: _ :: _ :: _ :: _ :: _ :: _ :: _ :: _ :: _ :: _ :: _ :: _ :: _ :: _ :: _ :: _ :: _ :: _ :: _ :: _ :: _ :: _ :: _ :: _ :: _ :: _ :: _ :: _ :: _ :: _ :: _ :: _ :: _ :: _ :: _ :: _ :: _ :: _ :: _ :: _ :: _ :: _ :: _ :: _ :: _ :: _ :: _ :: _ :: _ :: _ :: _ :: _ :: _ :: _ :: _ :: _ :: _ :: _ :: _ :: _ :: .slice (some ⟨lb, lo, none⟩) n lc :: .int .i64 (k : Int) :: .pointer (some ⟨lb, lo + k * 2, none⟩) :: .agg #[.float .f64 xr, .float .f64 xi] :: .slice (some ⟨sb, so, none⟩) n sc :: .int .i64 (k : Int) :: .pointer (some ⟨sb, so + k * 2, none⟩) :: .agg #[.float .f64 yr, .float .f64 yi] :: .agg #[.float .f64 pr, .float .f64 pi] :: _ :: _ :: _ :: _ :: _ :: _ :: _ :: _ :: _ :: _ :: _ :: _ :: _ :: _ :: _ :: _ :: _ :: _ :: _ :: _ :: _ :: _ :: _ :: _ :: _ :: _ :: _ :: _ :: _ :: _ :: _ :: _ :: _ :: _ :: _ :: _ :: _ :: _ :: _ :: _ :: _ :: _ :: _ :: _ :: _ :: _ :: _ :: _ :: _ :: _ :: _ :: _ :: _ :: _ :: _ :: _ :: _ :: _ :: _ :: _ :: _ :: _ :: _ :: _ :: _ :: _ :: _ :: _ :: _ :: _ :: _ :: _ :: _ :: _ :: _ :: _ :: _ :: _ :: _ :: _ :: _ :: _ :: _ :: _ :: _ :: _ :: _ :: _ :: _ :: _ :: _ :: _ :: _ :: _ :: _ :: _ :: _ :: _ :: _ :: _ :: _ :: _ :: _ :: _ :: _ :: _ :: _ :: _ :: _ :: _ :: _ :: _ :: _ :: _ :: _ :: _ :: _ :: _ :: _ :: _ :: _ :: _ :: _ :: _ :: _ :: _ :: _ :: _ :: _ :: _ :: _ :: _ :: _ :: _ :: _ :: _ :: _ :: _ :: []), defers := [] } _
          refine wpAnyH_ready (rs := [9]) (by kernel_rfl) (by simp) ?_
          refine (AllReadyH.cons rfl (fun KK hK => ?_) AllReadyH.nil)
          go_simp
          have hbz := balloc w9 (.cells #[.float .f64 0, .float .f64 0] 26)
          have zB : (w9.alloc (.cells #[.float .f64 0, .float .f64 0] 26)).heap[w9.heap.size]? = some (.cells #[.float .f64 0, .float .f64 0] 26 (0, 0)) := one_block w9 _
          have zlo : wr.heap.size ≤ w9.heap.size := B3.size
          have Bz := btrans B3 hbz
          clear hbz
          generalize w9.heap.size = bz at *
          generalize w9.alloc (.cells #[.float .f64 0, .float .f64 0] 26) = wz at *
          clear hHeld
          refine hK.out _ _ (⟨ble Bz p0, ble Bz p1, ble Bz q0, ble Bz q1⟩) (fun hHeld => ?_)
          clear hK KK
          change wpAnyH _ _ _ _ _ _ _ { tmps := List.toArray (_ :: _ :: _ :: _ :: .slice (some ⟨lb, lo, none⟩) n lc :: .slice (some ⟨db, do', none⟩) n dc :: .slice (some ⟨sb, so, none⟩) n sc :: _ :: _ :: _ :: _ :: .int .i64 (k : Int) :: .pointer (some ⟨bz, 0, none⟩) :: _ :: _ :: _ :: _ :: _ :: _ :: _ :: _ :: _ :: _ :: _ :: _ :: _ :: _ :: _ :: _ :: _ :: _ :: _ :: _ :: _ :: _ :: _ :: _ :: _ :: _ :: _ :: _ :: _ :: _ :: _ :: _ :: _ :: _ :: _ :: _ :: _ :: _ :: _ :: _ :: _ :: _ :: _ :: _ :: _ :: _ :: _ :: _ :: _ :: _ :: _ :: _ :: _ :: _ :: _ :: _ :: _ :: _ :: _ :: _ :: _ :: _ :: _ :: _ :: _ :: _ :: _ :: .slice (some ⟨lb, lo, none⟩) n lc :: .int .i64 (k : Int) :: .pointer (some ⟨lb, lo + k * 2, none⟩) :: .agg #[.float .f64 xr, .float .f64 xi] :: .slice (some ⟨sb, so, none⟩) n sc :: .int .i64 (k : Int) :: .pointer (some ⟨sb, so + k * 2, none⟩) :: .agg #[.float .f64 yr, .float .f64 yi] :: .agg #[.float .f64 pr, .float .f64 pi] :: _ :: _ :: _ :: _ :: _ :: _ :: _ :: _ :: _ :: _ :: _ :: _ :: _ :: _ :: _ :: _ :: _ :: _ :: _ :: _ :: _ :: _ :: _ :: _ :: _ :: _ :: _ :: _ :: _ :: _ :: _ :: _ :: _ :: _ :: _ :: _ :: _ :: _ :: _ :: _ :: _ :: _ :: _ :: _ :: _ :: _ :: _ :: _ :: _ :: _ :: _ :: _ :: _ :: _ :: _ :: _ :: _ :: _ :: _ :: _ :: _ :: _ :: _ :: _ :: _ :: _ :: _ :: _ :: _ :: _ :: _ :: _ :: _ :: _ :: _ :: _ :: _ :: _ :: _ :: _ :: _ :: _ :: _ :: _ :: _ :: _ :: _ :: _ :: _ :: _ :: _ :: _ :: _ :: _ :: _ :: _ :: _ :: _ :: _ :: _ :: _ :: _ :: _ :: _ :: _ :: _ :: _ :: _ :: _ :: _ :: _ :: _ :: _ :: _ :: _ :: _ :: _ :: _ :: _ :: _ :: _ :: _ :: _ :: _ :: _ :: _ :: _ :: _ :: _ :: _ :: _ :: _ :: _ :: _ :: _ :: _ :: _ :: _ :: []), defers := [] } _
          refine wpAnyH_ready (rs := [10]) (by kernel_rfl) (by simp) ?_
          refine (AllReadyH.cons rfl (fun KK hK => ?_) AllReadyH.nil)
          obtain ⟨⟨m2, m3⟩, y0, y1⟩ := twoC zB
          have Bs : Below wr.heap.size wr ((wz.setCell ⟨bz, 0, none⟩ (.float .f64 pr)).setCell ⟨bz, 1, none⟩ (.float .f64 pi)) := below_set zlo (below_set zlo Bz)
          go_simp
          clear hHeld
          refine hK.out _ _ (⟨ble Bs p0, ble Bs p1, ble Bs q0, ble Bs q1⟩) (fun hHeld => ?_)
          clear hK KK
          change wpAnyH _ _ _ _ _ _ _ { tmps := List.toArray (_ :: _ :: _ :: _ :: .slice (some ⟨lb, lo, none⟩) n lc :: .slice (some ⟨db, do', none⟩) n dc :: .slice (some ⟨sb, so, none⟩) n sc :: _ :: _ :: _ :: _ :: .int .i64 (k : Int) :: .pointer (some ⟨bz, 0, none⟩) :: _ :: _ :: _ :: _ :: _ :: _ :: _ :: _ :: _ :: _ :: _ :: _ :: _ :: _ :: _ :: _ :: _ :: _ :: _ :: _ :: _ :: _ :: _ :: _ :: _ :: _ :: _ :: _ :: _ :: _ :: _ :: _ :: _ :: _ :: _ :: _ :: _ :: _ :: _ :: _ :: _ :: _ :: _ :: _ :: _ :: _ :: _ :: _ :: _ :: _ :: _ :: _ :: _ :: _ :: _ :: _ :: _ :: _ :: _ :: _ :: _ :: _ :: _ :: _ :: _ :: _ :: _ :: .slice (some ⟨lb, lo, none⟩) n lc :: .int .i64 (k : Int) :: .pointer (some ⟨lb, lo + k * 2, none⟩) :: .agg #[.float .f64 xr, .float .f64 xi] :: .slice (some ⟨sb, so, none⟩) n sc :: .int .i64 (k : Int) :: .pointer (some ⟨sb, so + k * 2, none⟩) :: .agg #[.float .f64 yr, .float .f64 yi] :: .agg #[.float .f64 pr, .float .f64 pi] :: _ :: _ :: _ :: _ :: _ :: _ :: _ :: _ :: _ :: _ :: _ :: _ :: _ :: _ :: _ :: _ :: _ :: _ :: _ :: _ :: _ :: _ :: _ :: _ :: _ :: _ :: _ :: _ :: _ :: _ :: _ :: _ :: _ :: _ :: _ :: _ :: _ :: _ :: _ :: _ :: _ :: _ :: _ :: _ :: _ :: _ :: _ :: _ :: _ :: _ :: _ :: _ :: _ :: _ :: _ :: _ :: _ :: _ :: _ :: _ :: _ :: _ :: _ :: _ :: _ :: _ :: _ :: _ :: _ :: _ :: _ :: _ :: _ :: _ :: _ :: _ :: _ :: _ :: _ :: _ :: _ :: _ :: _ :: _ :: _ :: _ :: _ :: _ :: _ :: _ :: _ :: _ :: _ :: _ :: _ :: _ :: _ :: _ :: _ :: _ :: _ :: _ :: _ :: _ :: _ :: _ :: _ :: _ :: _ :: _ :: _ :: _ :: _ :: _ :: _ :: _ :: _ :: _ :: _ :: _ :: _ :: _ :: _ :: _ :: _ :: _ :: _ :: _ :: _ :: _ :: _ :: _ :: _ :: _ :: _ :: _ :: _ :: _ :: []), defers := [] } _
          refine wpAnyH_done (by kernel_rfl) ?_ _
          go_wp2_with fail
          go_meet
          exact gotS Bz zB zlo hC
        · skip
          go_simp
          have hbz := balloc wd (.cells #[.float .f64 0, .float .f64 0] 26)
          have zB : (wd.alloc (.cells #[.float .f64 0, .float .f64 0] 26)).heap[wd.heap.size]? = some (.cells #[.float .f64 0, .float .f64 0] 26 (0, 0)) := one_block wd _
          have zlo : wr.heap.size ≤ wd.heap.size := B0d.size
          have Bz := btrans B0d hbz
          clear hbz
          generalize wd.heap.size = bz at *
          generalize wd.alloc (.cells #[.float .f64 0, .float .f64 0] 26) = wz at *
          clear hHeld
          refine hK.out _ _ (⟨ble Bz p0, ble Bz p1, ble Bz q0, ble Bz q1⟩) (fun hHeld => ?_)
          clear hK KK
          change wpAnyH _ _ _ _ _ _ _ { tmps := List.toArray (_ :: _ :: _ :: _ :: .slice (some ⟨lb, lo, none⟩) n lc :: .slice (some ⟨db, do', none⟩) n dc :: .slice (some ⟨sb, so, none⟩) n sc :: _ :: _ :: _ :: _ :: .int .i64 (k : Int) :: .pointer (some ⟨bz, 0, none⟩) :: _ :: _ :: _ :: _ :: _ :: _ :: _ :: _ :: _ :: _ :: _ :: _ :: _ :: _ :: _ :: _ :: _ :: _ :: _ :: _ :: _ :: _ :: _ :: _ :: _ :: _ :: _ :: _ :: _ :: _ :: _ :: _ :: _ :: _ :: _ :: _ :: _ :: _ :: _ :: _ :: _ :: _ :: _ :: _ :: _ :: _ :: _ :: _ :: _ :: _ :: _ :: _ :: _ :: _ :: _ :: _ :: _ :: _ :: _ :: _ :: _ :: _ :: _ :: _ :: _ :: _ :: _ :: .slice (some ⟨lb, lo, none⟩) n lc :: .int .i64 (k : Int) :: .pointer (some ⟨lb, lo + k * 2, none⟩) :: .agg #[.float .f64 xr, .float .f64 xi] :: .slice (some ⟨sb, so, none⟩) n sc :: .int .i64 (k : Int) :: .pointer (some ⟨sb, so + k * 2, none⟩) :: .agg #[.float .f64 yr, .float .f64 yi] :: _ :: _ :: _ :: _ :: _ :: _ :: _ :: _ :: _ :: _ :: _ :: _ :: _ :: _ :: _ :: _ :: _ :: _ :: _ :: _ :: _ :: _ :: _ :: _ :: _ :: _ :: _ :: _ :: _ :: _ :: _ :: _ :: _ :: _ :: _ :: _ :: _ :: _ :: _ :: _ :: _ :: _ :: _ :: _ :: _ :: _ :: _ :: _ :: _ :: _ :: _ :: _ :: _ :: _ :: _ :: _ :: _ :: _ :: _ :: _ :: _ :: _ :: _ :: _ :: _ :: _ :: _ :: _ :: _ :: _ :: _ :: _ :: _ :: _ :: _ :: _ :: _ :: _ :: _ :: _ :: _ :: _ :: _ :: _ :: _ :: _ :: _ :: _ :: _ :: _ :: _ :: _ :: _ :: _ :: _ :: _ :: _ :: _ :: _ :: _ :: _ :: _ :: _ :: _ :: _ :: _ :: _ :: _ :: _ :: _ :: _ :: _ :: _ :: _ :: _ :: _ :: _ :: _ :: _ :: _ :: _ :: _ :: _ :: _ :: _ :: _ :: _ :: _ :: _ :: _ :: _ :: _ :: _ :: _ :: _ :: _ :: _ :: _ :: _ :: []), defers := [] } _
          refine wpAnyH_ready (rs := [8]) (by kernel_rfl) (by simp) ?_
          refine (AllReadyH.cons rfl (fun KK hK => ?_) AllReadyH.nil)
          go_simp
          refine (cZMulI2 xr xi yr yi _).mono ?_
          rintro e w9 ⟨pr, pi, rfl, hC, hb8⟩
          have B3 := btrans Bz hb8
          have zB := keepB hb8 zB
          clear hb8
          go_wp2_with fail
          clear hHeld
          refine hK.out _ _ (⟨ble B3 p0, ble B3 p1, ble B3 q0, ble B3 q1⟩) (fun hHeld => ?_)
          clear hK KK
          change wpAnyH _ _ _ _ _ _ _ { tmps := List.toArray (_ :: _ :: _ :: _ :: .slice (some ⟨lb, lo, none⟩) n lc :: .slice (some ⟨db, do', none⟩) n dc :: .slice (some ⟨sb, so, none⟩) n sc :: _ :: _ :: _ :: _ :: .int .i64 (k : Int) :: .pointer (some ⟨bz, 0, none⟩) :: _ :: _ :: _ :: _ :: _ :: _ :: _ :: _ :: _ :: _ :: _ :: _ :: _ :: _ :: _ :: _ :: _ :: _ :: _ :: _ :: _ :: _ :: _ :: _ :: _ :: _ :: _ :: _ :: _ :: _ :: _ :: _ :: _ :: _ :: _ :: _ :: _ :: _ :: _ :: _ :: _ :: _ :: _ :: _ :: _ :: _ :: _ :: _ :: _ :: _ :: _ :: _ :: _ :: _ :: _ :: _ :: _ :: _ :: _ :: _ :: _ :: _ :: _ :: _ :: _ :: _ :: _ :: .slice (some ⟨lb, lo, none⟩) n lc :: .int .i64 (k : Int) :: .pointer (some ⟨lb, lo + k * 2, none⟩) :: .agg #[.float .f64 xr, .float .f64 xi] :: .slice (some ⟨sb, so, none⟩) n sc :: .int .i64 (k : Int) :: .pointer (some ⟨sb, so + k * 2, none⟩) :: .agg #[.float .f64 yr, .float .f64 yi] :: .agg #[.float .f64 pr, .float .f64 pi] :: _ :: _ :: _ :: _ :: _ :: _ :: _ :: _ :: _ :: _ :: _ :: _ :: _ :: _ :: _ :: _ :: _ :: _ :: _ :: _ :: _ :: _ :: _ :: _ :: _ :: _ :: _ :: _ :: _ :: _ :: _ :: _ :: _ :: _ :: _ :: _ :: _ :: _ :: _ :: _ :: _ :: _ :: _ :: _ :: _ :: _ :: _ :: _ :: _ :: _ :: _ :: _ :: _ :: _ :: _ :: _ :: _ :: _ :: _ :: _ :: _ :: _ :: _ :: _ :: _ :: _ :: _ :: _ :: _ :: _ :: _ :: _ :: _ :: _ :: _ :: _ :: _ :: _ :: _ :: _ :: _ :: _ :: _ :: _ :: _ :: _ :: _ :: _ :: _ :: _ :: _ :: _ :: _ :: _ :: _ :: _ :: _ :: _ :: _ :: _ :: _ :: _ :: _ :: _ :: _ :: _ :: _ :: _ :: _ :: _ :: _ :: _ :: _ :: _ :: _ :: _ :: _ :: _ :: _ :: _ :: _ :: _ :: _ :: _ :: _ :: _ :: _ :: _ :: _ :: _ :: _ :: _ :: _ :: _ :: _ :: _ :: _ :: _ :: []), defers := [] } _
          refine wpAnyH_ready (rs := [10]) (by kernel_rfl) (by simp) ?_
          refine (AllReadyH.cons rfl (fun KK hK => ?_) AllReadyH.nil)
          obtain ⟨⟨m2, m3⟩, y0, y1⟩ := twoC zB
          have Bs : Below wr.heap.size wr ((w9.setCell ⟨bz, 0, none⟩ (.float .f64 pr)).setCell ⟨bz, 1, none⟩ (.float .f64 pi)) := below_set zlo (below_set zlo B3)
          go_simp
          clear hHeld
          refine hK.out _ _ (⟨ble Bs p0, ble Bs p1, ble Bs q0, ble Bs q1⟩) (fun hHeld => ?_)
          clear hK KK
          change wpAnyH _ _ _ _ _ _ _ { tmps := List.toArray (_ :: _ :: _ :: _ :: .slice (some ⟨lb, lo, none⟩) n lc :: .slice (some ⟨db, do', none⟩) n dc :: .slice (some ⟨sb, so, none⟩) n sc :: _ :: _ :: _ :: _ :: .int .i64 (k : Int) :: .pointer (some ⟨bz, 0, none⟩) :: _ :: _ :: _ :: _ :: _ :: _ :: _ :: _ :: _ :: _ :: _ :: _ :: _ :: _ :: _ :: _ :: _ :: _ :: _ :: _ :: _ :: _ :: _ :: _ :: _ :: _ :: _ :: _ :: _ :: _ :: _ :: _ :: _ :: _ :: _ :: _ :: _ :: _ :: _ :: _ :: _ :: _ :: _ :: _ :: _ :: _ :: _ :: _ :: _ :: _ :: _ :: _ :: _ :: _ :: _ :: _ :: _ :: _ :: _ :: _ :: _ :: _ :: _ :: _ :: _ :: _ :: _ :: .slice (some ⟨lb, lo, none⟩) n lc :: .int .i64 (k : Int) :: .pointer (some ⟨lb, lo + k * 2, none⟩) :: .agg #[.float .f64 xr, .float .f64 xi] :: .slice (some ⟨sb, so, none⟩) n sc :: .int .i64 (k : Int) :: .pointer (some ⟨sb, so + k * 2, none⟩) :: .agg #[.float .f64 yr, .float .f64 yi] :: .agg #[.float .f64 pr, .float .f64 pi] :: _ :: _ :: _ :: _ :: _ :: _ :: _ :: _ :: _ :: _ :: _ :: _ :: _ :: _ :: _ :: _ :: _ :: _ :: _ :: _ :: _ :: _ :: _ :: _ :: _ :: _ :: _ :: _ :: _ :: _ :: _ :: _ :: _ :: _ :: _ :: _ :: _ :: _ :: _ :: _ :: _ :: _ :: _ :: _ :: _ :: _ :: _ :: _ :: _ :: _ :: _ :: _ :: _ :: _ :: _ :: _ :: _ :: _ :: _ :: _ :: _ :: _ :: _ :: _ :: _ :: _ :: _ :: _ :: _ :: _ :: _ :: _ :: _ :: _ :: _ :: _ :: _ :: _ :: _ :: _ :: _ :: _ :: _ :: _ :: _ :: _ :: _ :: _ :: _ :: _ :: _ :: _ :: _ :: _ :: _ :: _ :: _ :: _ :: _ :: _ :: _ :: _ :: _ :: _ :: _ :: _ :: _ :: _ :: _ :: _ :: _ :: _ :: _ :: _ :: _ :: _ :: _ :: _ :: _ :: _ :: _ :: _ :: _ :: _ :: _ :: _ :: _ :: _ :: _ :: _ :: _ :: _ :: _ :: _ :: _ :: _ :: _ :: _ :: []), defers := [] } _
          refine wpAnyH_done (by kernel_rfl) ?_ _
          go_wp2_with fail
          go_meet
          exact gotS B3 zB zlo hC
      case rest =>
      obtain ⟨⟨bd, pr, pi, rfl, KD, hC, hlo⟩, hb3⟩ := hcut
      replace KZ : Bz wc w5.heap.size ⟨z0, z1⟩ := keepB hb3 KZ
      replace hb := btrans hb hb3
      replace hbs := btrans hbs hb3
      clear hb3 p0 p1 q0 q1
      obtain ⟨p0, p1⟩ := HQU.out k hku
      rw [hUK.out] at p0 p1
      replace p0 := ble hb p0
      replace p1 := ble hb p1
      dsimp only at p0 p1
      have hS : ZV.c ⟨u0, u1⟩ = zsub (ZV.c ⟨z0, z1⟩) (ZV.c ⟨pr, pi⟩) := by rw [huk.out, vAt_succ, hgl.out, ← hsk.out, ← hzc, ← hC]
      rw [← huk.out] at hV1
      obtain ⟨e0, he0, op0⟩ := sub_of (x := z0) (y := pr) (congrArg Prod.fst hS) hV1.1
      obtain ⟨e1, he1, op1⟩ := sub_of (x := z1) (y := pi) (congrArg Prod.snd hS) hV1.2
      have S1 := fun w9 => cSameB u0 e0 w9 he0
      have S2 := fun w9 => cSameB u1 e1 w9 he1
      clear hS hV1 he0 he1
      obtain ⟨⟨c0, c1⟩, -⟩ := twoC KZ
      obtain ⟨⟨c2, c3⟩, -⟩ := twoC KD
      go_upto_region 15 with fail
      go_quiet (first | (go_at_call 20; with_reducible refine Calls.quiet_of (S1 _)) | (go_at_call 20; with_reducible refine Calls.quiet_of (S2 _)))
      have hbw := Go.Joins.below_draws wc.heap.size wc nq
      replace KZ : Bz _ w5.heap.size ⟨z0, z1⟩ := keepB hbw KZ
      replace hb := btrans hb hbw
      replace hbs := btrans hbs hbw
      clear hbw p0 p1 S1 S2 op0 op1 c0 c1 c2 c3 KD hlo
      generalize wc.drewN nq = w6 at *
      obtain ⟨k', hk'⟩ : ∃ k', k' = k + 1 := ⟨_, rfl⟩
      have e1 : IntKind.i64.wrap ((k : Int) + 1) = (k' : Int) := (wrap_in _ (by omega) (by omega)).trans (by omega)
      by_cases hk1 : k' < n
      · have hks' : k' < ss.length := by have := HSL.out; omega
        have hsn := HSA.out k' hk1
        obtain ⟨p0, p1⟩ := HQD.out k hkd
        obtain ⟨q0, q1⟩ := HQS.out k' hks'
        replace p0 := ble hbs p0
        replace p1 := ble hbs p1
        replace q0 := ble hbs q0
        replace q1 := ble hbs q1
        clear hC hgl
        clear xr xi
        generalize ds.getD k ZV.zero = x at *
        obtain ⟨xr, xi⟩ := x
        generalize ss.getD k' ZV.zero = y at *
        have hY := hide hsk.out
        clear hsk
        have hyr : ZV.c ⟨yr, yi⟩ = zadd (ZV.c ⟨xr, xi⟩) (ZV.c y) := by rw [hY.out, sAt_step (by rw [cs_len, HD.out]; omega), hgd.out, ← hk', ← hsn]
        have hYK := hSK
        have HK' := hide hk'
        clear hY hSK hsn hgd hk'
        generalize yr = or at *
        generalize yi = oi at *
        obtain ⟨yr, yi⟩ := y
        have HO := hide hyr
        clear hyr
        dsimp only at p0 p1 q0 q1
        go_upto_region 18 with fail
        go_cut [13] from 75 to 164 (fun pv wc => GotZ w6 (zadd (ZV.c ⟨xr, xi⟩) (ZV.c ⟨yr, yi⟩)) pv wc)
        case first => as_aux_lemma =>
          refine wp_region_held_drew (S := (fun w' => w'.cell? ⟨db, do' + k * 2, none⟩ = some (.float .f64 xr) ∧ w'.cell? ⟨db, do' + k * 2 + 1, none⟩ = some (.float .f64 xi) ∧ w'.cell? ⟨sb, so + k' * 2, none⟩ = some (.float .f64 yr) ∧ w'.cell? ⟨sb, so + k' * 2 + 1, none⟩ = some (.float .f64 yi))) (by kernel_rfl) ?_ (fun hHeld => ?_)
          · go_keep
          have B0d : Below w6.heap.size w6 w6.drew := (Below.refl _ _).drew
          generalize w6.drew = wd at *
          refine wpAnyH_take (i := 0) (v := .slice (some ⟨db, do', none⟩) n dc) rfl (by kernel_rfl) (by kernel_rfl) (by kernel_rfl) (fun _ _ _ h => h) (Or.inl ⟨by kernel_rfl, fun w hS => by go_simp⟩) hHeld ?_
          change wpAnyH _ _ _ _ _ _ _ { tmps := List.toArray (_ :: _ :: _ :: _ :: .slice (some ⟨lb, lo, none⟩) n lc :: .slice (some ⟨db, do', none⟩) n dc :: .slice (some ⟨sb, so, none⟩) n sc :: _ :: _ :: _ :: _ :: .int .i64 (k : Int) :: _ :: _ :: _ :: _ :: _ :: _ :: _ :: _ :: _ :: _ :: _ :: _ :: _ :: _ :: _ :: _ :: _ :: _ :: _ :: _ :: _ :: _ :: _ :: _ :: _ :: _ :: _ :: _ :: _ :: _ :: _ :: _ :: _ :: _ :: _ :: _ :: _ :: _ :: _ :: _ :: _ :: _ :: _ :: _ :: _ :: _ :: _ :: _ :: _ :: _ :: _ :: _ :: _ :: _ :: _ :: _ :: _ :: _ :: _ :: _ :: _ :: _ :: _ :: _ :: _ :: _ :: _ :: _ :: _ :: _ :: _ :: _ :: _ :: _ :: _ :: _ :: _ :: _ :: _ :: _ :: _ :: _ :: _ :: _ :: _ :: _ :: _ :: _ :: _ :: _ :: _ :: _ :: _ :: _ :: _ :: _ :: _ :: _ :: _ :: _ :: _ :: _ :: _ :: _ :: _ :: _ :: _ :: .slice (some ⟨db, do', none⟩) n dc :: _ :: _ :: _ :: _ :: _ :: _ :: _ :: _ :: _ :: _ :: _ :: _ :: _ :: _ :: _ :: _ :: _ :: _ :: _ :: _ :: _ :: _ :: _ :: _ :: _ :: _ :: _ :: _ :: _ :: _ :: _ :: _ :: _ :: _ :: _ :: _ :: _ :: _ :: _ :: _ :: _ :: _ :: _ :: _ :: _ :: _ :: _ :: _ :: _ :: _ :: _ :: _ :: _ :: _ :: _ :: _ :: _ :: _ :: _ :: _ :: _ :: _ :: _ :: _ :: _ :: _ :: _ :: _ :: _ :: _ :: _ :: _ :: _ :: _ :: _ :: _ :: _ :: _ :: _ :: _ :: _ :: _ :: _ :: _ :: _ :: _ :: _ :: _ :: _ :: _ :: _ :: _ :: _ :: _ :: _ :: _ :: _ :: _ :: _ :: _ :: _ :: _ :: _ :: _ :: _ :: _ :: _ :: []), defers := [] } _
          refine wpAnyH_take (i := 1) (v := .int .i64 (k : Int)) rfl (by kernel_rfl) (by kernel_rfl) (by kernel_rfl) (fun _ _ _ h => h) (Or.inl ⟨by kernel_rfl, fun w hS => by go_simp⟩) hHeld ?_
          change wpAnyH _ _ _ _ _ _ _ { tmps := List.toArray (_ :: _ :: _ :: _ :: .slice (some ⟨lb, lo, none⟩) n lc :: .slice (some ⟨db, do', none⟩) n dc :: .slice (some ⟨sb, so, none⟩) n sc :: _ :: _ :: _ :: _ :: .int .i64 (k : Int) :: _ :: _ :: _ :: _ :: _ :: _ :: _ :: _ :: _ :: _ :: _ :: _ :: _ :: _ :: _ :: _ :: _ :: _ :: _ :: _ :: _ :: _ :: _ :: _ :: _ :: _ :: _ :: _ :: _ :: _ :: _ :: _ :: _ :: _ :: _ :: _ :: _ :: _ :: _ :: _ :: _ :: _ :: _ :: _ :: _ :: _ :: _ :: _ :: _ :: _ :: _ :: _ :: _ :: _ :: _ :: _ :: _ :: _ :: _ :: _ :: _ :: _ :: _ :: _ :: _ :: _ :: _ :: _ :: _ :: _ :: _ :: _ :: _ :: _ :: _ :: _ :: _ :: _ :: _ :: _ :: _ :: _ :: _ :: _ :: _ :: _ :: _ :: _ :: _ :: _ :: _ :: _ :: _ :: _ :: _ :: _ :: _ :: _ :: _ :: _ :: _ :: _ :: _ :: _ :: _ :: _ :: _ :: .slice (some ⟨db, do', none⟩) n dc :: .int .i64 (k : Int) :: _ :: _ :: _ :: _ :: _ :: _ :: _ :: _ :: _ :: _ :: _ :: _ :: _ :: _ :: _ :: _ :: _ :: _ :: _ :: _ :: _ :: _ :: _ :: _ :: _ :: _ :: _ :: _ :: _ :: _ :: _ :: _ :: _ :: _ :: _ :: _ :: _ :: _ :: _ :: _ :: _ :: _ :: _ :: _ :: _ :: _ :: _ :: _ :: _ :: _ :: _ :: _ :: _ :: _ :: _ :: _ :: _ :: _ :: _ :: _ :: _ :: _ :: _ :: _ :: _ :: _ :: _ :: _ :: _ :: _ :: _ :: _ :: _ :: _ :: _ :: _ :: _ :: _ :: _ :: _ :: _ :: _ :: _ :: _ :: _ :: _ :: _ :: _ :: _ :: _ :: _ :: _ :: _ :: _ :: _ :: _ :: _ :: _ :: _ :: _ :: _ :: _ :: _ :: _ :: _ :: _ :: []), defers := [] } _
          refine wpAnyH_take (i := 2) (v := .pointer (some ⟨db, do' + k * 2, none⟩)) rfl (by kernel_rfl) (by kernel_rfl) (by kernel_rfl) (fun _ _ _ h => h) (Or.inl ⟨by kernel_rfl, fun w hS => by go_simp⟩) hHeld ?_
          change wpAnyH _ _ _ _ _ _ _ { tmps := List.toArray (_ :: _ :: _ :: _ :: .slice (some ⟨lb, lo, none⟩) n lc :: .slice (some ⟨db, do', none⟩) n dc :: .slice (some ⟨sb, so, none⟩) n sc :: _ :: _ :: _ :: _ :: .int .i64 (k : Int) :: _ :: _ :: _ :: _ :: _ :: _ :: _ :: _ :: _ :: _ :: _ :: _ :: _ :: _ :: _ :: _ :: _ :: _ :: _ :: _ :: _ :: _ :: _ :: _ :: _ :: _ :: _ :: _ :: _ :: _ :: _ :: _ :: _ :: _ :: _ :: _ :: _ :: _ :: _ :: _ :: _ :: _ :: _ :: _ :: _ :: _ :: _ :: _ :: _ :: _ :: _ :: _ :: _ :: _ :: _ :: _ :: _ :: _ :: _ :: _ :: _ :: _ :: _ :: _ :: _ :: _ :: _ :: _ :: _ :: _ :: _ :: _ :: _ :: _ :: _ :: _ :: _ :: _ :: _ :: _ :: _ :: _ :: _ :: _ :: _ :: _ :: _ :: _ :: _ :: _ :: _ :: _ :: _ :: _ :: _ :: _ :: _ :: _ :: _ :: _ :: _ :: _ :: _ :: _ :: _ :: _ :: _ :: .slice (some ⟨db, do', none⟩) n dc :: .int .i64 (k : Int) :: .pointer (some ⟨db, do' + k * 2, none⟩) :: _ :: _ :: _ :: _ :: _ :: _ :: _ :: _ :: _ :: _ :: _ :: _ :: _ :: _ :: _ :: _ :: _ :: _ :: _ :: _ :: _ :: _ :: _ :: _ :: _ :: _ :: _ :: _ :: _ :: _ :: _ :: _ :: _ :: _ :: _ :: _ :: _ :: _ :: _ :: _ :: _ :: _ :: _ :: _ :: _ :: _ :: _ :: _ :: _ :: _ :: _ :: _ :: _ :: _ :: _ :: _ :: _ :: _ :: _ :: _ :: _ :: _ :: _ :: _ :: _ :: _ :: _ :: _ :: _ :: _ :: _ :: _ :: _ :: _ :: _ :: _ :: _ :: _ :: _ :: _ :: _ :: _ :: _ :: _ :: _ :: _ :: _ :: _ :: _ :: _ :: _ :: _ :: _ :: _ :: _ :: _ :: _ :: _ :: _ :: _ :: _ :: _ :: _ :: _ :: _ :: []), defers := [] } _
          refine wpAnyH_take (i := 3) (v := .agg #[.float .f64 xr, .float .f64 xi]) rfl (by kernel_rfl) (by kernel_rfl) (by kernel_rfl) (fun _ _ _ h => h) (Or.inl ⟨by kernel_rfl, fun w hS => by (obtain ⟨hS0, hS1, hS2, hS3⟩ := hS; go_simp)⟩) hHeld ?_
          change wpAnyH _ _ _ _ _ _ _ { tmps := List.toArray (_ :: _ :: _ :: _ :: .slice (some ⟨lb, lo, none⟩) n lc :: .slice (some ⟨db, do', none⟩) n dc :: .slice (some ⟨sb, so, none⟩) n sc :: _ :: _ :: _ :: _ :: .int .i64 (k : Int) :: _ :: _ :: _ :: _ :: _ :: _ :: _ :: _ :: _ :: _ :: _ :: _ :: _ :: _ :: _ :: _ :: _ :: _ :: _ :: _ :: _ :: _ :: _ :: _ :: _ :: _ :: _ :: _ :: _ :: _ :: _ :: _ :: _ :: _ :: _ :: _ :: _ :: _ :: _ :: _ :: _ :: _ :: _ :: _ :: _ :: _ :: _ :: _ :: _ :: _ :: _ :: _ :: _ :: _ :: _ :: _ :: _ :: _ :: _ :: _ :: _ :: _ :: _ :: _ :: _ :: _ :: _ :: _ :: _ :: _ :: _ :: _ :: _ :: _ :: _ :: _ :: _ :: _ :: _ :: _ :: _ :: _ :: _ :: _ :: _ :: _ :: _ :: _ :: _ :: _ :: _ :: _ :: _ :: _ :: _ :: _ :: _ :: _ :: _ :: _ :: _ :: _ :: _ :: _ :: _ :: _ :: _ :: .slice (some ⟨db, do', none⟩) n dc :: .int .i64 (k : Int) :: .pointer (some ⟨db, do' + k * 2, none⟩) :: .agg #[.float .f64 xr, .float .f64 xi] :: _ :: _ :: _ :: _ :: _ :: _ :: _ :: _ :: _ :: _ :: _ :: _ :: _ :: _ :: _ :: _ :: _ :: _ :: _ :: _ :: _ :: _ :: _ :: _ :: _ :: _ :: _ :: _ :: _ :: _ :: _ :: _ :: _ :: _ :: _ :: _ :: _ :: _ :: _ :: _ :: _ :: _ :: _ :: _ :: _ :: _ :: _ :: _ :: _ :: _ :: _ :: _ :: _ :: _ :: _ :: _ :: _ :: _ :: _ :: _ :: _ :: _ :: _ :: _ :: _ :: _ :: _ :: _ :: _ :: _ :: _ :: _ :: _ :: _ :: _ :: _ :: _ :: _ :: _ :: _ :: _ :: _ :: _ :: _ :: _ :: _ :: _ :: _ :: _ :: _ :: _ :: _ :: _ :: _ :: _ :: _ :: _ :: _ :: _ :: _ :: _ :: _ :: _ :: _ :: []), defers := [] } _
          refine wpAnyH_take (i := 4) (v := .slice (some ⟨sb, so, none⟩) n sc) rfl (by kernel_rfl) (by kernel_rfl) (by kernel_rfl) (fun _ _ _ h => h) (Or.inl ⟨by kernel_rfl, fun w hS => by go_simp⟩) hHeld ?_
          change wpAnyH _ _ _ _ _ _ _ { tmps := List.toArray (_ :: _ :: _ :: _ :: .slice (some ⟨lb, lo, none⟩) n lc :: .slice (some ⟨db, do', none⟩) n dc :: .slice (some ⟨sb, so, none⟩) n sc :: _ :: _ :: _ :: _ :: .int .i64 (k : Int) :: _ :: _ :: _ :: _ :: _ :: _ :: _ :: _ :: _ :: _ :: _ :: _ :: _ :: _ :: _ :: _ :: _ :: _ :: _ :: _ :: _ :: _ :: _ :: _ :: _ :: _ :: _ :: _ :: _ :: _ :: _ :: _ :: _ :: _ :: _ :: _ :: _ :: _ :: _ :: _ :: _ :: _ :: _ :: _ :: _ :: _ :: _ :: _ :: _ :: _ :: _ :: _ :: _ :: _ :: _ :: _ :: _ :: _ :: _ :: _ :: _ :: _ :: _ :: _ :: _ :: _ :: _ :: _ :: _ :: _ :: _ :: _ :: _ :: _ :: _ :: _ :: _ :: _ :: _ :: _ :: _ :: _ :: _ :: _ :: _ :: _ :: _ :: _ :: _ :: _ :: _ :: _ :: _ :: _ :: _ :: _ :: _ :: _ :: _ :: _ :: _ :: _ :: _ :: _ :: _ :: _ :: _ :: .slice (some ⟨db, do', none⟩) n dc :: .int .i64 (k : Int) :: .pointer (some ⟨db, do' + k * 2, none⟩) :: .agg #[.float .f64 xr, .float .f64 xi] :: .slice (some ⟨sb, so, none⟩) n sc :: _ :: _ :: _ :: _ :: _ :: _ :: _ :: _ :: _ :: _ :: _ :: _ :: _ :: _ :: _ :: _ :: _ :: _ :: _ :: _ :: _ :: _ :: _ :: _ :: _ :: _ :: _ :: _ :: _ :: _ :: _ :: _ :: _ :: _ :: _ :: _ :: _ :: _ :: _ :: _ :: _ :: _ :: _ :: _ :: _ :: _ :: _ :: _ :: _ :: _ :: _ :: _ :: _ :: _ :: _ :: _ :: _ :: _ :: _ :: _ :: _ :: _ :: _ :: _ :: _ :: _ :: _ :: _ :: _ :: _ :: _ :: _ :: _ :: _ :: _ :: _ :: _ :: _ :: _ :: _ :: _ :: _ :: _ :: _ :: _ :: _ :: _ :: _ :: _ :: _ :: _ :: _ :: _ :: _ :: _ :: _ :: _ :: _ :: _ :: _ :: _ :: _ :: _ :: []), defers := [] } _
          refine wpAnyH_take (i := 5) (v := .int .i64 (k : Int)) rfl (by kernel_rfl) (by kernel_rfl) (by kernel_rfl) (fun _ _ _ h => h) (Or.inl ⟨by kernel_rfl, fun w hS => by go_simp⟩) hHeld ?_
          change wpAnyH _ _ _ _ _ _ _ { tmps := List.toArray (_ :: _ :: _ :: _ :: .slice (some ⟨lb, lo, none⟩) n lc :: .slice (some ⟨db, do', none⟩) n dc :: .slice (some ⟨sb, so, none⟩) n sc :: _ :: _ :: _ :: _ :: .int .i64 (k : Int) :: _ :: _ :: _ :: _ :: _ :: _ :: _ :: _ :: _ :: _ :: _ :: _ :: _ :: _ :: _ :: _ :: _ :: _ :: _ :: _ :: _ :: _ :: _ :: _ :: _ :: _ :: _ :: _ :: _ :: _ :: _ :: _ :: _ :: _ :: _ :: _ :: _ :: _ :: _ :: _ :: _ :: _ :: _ :: _ :: _ :: _ :: _ :: _ :: _ :: _ :: _ :: _ :: _ :: _ :: _ :: _ :: _ :: _ :: _ :: _ :: _ :: _ :: _ :: _ :: _ :: _ :: _ :: _ :: _ :: _ :: _ :: _ :: _ :: _ :: _ :: _ :: _ :: _ :: _ :: _ :: _ :: _ :: _ :: _ :: _ :: _ :: _ :: _ :: _ :: _ :: _ :: _ :: _ :: _ :: _ :: _ :: _ :: _ :: _ :: _ :: _ :: _ :: _ :: _ :: _ :: _ :: _ :: .slice (some ⟨db, do', none⟩) n dc :: .int .i64 (k : Int) :: .pointer (some ⟨db, do' + k * 2, none⟩) :: .agg #[.float .f64 xr, .float .f64 xi] :: .slice (some ⟨sb, so, none⟩) n sc :: .int .i64 (k : Int) :: _ :: _ :: _ :: _ :: _ :: _ :: _ :: _ :: _ :: _ :: _ :: _ :: _ :: _ :: _ :: _ :: _ :: _ :: _ :: _ :: _ :: _ :: _ :: _ :: _ :: _ :: _ :: _ :: _ :: _ :: _ :: _ :: _ :: _ :: _ :: _ :: _ :: _ :: _ :: _ :: _ :: _ :: _ :: _ :: _ :: _ :: _ :: _ :: _ :: _ :: _ :: _ :: _ :: _ :: _ :: _ :: _ :: _ :: _ :: _ :: _ :: _ :: _ :: _ :: _ :: _ :: _ :: _ :: _ :: _ :: _ :: _ :: _ :: _ :: _ :: _ :: _ :: _ :: _ :: _ :: _ :: _ :: _ :: _ :: _ :: _ :: _ :: _ :: _ :: _ :: _ :: _ :: _ :: _ :: _ :: _ :: _ :: _ :: _ :: _ :: _ :: _ :: []), defers := [] } _
          refine wpAnyH_take (i := 6) (v := .int .i64 (k' : Int)) rfl (by kernel_rfl) (by kernel_rfl) (by kernel_rfl) (fun _ _ _ h => h) (Or.inl ⟨by kernel_rfl, fun w hS => by go_simp⟩) hHeld ?_
          change wpAnyH _ _ _ _ _ _ _ { tmps := List.toArray (_ :: _ :: _ :: _ :: .slice (some ⟨lb, lo, none⟩) n lc :: .slice (some ⟨db, do', none⟩) n dc :: .slice (some ⟨sb, so, none⟩) n sc :: _ :: _ :: _ :: _ :: .int .i64 (k : Int) :: _ :: _ :: _ :: _ :: _ :: _ :: _ :: _ :: _ :: _ :: _ :: _ :: _ :: _ :: _ :: _ :: _ :: _ :: _ :: _ :: _ :: _ :: _ :: _ :: _ :: _ :: _ :: _ :: _ :: _ :: _ :: _ :: _ :: _ :: _ :: _ :: _ :: _ :: _ :: _ :: _ :: _ :: _ :: _ :: _ :: _ :: _ :: _ :: _ :: _ :: _ :: _ :: _ :: _ :: _ :: _ :: _ :: _ :: _ :: _ :: _ :: _ :: _ :: _ :: _ :: _ :: _ :: _ :: _ :: _ :: _ :: _ :: _ :: _ :: _ :: _ :: _ :: _ :: _ :: _ :: _ :: _ :: _ :: _ :: _ :: _ :: _ :: _ :: _ :: _ :: _ :: _ :: _ :: _ :: _ :: _ :: _ :: _ :: _ :: _ :: _ :: _ :: _ :: _ :: _ :: _ :: _ :: .slice (some ⟨db, do', none⟩) n dc :: .int .i64 (k : Int) :: .pointer (some ⟨db, do' + k * 2, none⟩) :: .agg #[.float .f64 xr, .float .f64 xi] :: .slice (some ⟨sb, so, none⟩) n sc :: .int .i64 (k : Int) :: .int .i64 (k' : Int) :: _ :: _ :: _ :: _ :: _ :: _ :: _ :: _ :: _ :: _ :: _ :: _ :: _ :: _ :: _ :: _ :: _ :: _ :: _ :: _ :: _ :: _ :: _ :: _ :: _ :: _ :: _ :: _ :: _ :: _ :: _ :: _ :: _ :: _ :: _ :: _ :: _ :: _ :: _ :: _ :: _ :: _ :: _ :: _ :: _ :: _ :: _ :: _ :: _ :: _ :: _ :: _ :: _ :: _ :: _ :: _ :: _ :: _ :: _ :: _ :: _ :: _ :: _ :: _ :: _ :: _ :: _ :: _ :: _ :: _ :: _ :: _ :: _ :: _ :: _ :: _ :: _ :: _ :: _ :: _ :: _ :: _ :: _ :: _ :: _ :: _ :: _ :: _ :: _ :: _ :: _ :: _ :: _ :: _ :: _ :: _ :: _ :: _ :: _ :: _ :: _ :: []), defers := [] } _
          refine wpAnyH_take (i := 7) (v := .pointer (some ⟨sb, so + k' * 2, none⟩)) rfl (by kernel_rfl) (by kernel_rfl) (by kernel_rfl) (fun _ _ _ h => h) (Or.inl ⟨by kernel_rfl, fun w hS => by go_simp⟩) hHeld ?_
          change wpAnyH _ _ _ _ _ _ _ { tmps := List.toArray (_ :: _ :: _ :: _ :: .slice (some ⟨lb, lo, none⟩) n lc :: .slice (some ⟨db, do', none⟩) n dc :: .slice (some ⟨sb, so, none⟩) n sc :: _ :: _ :: _ :: _ :: .int .i64 (k : Int) :: _ :: _ :: _ :: _ :: _ :: _ :: _ :: _ :: _ :: _ :: _ :: _ :: _ :: _ :: _ :: _ :: _ :: _ :: _ :: _ :: _ :: _ :: _ :: _ :: _ :: _ :: _ :: _ :: _ :: _ :: _ :: _ :: _ :: _ :: _ :: _ :: _ :: _ :: _ :: _ :: _ :: _ :: _ :: _ :: _ :: _ :: _ :: _ :: _ :: _ :: _ :: _ :: _ :: _ :: _ :: _ :: _ :: _ :: _ :: _ :: _ :: _ :: _ :: _ :: _ :: _ :: _ :: _ :: _ :: _ :: _ :: _ :: _ :: _ :: _ :: _ :: _ :: _ :: _ :: _ :: _ :: _ :: _ :: _ :: _ :: _ :: _ :: _ :: _ :: _ :: _ :: _ :: _ :: _ :: _ :: _ :: _ :: _ :: _ :: _ :: _ :: _ :: _ :: _ :: _ :: _ :: _ :: .slice (some ⟨db, do', none⟩) n dc :: .int .i64 (k : Int) :: .pointer (some ⟨db, do' + k * 2, none⟩) :: .agg #[.float .f64 xr, .float .f64 xi] :: .slice (some ⟨sb, so, none⟩) n sc :: .int .i64 (k : Int) :: .int .i64 (k' : Int) :: .pointer (some ⟨sb, so + k' * 2, none⟩) :: _ :: _ :: _ :: _ :: _ :: _ :: _ :: _ :: _ :: _ :: _ :: _ :: _ :: _ :: _ :: _ :: _ :: _ :: _ :: _ :: _ :: _ :: _ :: _ :: _ :: _ :: _ :: _ :: _ :: _ :: _ :: _ :: _ :: _ :: _ :: _ :: _ :: _ :: _ :: _ :: _ :: _ :: _ :: _ :: _ :: _ :: _ :: _ :: _ :: _ :: _ :: _ :: _ :: _ :: _ :: _ :: _ :: _ :: _ :: _ :: _ :: _ :: _ :: _ :: _ :: _ :: _ :: _ :: _ :: _ :: _ :: _ :: _ :: _ :: _ :: _ :: _ :: _ :: _ :: _ :: _ :: _ :: _ :: _ :: _ :: _ :: _ :: _ :: _ :: _ :: _ :: _ :: _ :: _ :: _ :: _ :: _ :: _ :: _ :: _ :: []), defers := [] } _
          refine wpAnyH_take (i := 8) (v := .agg #[.float .f64 yr, .float .f64 yi]) rfl (by kernel_rfl) (by kernel_rfl) (by kernel_rfl) (fun _ _ _ h => h) (Or.inl ⟨by kernel_rfl, fun w hS => by (obtain ⟨hS0, hS1, hS2, hS3⟩ := hS; go_simp)⟩) hHeld ?_
          change wpAnyH _ _ _ _ _ _ _ { tmps := List.toArray (_ :: _ :: _ :: _ :: .slice (some ⟨lb, lo, none⟩) n lc :: .slice (some ⟨db, do', none⟩) n dc :: .slice (some ⟨sb, so, none⟩) n sc :: _ :: _ :: _ :: _ :: .int .i64 (k : Int) :: _ :: _ :: _ :: _ :: _ :: _ :: _ :: _ :: _ :: _ :: _ :: _ :: _ :: _ :: _ :: _ :: _ :: _ :: _ :: _ :: _ :: _ :: _ :: _ :: _ :: _ :: _ :: _ :: _ :: _ :: _ :: _ :: _ :: _ :: _ :: _ :: _ :: _ :: _ :: _ :: _ :: _ :: _ :: _ :: _ :: _ :: _ :: _ :: _ :: _ :: _ :: _ :: _ :: _ :: _ :: _ :: _ :: _ :: _ :: _ :: _ :: _ :: _ :: _ :: _ :: _ :: _ :: _ :: _ :: _ :: _ :: _ :: _ :: _ :: _ :: _ :: _ :: _ :: _ :: _ :: _ :: _ :: _ :: _ :: _ :: _ :: _ :: _ :: _ :: _ :: _ :: _ :: _ :: _ :: _ :: _ :: _ :: _ :: _ :: _ :: _ :: _ :: _ :: _ :: _ :: _ :: _ :: .slice (some ⟨db, do', none⟩) n dc :: .int .i64 (k : Int) :: .pointer (some ⟨db, do' + k * 2, none⟩) :: .agg #[.float .f64 xr, .float .f64 xi] :: .slice (some ⟨sb, so, none⟩) n sc :: .int .i64 (k : Int) :: .int .i64 (k' : Int) :: .pointer (some ⟨sb, so + k' * 2, none⟩) :: .agg #[.float .f64 yr, .float .f64 yi] :: _ :: _ :: _ :: _ :: _ :: _ :: _ :: _ :: _ :: _ :: _ :: _ :: _ :: _ :: _ :: _ :: _ :: _ :: _ :: _ :: _ :: _ :: _ :: _ :: _ :: _ :: _ :: _ :: _ :: _ :: _ :: _ :: _ :: _ :: _ :: _ :: _ :: _ :: _ :: _ :: _ :: _ :: _ :: _ :: _ :: _ :: _ :: _ :: _ :: _ :: _ :: _ :: _ :: _ :: _ :: _ :: _ :: _ :: _ :: _ :: _ :: _ :: _ :: _ :: _ :: _ :: _ :: _ :: _ :: _ :: _ :: _ :: _ :: _ :: _ :: _ :: _ :: _ :: _ :: _ :: _ :: _ :: _ :: _ :: _ :: _ :: _ :: _ :: _ :: _ :: _ :: _ :: _ :: _ :: _ :: _ :: _ :: _ :: _ :: []), defers := [] } _
          refine wpAnyH_ready (rs := [9, 10]) (by kernel_rfl) (by simp) ?_
          refine (AllReadyH.cons rfl (fun KK hK => ?_) (AllReadyH.cons rfl (fun KK hK => ?_) AllReadyH.nil))
          · skip
            go_simp
            refine (cZAddI2 xr xi yr yi _).mono ?_
            rintro e w9 ⟨pr, pi, rfl, hC, hb8⟩
            have B3 := btrans B0d hb8
            clear hb8
            go_wp2_with fail
            clear hHeld
            refine hK.out _ _ (⟨ble B3 p0, ble B3 p1, ble B3 q0, ble B3 q1⟩) (fun hHeld => ?_)
            clear hK KK
            change wpAnyH _ _ _ _ _ _ _ { tmps := List.toArray (_ :: _ :: _ :: _ :: .slice (some ⟨lb, lo, none⟩) n lc :: .slice (some ⟨db, do', none⟩) n dc :: .slice (some ⟨sb, so, none⟩) n sc :: _ :: _ :: _ :: _ :: .int .i64 (k : Int) :: _ :: _ :: _ :: _ :: _ :: _ :: _ :: _ :: _ :: _ :: _ :: _ :: _ :: _ :: _ :: _ :: _ :: _ :: _ :: _ :: _ :: _ :: _ :: _ :: _ :: _ :: _ :: _ :: _ :: _ :: _ :: _ :: _ :: _ :: _ :: _ :: _ :: _ :: _ :: _ :: _ :: _ :: _ :: _ :: _ :: _ :: _ :: _ :: _ :: _ :: _ :: _ :: _ :: _ :: _ :: _ :: _ :: _ :: _ :: _ :: _ :: _ :: _ :: _ :: _ :: _ :: _ :: _ :: _ :: _ :: _ :: _ :: _ :: _ :: _ :: _ :: _ :: _ :: _ :: _ :: _ :: _ :: _ :: _ :: _ :: _ :: _ :: _ :: _ :: _ :: _ :: _ :: _ :: _ :: _ :: _ :: _ :: _ :: _ :: _ :: _ :: _ :: _ :: _ :: _ :: _ :: _ :: .slice (some ⟨db, do', none⟩) n dc :: .int .i64 (k : Int) :: .pointer (some ⟨db, do' + k * 2, none⟩) :: .agg #[.float .f64 xr, .float .f64 xi] :: .slice (some ⟨sb, so, none⟩) n sc :: .int .i64 (k : Int) :: .int .i64 (k' : Int) :: .pointer (some ⟨sb, so + k' * 2, none⟩) :: .agg #[.float .f64 yr, .float .f64 yi] :: .agg #[.float .f64 pr, .float .f64 pi] :: _ :: _ :: _ :: _ :: _ :: _ :: _ :: _ :: _ :: _ :: _ :: _ :: _ :: _ :: _ :: _ :: _ :: _ :: _ :: _ :: _ :: _ :: _ :: _ :: _ :: _ :: _ :: _ :: _ :: _ :: _ :: _ :: _ :: _ :: _ :: _ :: _ :: _ :: _ :: _ :: _ :: _ :: _ :: _ :: _ :: _ :: _ :: _ :: _ :: _ :: _ :: _ :: _ :: _ :: _ :: _ :: _ :: _ :: _ :: _ :: _ :: _ :: _ :: _ :: _ :: _ :: _ :: _ :: _ :: _ :: _ :: _ :: _ :: _ :: _ :: _ :: _ :: _ :: _ :: _ :: _ :: _ :: _ :: _ :: _ :: _ :: _ :: _ :: _ :: _ :: _ :: _ :: _ :: _ :: _ :: _ :: _ :: _ :: []), defers := [] } _
            refine wpAnyH_ready (rs := [10]) (by kernel_rfl) (by simp) ?_
            refine (AllReadyH.cons rfl (fun KK hK => ?_) AllReadyH.nil)
            go_simp
            have hbz := balloc w9 (.cells #[.float .f64 0, .float .f64 0] 26)
            have zB : (w9.alloc (.cells #[.float .f64 0, .float .f64 0] 26)).heap[w9.heap.size]? = some (.cells #[.float .f64 0, .float .f64 0] 26 (0, 0)) := one_block w9 _
            have zlo : w6.heap.size ≤ w9.heap.size := B3.size
            have Bz := btrans B3 hbz
            clear hbz
            generalize w9.heap.size = bz at *
            generalize w9.alloc (.cells #[.float .f64 0, .float .f64 0] 26) = wz at *
            clear hHeld
            refine hK.out _ _ (⟨ble Bz p0, ble Bz p1, ble Bz q0, ble Bz q1⟩) (fun hHeld => ?_)
            clear hK KK
            change wpAnyH _ _ _ _ _ _ _ { tmps := List.toArray (_ :: _ :: _ :: _ :: .slice (some ⟨lb, lo, none⟩) n lc :: .slice (some ⟨db, do', none⟩) n dc :: .slice (some ⟨sb, so, none⟩) n sc :: _ :: _ :: _ :: _ :: .int .i64 (k : Int) :: _ :: .pointer (some ⟨bz, 0, none⟩) :: _ :: _ :: _ :: _ :: _ :: _ :: _ :: _ :: _ :: _ :: _ :: _ :: _ :: _ :: _ :: _ :: _ :: _ :: _ :: _ :: _ :: _ :: _ :: _ :: _ :: _ :: _ :: _ :: _ :: _ :: _ :: _ :: _ :: _ :: _ :: _ :: _ :: _ :: _ :: _ :: _ :: _ :: _ :: _ :: _ :: _ :: _ :: _ :: _ :: _ :: _ :: _ :: _ :: _ :: _ :: _ :: _ :: _ :: _ :: _ :: _ :: _ :: _ :: _ :: _ :: _ :: _ :: _ :: _ :: _ :: _ :: _ :: _ :: _ :: _ :: _ :: _ :: _ :: _ :: _ :: _ :: _ :: _ :: _ :: _ :: _ :: _ :: _ :: _ :: _ :: _ :: _ :: _ :: _ :: _ :: _ :: _ :: _ :: _ :: _ :: _ :: _ :: _ :: _ :: _ :: .slice (some ⟨db, do', none⟩) n dc :: .int .i64 (k : Int) :: .pointer (some ⟨db, do' + k * 2, none⟩) :: .agg #[.float .f64 xr, .float .f64 xi] :: .slice (some ⟨sb, so, none⟩) n sc :: .int .i64 (k : Int) :: .int .i64 (k' : Int) :: .pointer (some ⟨sb, so + k' * 2, none⟩) :: .agg #[.float .f64 yr, .float .f64 yi] :: .agg #[.float .f64 pr, .float .f64 pi] :: _ :: _ :: _ :: _ :: _ :: _ :: _ :: _ :: _ :: _ :: _ :: _ :: _ :: _ :: _ :: _ :: _ :: _ :: _ :: _ :: _ :: _ :: _ :: _ :: _ :: _ :: _ :: _ :: _ :: _ :: _ :: _ :: _ :: _ :: _ :: _ :: _ :: _ :: _ :: _ :: _ :: _ :: _ :: _ :: _ :: _ :: _ :: _ :: _ :: _ :: _ :: _ :: _ :: _ :: _ :: _ :: _ :: _ :: _ :: _ :: _ :: _ :: _ :: _ :: _ :: _ :: _ :: _ :: _ :: _ :: _ :: _ :: _ :: _ :: _ :: _ :: _ :: _ :: _ :: _ :: _ :: _ :: _ :: _ :: _ :: _ :: _ :: _ :: _ :: _ :: _ :: _ :: _ :: _ :: _ :: _ :: _ :: _ :: []), defers := [] } _
            refine wpAnyH_ready (rs := [11]) (by kernel_rfl) (by simp) ?_
            refine (AllReadyH.cons rfl (fun KK hK => ?_) AllReadyH.nil)
            obtain ⟨⟨m2, m3⟩, y0, y1⟩ := twoC zB
            have Bs : Below w6.heap.size w6 ((wz.setCell ⟨bz, 0, none⟩ (.float .f64 pr)).setCell ⟨bz, 1, none⟩ (.float .f64 pi)) := below_set zlo (below_set zlo Bz)
            go_simp
            clear hHeld
            refine hK.out _ _ (⟨ble Bs p0, ble Bs p1, ble Bs q0, ble Bs q1⟩) (fun hHeld => ?_)
            clear hK KK
            change wpAnyH _ _ _ _ _ _ _ { tmps := List.toArray (_ :: _ :: _ :: _ :: .slice (some ⟨lb, lo, none⟩) n lc :: .slice (some ⟨db, do', none⟩) n dc :: .slice (some ⟨sb, so, none⟩) n sc :: _ :: _ :: _ :: _ :: .int .i64 (k : Int) :: _ :: .pointer (some ⟨bz, 0, none⟩) :: _ :: _ :: _ :: _ :: _ :: _ :: _ :: _ :: _ :: _ :: _ :: _ :: _ :: _ :: _ :: _ :: _ :: _ :: _ :: _ :: _ :: _ :: _ :: _ :: _ :: _ :: _ :: _ :: _ :: _ :: _ :: _ :: _ :: _ :: _ :: _ :: _ :: _ :: _ :: _ :: _ :: _ :: _ :: _ :: _ :: _ :: _ :: _ :: _ :: _ :: _ :: _ :: _ :: _ :: _ :: _ :: _ :: _ :: _ :: _ :: _ :: _ :: _ :: _ :: _ :: _ :: _ :: _ :: _ :: _ :: _ :: _ :: _ :: _ :: _ :: _ :: _ :: _ :: _ :: _ :: _ :: _ :: _ :: _ :: _ :: _ :: _ :: _ :: _ :: _ :: _ :: _ :: _ :: _ :: _ :: _ :: _ :: _ :: _ :: _ :: _ :: _ :: _ :: _ :: _ :: .slice (some ⟨db, do', none⟩) n dc :: .int .i64 (k : Int) :: .pointer (some ⟨db, do' + k * 2, none⟩) :: .agg #[.float .f64 xr, .float .f64 xi] :: .slice (some ⟨sb, so, none⟩) n sc :: .int .i64 (k : Int) :: .int .i64 (k' : Int) :: .pointer (some ⟨sb, so + k' * 2, none⟩) :: .agg #[.float .f64 yr, .float .f64 yi] :: .agg #[.float .f64 pr, .float .f64 pi] :: _ :: _ :: _ :: _ :: _ :: _ :: _ :: _ :: _ :: _ :: _ :: _ :: _ :: _ :: _ :: _ :: _ :: _ :: _ :: _ :: _ :: _ :: _ :: _ :: _ :: _ :: _ :: _ :: _ :: _ :: _ :: _ :: _ :: _ :: _ :: _ :: _ :: _ :: _ :: _ :: _ :: _ :: _ :: _ :: _ :: _ :: _ :: _ :: _ :: _ :: _ :: _ :: _ :: _ :: _ :: _ :: _ :: _ :: _ :: _ :: _ :: _ :: _ :: _ :: _ :: _ :: _ :: _ :: _ :: _ :: _ :: _ :: _ :: _ :: _ :: _ :: _ :: _ :: _ :: _ :: _ :: _ :: _ :: _ :: _ :: _ :: _ :: _ :: _ :: _ :: _ :: _ :: _ :: _ :: _ :: _ :: _ :: _ :: []), defers := [] } _
            refine wpAnyH_done (by kernel_rfl) ?_ _
            go_wp2_with fail
            go_meet
            exact gotS Bz zB zlo hC
          · skip
            go_simp
            have hbz := balloc wd (.cells #[.float .f64 0, .float .f64 0] 26)
            have zB : (wd.alloc (.cells #[.float .f64 0, .float .f64 0] 26)).heap[wd.heap.size]? = some (.cells #[.float .f64 0, .float .f64 0] 26 (0, 0)) := one_block wd _
            have zlo : w6.heap.size ≤ wd.heap.size := B0d.size
            have Bz := btrans B0d hbz
            clear hbz
            generalize wd.heap.size = bz at *
            generalize wd.alloc (.cells #[.float .f64 0, .float .f64 0] 26) = wz at *
            clear hHeld
            refine hK.out _ _ (⟨ble Bz p0, ble Bz p1, ble Bz q0, ble Bz q1⟩) (fun hHeld => ?_)
            clear hK KK
            change wpAnyH _ _ _ _ _ _ _ { tmps := List.toArray (_ :: _ :: _ :: _ :: .slice (some ⟨lb, lo, none⟩) n lc :: .slice (some ⟨db, do', none⟩) n dc :: .slice (some ⟨sb, so, none⟩) n sc :: _ :: _ :: _ :: _ :: .int .i64 (k : Int) :: _ :: .pointer (some ⟨bz, 0, none⟩) :: _ :: _ :: _ :: _ :: _ :: _ :: _ :: _ :: _ :: _ :: _ :: _ :: _ :: _ :: _ :: _ :: _ :: _ :: _ :: _ :: _ :: _ :: _ :: _ :: _ :: _ :: _ :: _ :: _ :: _ :: _ :: _ :: _ :: _ :: _ :: _ :: _ :: _ :: _ :: _ :: _ :: _ :: _ :: _ :: _ :: _ :: _ :: _ :: _ :: _ :: _ :: _ :: _ :: _ :: _ :: _ :: _ :: _ :: _ :: _ :: _ :: _ :: _ :: _ :: _ :: _ :: _ :: _ :: _ :: _ :: _ :: _ :: _ :: _ :: _ :: _ :: _ :: _ :: _ :: _ :: _ :: _ :: _ :: _ :: _ :: _ :: _ :: _ :: _ :: _ :: _ :: _ :: _ :: _ :: _ :: _ :: _ :: _ :: _ :: _ :: _ :: _ :: _ :: _ :: _ :: .slice (some ⟨db, do', none⟩) n dc :: .int .i64 (k : Int) :: .pointer (some ⟨db, do' + k * 2, none⟩) :: .agg #[.float .f64 xr, .float .f64 xi] :: .slice (some ⟨sb, so, none⟩) n sc :: .int .i64 (k : Int) :: .int .i64 (k' : Int) :: .pointer (some ⟨sb, so + k' * 2, none⟩) :: .agg #[.float .f64 yr, .float .f64 yi] :: _ :: _ :: _ :: _ :: _ :: _ :: _ :: _ :: _ :: _ :: _ :: _ :: _ :: _ :: _ :: _ :: _ :: _ :: _ :: _ :: _ :: _ :: _ :: _ :: _ :: _ :: _ :: _ :: _ :: _ :: _ :: _ :: _ :: _ :: _ :: _ :: _ :: _ :: _ :: _ :: _ :: _ :: _ :: _ :: _ :: _ :: _ :: _ :: _ :: _ :: _ :: _ :: _ :: _ :: _ :: _ :: _ :: _ :: _ :: _ :: _ :: _ :: _ :: _ :: _ :: _ :: _ :: _ :: _ :: _ :: _ :: _ :: _ :: _ :: _ :: _ :: _ :: _ :: _ :: _ :: _ :: _ :: _ :: _ :: _ :: _ :: _ :: _ :: _ :: _ :: _ :: _ :: _ :: _ :: _ :: _ :: _ :: _ :: _ :: []), defers := [] } _
            refine wpAnyH_ready (rs := [9]) (by kernel_rfl) (by simp) ?_
            refine (AllReadyH.cons rfl (fun KK hK => ?_) AllReadyH.nil)
            go_simp
            refine (cZAddI2 xr xi yr yi _).mono ?_
            rintro e w9 ⟨pr, pi, rfl, hC, hb8⟩
            have B3 := btrans Bz hb8
            have zB := keepB hb8 zB
            clear hb8
            go_wp2_with fail
            clear hHeld
            refine hK.out _ _ (⟨ble B3 p0, ble B3 p1, ble B3 q0, ble B3 q1⟩) (fun hHeld => ?_)
            clear hK KK
            change wpAnyH _ _ _ _ _ _ _ { tmps := List.toArray (_ :: _ :: _ :: _ :: .slice (some ⟨lb, lo, none⟩) n lc :: .slice (some ⟨db, do', none⟩) n dc :: .slice (some ⟨sb, so, none⟩) n sc :: _ :: _ :: _ :: _ :: .int .i64 (k : Int) :: _ :: .pointer (some ⟨bz, 0, none⟩) :: _ :: _ :: _ :: _ :: _ :: _ :: _ :: _ :: _ :: _ :: _ :: _ :: _ :: _ :: _ :: _ :: _ :: _ :: _ :: _ :: _ :: _ :: _ :: _ :: _ :: _ :: _ :: _ :: _ :: _ :: _ :: _ :: _ :: _ :: _ :: _ :: _ :: _ :: _ :: _ :: _ :: _ :: _ :: _ :: _ :: _ :: _ :: _ :: _ :: _ :: _ :: _ :: _ :: _ :: _ :: _ :: _ :: _ :: _ :: _ :: _ :: _ :: _ :: _ :: _ :: _ :: _ :: _ :: _ :: _ :: _ :: _ :: _ :: _ :: _ :: _ :: _ :: _ :: _ :: _ :: _ :: _ :: _ :: _ :: _ :: _ :: _ :: _ :: _ :: _ :: _ :: _ :: _ :: _ :: _ :: _ :: _ :: _ :: _ :: _ :: _ :: _ :: _ :: _ :: _ :: .slice (some ⟨db, do', none⟩) n dc :: .int .i64 (k : Int) :: .pointer (some ⟨db, do' + k * 2, none⟩) :: .agg #[.float .f64 xr, .float .f64 xi] :: .slice (some ⟨sb, so, none⟩) n sc :: .int .i64 (k : Int) :: .int .i64 (k' : Int) :: .pointer (some ⟨sb, so + k' * 2, none⟩) :: .agg #[.float .f64 yr, .float .f64 yi] :: .agg #[.float .f64 pr, .float .f64 pi] :: _ :: _ :: _ :: _ :: _ :: _ :: _ :: _ :: _ :: _ :: _ :: _ :: _ :: _ :: _ :: _ :: _ :: _ :: _ :: _ :: _ :: _ :: _ :: _ :: _ :: _ :: _ :: _ :: _ :: _ :: _ :: _ :: _ :: _ :: _ :: _ :: _ :: _ :: _ :: _ :: _ :: _ :: _ :: _ :: _ :: _ :: _ :: _ :: _ :: _ :: _ :: _ :: _ :: _ :: _ :: _ :: _ :: _ :: _ :: _ :: _ :: _ :: _ :: _ :: _ :: _ :: _ :: _ :: _ :: _ :: _ :: _ :: _ :: _ :: _ :: _ :: _ :: _ :: _ :: _ :: _ :: _ :: _ :: _ :: _ :: _ :: _ :: _ :: _ :: _ :: _ :: _ :: _ :: _ :: _ :: _ :: _ :: _ :: []), defers := [] } _
            refine wpAnyH_ready (rs := [11]) (by kernel_rfl) (by simp) ?_
            refine (AllReadyH.cons rfl (fun KK hK => ?_) AllReadyH.nil)
            obtain ⟨⟨m2, m3⟩, y0, y1⟩ := twoC zB
            have Bs : Below w6.heap.size w6 ((w9.setCell ⟨bz, 0, none⟩ (.float .f64 pr)).setCell ⟨bz, 1, none⟩ (.float .f64 pi)) := below_set zlo (below_set zlo B3)
            go_simp
            clear hHeld
            refine hK.out _ _ (⟨ble Bs p0, ble Bs p1, ble Bs q0, ble Bs q1⟩) (fun hHeld => ?_)
            clear hK KK
            change wpAnyH _ _ _ _ _ _ _ { tmps := List.toArray (_ :: _ :: _ :: _ :: .slice (some ⟨lb, lo, none⟩) n lc :: .slice (some ⟨db, do', none⟩) n dc :: .slice (some ⟨sb, so, none⟩) n sc :: _ :: _ :: _ :: _ :: .int .i64 (k : Int) :: _ :: .pointer (some ⟨bz, 0, none⟩) :: _ :: _ :: _ :: _ :: _ :: _ :: _ :: _ :: _ :: _ :: _ :: _ :: _ :: _ :: _ :: _ :: _ :: _ :: _ :: _ :: _ :: _ :: _ :: _ :: _ :: _ :: _ :: _ :: _ :: _ :: _ :: _ :: _ :: _ :: _ :: _ :: _ :: _ :: _ :: _ :: _ :: _ :: _ :: _ :: _ :: _ :: _ :: _ :: _ :: _ :: _ :: _ :: _ :: _ :: _ :: _ :: _ :: _ :: _ :: _ :: _ :: _ :: _ :: _ :: _ :: _ :: _ :: _ :: _ :: _ :: _ :: _ :: _ :: _ :: _ :: _ :: _ :: _ :: _ :: _ :: _ :: _ :: _ :: _ :: _ :: _ :: _ :: _ :: _ :: _ :: _ :: _ :: _ :: _ :: _ :: _ :: _ :: _ :: _ :: _ :: _ :: _ :: _ :: _ :: _ :: .slice (some ⟨db, do', none⟩) n dc :: .int .i64 (k : Int) :: .pointer (some ⟨db, do' + k * 2, none⟩) :: .agg #[.float .f64 xr, .float .f64 xi] :: .slice (some ⟨sb, so, none⟩) n sc :: .int .i64 (k : Int) :: .int .i64 (k' : Int) :: .pointer (some ⟨sb, so + k' * 2, none⟩) :: .agg #[.float .f64 yr, .float .f64 yi] :: .agg #[.float .f64 pr, .float .f64 pi] :: _ :: _ :: _ :: _ :: _ :: _ :: _ :: _ :: _ :: _ :: _ :: _ :: _ :: _ :: _ :: _ :: _ :: _ :: _ :: _ :: _ :: _ :: _ :: _ :: _ :: _ :: _ :: _ :: _ :: _ :: _ :: _ :: _ :: _ :: _ :: _ :: _ :: _ :: _ :: _ :: _ :: _ :: _ :: _ :: _ :: _ :: _ :: _ :: _ :: _ :: _ :: _ :: _ :: _ :: _ :: _ :: _ :: _ :: _ :: _ :: _ :: _ :: _ :: _ :: _ :: _ :: _ :: _ :: _ :: _ :: _ :: _ :: _ :: _ :: _ :: _ :: _ :: _ :: _ :: _ :: _ :: _ :: _ :: _ :: _ :: _ :: _ :: _ :: _ :: _ :: _ :: _ :: _ :: _ :: _ :: _ :: _ :: _ :: []), defers := [] } _
            refine wpAnyH_done (by kernel_rfl) ?_ _
            go_wp2_with fail
            go_meet
            exact gotS B3 zB zlo hC
        case rest =>
        obtain ⟨⟨bd2, pr2, pi2, rfl, KD, hC, hlo⟩, hb3⟩ := hcut
        replace KZ : Bz wc w5.heap.size ⟨z0, z1⟩ := keepB hb3 KZ
        replace hb := btrans hb hb3
        replace hbs := btrans hbs hb3
        clear hb3 p0 p1 q0 q1
        obtain ⟨p0, p1⟩ := HQS.out k hks
        rw [hYK.out] at p0 p1
        replace p0 := ble hbs p0
        replace p1 := ble hbs p1
        dsimp only at p0 p1
        have hS : ZV.c ⟨pr2, pi2⟩ = ZV.c ⟨or, oi⟩ := by rw [hC, ← HO.out]
        have S1 := fun w9 => cSameB pr2 or w9 (congrArg Prod.fst hS)
        have S2 := fun w9 => cSameB pi2 oi w9 (congrArg Prod.snd hS)
        clear hS
        obtain ⟨⟨c2, c3⟩, -⟩ := twoC KD
        go_upto_region 19 with fail
        go_quiet (first | (go_at_call 20; with_reducible refine Calls.quiet_of (S1 _)) | (go_at_call 20; with_reducible refine Calls.quiet_of (S2 _)))
        have hbw := Go.Joins.below_draws wc.heap.size wc nq
        replace KZ : Bz _ w5.heap.size ⟨z0, z1⟩ := keepB hbw KZ
        replace hb := btrans hb hbw
        clear hbw p0 p1 S1 S2 c2 c3 KD hlo hC HO
        generalize wc.drewN nq = wt at *
        obtain ⟨r0, r1⟩ := HQU.out k hku
        obtain ⟨t0, t1⟩ := HQU.out j hju
        replace r0 := ble hb r0
        replace r1 := ble hb r1
        replace t0 := ble hb t0
        replace t1 := ble hb t1
        rw [hUK.out] at r0 r1
        dsimp only at r0 r1
        generalize us.getD j ZV.zero = uj at *
        obtain ⟨j0, j1⟩ := uj
        dsimp only at t0 t1
        obtain ⟨L, hL0⟩ : ∃ L, Hid (ltZ (zsize (ZV.c ⟨u0, u1⟩)) (zsize (ZV.c ⟨j0, j1⟩)) = L) := ⟨_, hide rfl⟩
        have hLn := hide (hLw.step (hss.out) L (by unfold szAt; rw [hgu.out, hgj.out]; exact hL0.out))
        go_upto_region 21 with fail
        refine wp_region_held_drew (S := (fun w' => w'.cell? ⟨ub, uo + k * 2, none⟩ = some (.float .f64 u0) ∧ w'.cell? ⟨ub, uo + k * 2 + 1, none⟩ = some (.float .f64 u1) ∧ w'.cell? ⟨ub, uo + j * 2, none⟩ = some (.float .f64 j0) ∧ w'.cell? ⟨ub, uo + j * 2 + 1, none⟩ = some (.float .f64 j1))) (by kernel_rfl) ?_ (fun hHeld => ?_)
        · go_keep
        have B0d : Below wt.heap.size wt wt.drew := (Below.refl _ _).drew
        generalize wt.drew = wd at *
        refine wpAnyH_take (i := 0) (v := .slice (some ⟨ub, uo, none⟩) n uc) rfl (by kernel_rfl) (by kernel_rfl) (by kernel_rfl) (fun _ _ _ h => h) (Or.inl ⟨by kernel_rfl, fun w hS => by go_simp⟩) hHeld ?_
        change wpAnyH _ _ _ _ _ _ _ { tmps := List.toArray (_ :: _ :: _ :: _ :: _ :: _ :: _ :: .slice (some ⟨ub, uo, none⟩) n uc :: _ :: _ :: .int .i64 (j : Int) :: .int .i64 (k : Int) :: _ :: _ :: _ :: _ :: _ :: _ :: _ :: _ :: _ :: _ :: _ :: _ :: _ :: _ :: _ :: _ :: _ :: _ :: _ :: _ :: _ :: _ :: _ :: _ :: _ :: _ :: _ :: _ :: _ :: _ :: _ :: _ :: _ :: _ :: _ :: _ :: _ :: _ :: _ :: _ :: _ :: _ :: _ :: _ :: _ :: _ :: _ :: _ :: _ :: _ :: _ :: _ :: _ :: _ :: _ :: _ :: _ :: _ :: _ :: _ :: _ :: _ :: _ :: _ :: _ :: _ :: _ :: _ :: _ :: _ :: _ :: _ :: _ :: _ :: _ :: _ :: _ :: _ :: _ :: _ :: _ :: _ :: _ :: _ :: _ :: _ :: _ :: _ :: _ :: _ :: _ :: _ :: _ :: _ :: _ :: _ :: _ :: _ :: _ :: _ :: _ :: _ :: _ :: _ :: _ :: _ :: _ :: _ :: _ :: _ :: _ :: _ :: _ :: _ :: _ :: _ :: _ :: _ :: _ :: _ :: _ :: _ :: _ :: _ :: _ :: _ :: _ :: _ :: _ :: _ :: _ :: _ :: _ :: _ :: _ :: _ :: _ :: .slice (some ⟨ub, uo, none⟩) n uc :: _ :: _ :: _ :: _ :: _ :: _ :: _ :: _ :: _ :: _ :: _ :: _ :: _ :: _ :: _ :: _ :: _ :: _ :: _ :: _ :: _ :: _ :: _ :: _ :: _ :: _ :: _ :: _ :: _ :: _ :: _ :: _ :: _ :: _ :: _ :: _ :: _ :: _ :: _ :: _ :: _ :: _ :: _ :: _ :: _ :: _ :: _ :: _ :: _ :: _ :: _ :: _ :: _ :: _ :: _ :: _ :: _ :: _ :: _ :: _ :: _ :: _ :: _ :: _ :: _ :: _ :: _ :: _ :: _ :: _ :: _ :: _ :: _ :: _ :: _ :: _ :: _ :: []), defers := [] } _
        refine wpAnyH_take (i := 1) (v := .int .i64 (k : Int)) rfl (by kernel_rfl) (by kernel_rfl) (by kernel_rfl) (fun _ _ _ h => h) (Or.inl ⟨by kernel_rfl, fun w hS => by go_simp⟩) hHeld ?_
        change wpAnyH _ _ _ _ _ _ _ { tmps := List.toArray (_ :: _ :: _ :: _ :: _ :: _ :: _ :: .slice (some ⟨ub, uo, none⟩) n uc :: _ :: _ :: .int .i64 (j : Int) :: .int .i64 (k : Int) :: _ :: _ :: _ :: _ :: _ :: _ :: _ :: _ :: _ :: _ :: _ :: _ :: _ :: _ :: _ :: _ :: _ :: _ :: _ :: _ :: _ :: _ :: _ :: _ :: _ :: _ :: _ :: _ :: _ :: _ :: _ :: _ :: _ :: _ :: _ :: _ :: _ :: _ :: _ :: _ :: _ :: _ :: _ :: _ :: _ :: _ :: _ :: _ :: _ :: _ :: _ :: _ :: _ :: _ :: _ :: _ :: _ :: _ :: _ :: _ :: _ :: _ :: _ :: _ :: _ :: _ :: _ :: _ :: _ :: _ :: _ :: _ :: _ :: _ :: _ :: _ :: _ :: _ :: _ :: _ :: _ :: _ :: _ :: _ :: _ :: _ :: _ :: _ :: _ :: _ :: _ :: _ :: _ :: _ :: _ :: _ :: _ :: _ :: _ :: _ :: _ :: _ :: _ :: _ :: _ :: _ :: _ :: _ :: _ :: _ :: _ :: _ :: _ :: _ :: _ :: _ :: _ :: _ :: _ :: _ :: _ :: _ :: _ :: _ :: _ :: _ :: _ :: _ :: _ :: _ :: _ :: _ :: _ :: _ :: _ :: _ :: _ :: .slice (some ⟨ub, uo, none⟩) n uc :: .int .i64 (k : Int) :: _ :: _ :: _ :: _ :: _ :: _ :: _ :: _ :: _ :: _ :: _ :: _ :: _ :: _ :: _ :: _ :: _ :: _ :: _ :: _ :: _ :: _ :: _ :: _ :: _ :: _ :: _ :: _ :: _ :: _ :: _ :: _ :: _ :: _ :: _ :: _ :: _ :: _ :: _ :: _ :: _ :: _ :: _ :: _ :: _ :: _ :: _ :: _ :: _ :: _ :: _ :: _ :: _ :: _ :: _ :: _ :: _ :: _ :: _ :: _ :: _ :: _ :: _ :: _ :: _ :: _ :: _ :: _ :: _ :: _ :: _ :: _ :: _ :: _ :: _ :: _ :: []), defers := [] } _
        refine wpAnyH_take (i := 2) (v := .pointer (some ⟨ub, uo + k * 2, none⟩)) rfl (by kernel_rfl) (by kernel_rfl) (by kernel_rfl) (fun _ _ _ h => h) (Or.inl ⟨by kernel_rfl, fun w hS => by go_simp⟩) hHeld ?_
        change wpAnyH _ _ _ _ _ _ _ { tmps := List.toArray (_ :: _ :: _ :: _ :: _ :: _ :: _ :: .slice (some ⟨ub, uo, none⟩) n uc :: _ :: _ :: .int .i64 (j : Int) :: .int .i64 (k : Int) :: _ :: _ :: _ :: _ :: _ :: _ :: _ :: _ :: _ :: _ :: _ :: _ :: _ :: _ :: _ :: _ :: _ :: _ :: _ :: _ :: _ :: _ :: _ :: _ :: _ :: _ :: _ :: _ :: _ :: _ :: _ :: _ :: _ :: _ :: _ :: _ :: _ :: _ :: _ :: _ :: _ :: _ :: _ :: _ :: _ :: _ :: _ :: _ :: _ :: _ :: _ :: _ :: _ :: _ :: _ :: _ :: _ :: _ :: _ :: _ :: _ :: _ :: _ :: _ :: _ :: _ :: _ :: _ :: _ :: _ :: _ :: _ :: _ :: _ :: _ :: _ :: _ :: _ :: _ :: _ :: _ :: _ :: _ :: _ :: _ :: _ :: _ :: _ :: _ :: _ :: _ :: _ :: _ :: _ :: _ :: _ :: _ :: _ :: _ :: _ :: _ :: _ :: _ :: _ :: _ :: _ :: _ :: _ :: _ :: _ :: _ :: _ :: _ :: _ :: _ :: _ :: _ :: _ :: _ :: _ :: _ :: _ :: _ :: _ :: _ :: _ :: _ :: _ :: _ :: _ :: _ :: _ :: _ :: _ :: _ :: _ :: _ :: .slice (some ⟨ub, uo, none⟩) n uc :: .int .i64 (k : Int) :: .pointer (some ⟨ub, uo + k * 2, none⟩) :: _ :: _ :: _ :: _ :: _ :: _ :: _ :: _ :: _ :: _ :: _ :: _ :: _ :: _ :: _ :: _ :: _ :: _ :: _ :: _ :: _ :: _ :: _ :: _ :: _ :: _ :: _ :: _ :: _ :: _ :: _ :: _ :: _ :: _ :: _ :: _ :: _ :: _ :: _ :: _ :: _ :: _ :: _ :: _ :: _ :: _ :: _ :: _ :: _ :: _ :: _ :: _ :: _ :: _ :: _ :: _ :: _ :: _ :: _ :: _ :: _ :: _ :: _ :: _ :: _ :: _ :: _ :: _ :: _ :: _ :: _ :: _ :: _ :: _ :: _ :: []), defers := [] } _
        refine wpAnyH_take (i := 3) (v := .agg #[.float .f64 u0, .float .f64 u1]) rfl (by kernel_rfl) (by kernel_rfl) (by kernel_rfl) (fun _ _ _ h => h) (Or.inl ⟨by kernel_rfl, fun w hS => by (obtain ⟨hS0, hS1, hS2, hS3⟩ := hS; go_simp)⟩) hHeld ?_
        change wpAnyH _ _ _ _ _ _ _ { tmps := List.toArray (_ :: _ :: _ :: _ :: _ :: _ :: _ :: .slice (some ⟨ub, uo, none⟩) n uc :: _ :: _ :: .int .i64 (j : Int) :: .int .i64 (k : Int) :: _ :: _ :: _ :: _ :: _ :: _ :: _ :: _ :: _ :: _ :: _ :: _ :: _ :: _ :: _ :: _ :: _ :: _ :: _ :: _ :: _ :: _ :: _ :: _ :: _ :: _ :: _ :: _ :: _ :: _ :: _ :: _ :: _ :: _ :: _ :: _ :: _ :: _ :: _ :: _ :: _ :: _ :: _ :: _ :: _ :: _ :: _ :: _ :: _ :: _ :: _ :: _ :: _ :: _ :: _ :: _ :: _ :: _ :: _ :: _ :: _ :: _ :: _ :: _ :: _ :: _ :: _ :: _ :: _ :: _ :: _ :: _ :: _ :: _ :: _ :: _ :: _ :: _ :: _ :: _ :: _ :: _ :: _ :: _ :: _ :: _ :: _ :: _ :: _ :: _ :: _ :: _ :: _ :: _ :: _ :: _ :: _ :: _ :: _ :: _ :: _ :: _ :: _ :: _ :: _ :: _ :: _ :: _ :: _ :: _ :: _ :: _ :: _ :: _ :: _ :: _ :: _ :: _ :: _ :: _ :: _ :: _ :: _ :: _ :: _ :: _ :: _ :: _ :: _ :: _ :: _ :: _ :: _ :: _ :: _ :: _ :: _ :: .slice (some ⟨ub, uo, none⟩) n uc :: .int .i64 (k : Int) :: .pointer (some ⟨ub, uo + k * 2, none⟩) :: .agg #[.float .f64 u0, .float .f64 u1] :: _ :: _ :: _ :: _ :: _ :: _ :: _ :: _ :: _ :: _ :: _ :: _ :: _ :: _ :: _ :: _ :: _ :: _ :: _ :: _ :: _ :: _ :: _ :: _ :: _ :: _ :: _ :: _ :: _ :: _ :: _ :: _ :: _ :: _ :: _ :: _ :: _ :: _ :: _ :: _ :: _ :: _ :: _ :: _ :: _ :: _ :: _ :: _ :: _ :: _ :: _ :: _ :: _ :: _ :: _ :: _ :: _ :: _ :: _ :: _ :: _ :: _ :: _ :: _ :: _ :: _ :: _ :: _ :: _ :: _ :: _ :: _ :: _ :: _ :: []), defers := [] } _
        refine wpAnyH_take (i := 5) (v := .slice (some ⟨ub, uo, none⟩) n uc) rfl (by kernel_rfl) (by kernel_rfl) (by kernel_rfl) (fun _ _ _ h => h) (Or.inl ⟨by kernel_rfl, fun w hS => by go_simp⟩) hHeld ?_
        change wpAnyH _ _ _ _ _ _ _ { tmps := List.toArray (_ :: _ :: _ :: _ :: _ :: _ :: _ :: .slice (some ⟨ub, uo, none⟩) n uc :: _ :: _ :: .int .i64 (j : Int) :: .int .i64 (k : Int) :: _ :: _ :: _ :: _ :: _ :: _ :: _ :: _ :: _ :: _ :: _ :: _ :: _ :: _ :: _ :: _ :: _ :: _ :: _ :: _ :: _ :: _ :: _ :: _ :: _ :: _ :: _ :: _ :: _ :: _ :: _ :: _ :: _ :: _ :: _ :: _ :: _ :: _ :: _ :: _ :: _ :: _ :: _ :: _ :: _ :: _ :: _ :: _ :: _ :: _ :: _ :: _ :: _ :: _ :: _ :: _ :: _ :: _ :: _ :: _ :: _ :: _ :: _ :: _ :: _ :: _ :: _ :: _ :: _ :: _ :: _ :: _ :: _ :: _ :: _ :: _ :: _ :: _ :: _ :: _ :: _ :: _ :: _ :: _ :: _ :: _ :: _ :: _ :: _ :: _ :: _ :: _ :: _ :: _ :: _ :: _ :: _ :: _ :: _ :: _ :: _ :: _ :: _ :: _ :: _ :: _ :: _ :: _ :: _ :: _ :: _ :: _ :: _ :: _ :: _ :: _ :: _ :: _ :: _ :: _ :: _ :: _ :: _ :: _ :: _ :: _ :: _ :: _ :: _ :: _ :: _ :: _ :: _ :: _ :: _ :: _ :: _ :: .slice (some ⟨ub, uo, none⟩) n uc :: .int .i64 (k : Int) :: .pointer (some ⟨ub, uo + k * 2, none⟩) :: .agg #[.float .f64 u0, .float .f64 u1] :: _ :: .slice (some ⟨ub, uo, none⟩) n uc :: _ :: _ :: _ :: _ :: _ :: _ :: _ :: _ :: _ :: _ :: _ :: _ :: _ :: _ :: _ :: _ :: _ :: _ :: _ :: _ :: _ :: _ :: _ :: _ :: _ :: _ :: _ :: _ :: _ :: _ :: _ :: _ :: _ :: _ :: _ :: _ :: _ :: _ :: _ :: _ :: _ :: _ :: _ :: _ :: _ :: _ :: _ :: _ :: _ :: _ :: _ :: _ :: _ :: _ :: _ :: _ :: _ :: _ :: _ :: _ :: _ :: _ :: _ :: _ :: _ :: _ :: _ :: _ :: _ :: _ :: _ :: _ :: []), defers := [] } _
        refine wpAnyH_take (i := 6) (v := .int .i64 (j : Int)) rfl (by kernel_rfl) (by kernel_rfl) (by kernel_rfl) (fun _ _ _ h => h) (Or.inl ⟨by kernel_rfl, fun w hS => by go_simp⟩) hHeld ?_
        change wpAnyH _ _ _ _ _ _ _ { tmps := List.toArray (_ :: _ :: _ :: _ :: _ :: _ :: _ :: .slice (some ⟨ub, uo, none⟩) n uc :: _ :: _ :: .int .i64 (j : Int) :: .int .i64 (k : Int) :: _ :: _ :: _ :: _ :: _ :: _ :: _ :: _ :: _ :: _ :: _ :: _ :: _ :: _ :: _ :: _ :: _ :: _ :: _ :: _ :: _ :: _ :: _ :: _ :: _ :: _ :: _ :: _ :: _ :: _ :: _ :: _ :: _ :: _ :: _ :: _ :: _ :: _ :: _ :: _ :: _ :: _ :: _ :: _ :: _ :: _ :: _ :: _ :: _ :: _ :: _ :: _ :: _ :: _ :: _ :: _ :: _ :: _ :: _ :: _ :: _ :: _ :: _ :: _ :: _ :: _ :: _ :: _ :: _ :: _ :: _ :: _ :: _ :: _ :: _ :: _ :: _ :: _ :: _ :: _ :: _ :: _ :: _ :: _ :: _ :: _ :: _ :: _ :: _ :: _ :: _ :: _ :: _ :: _ :: _ :: _ :: _ :: _ :: _ :: _ :: _ :: _ :: _ :: _ :: _ :: _ :: _ :: _ :: _ :: _ :: _ :: _ :: _ :: _ :: _ :: _ :: _ :: _ :: _ :: _ :: _ :: _ :: _ :: _ :: _ :: _ :: _ :: _ :: _ :: _ :: _ :: _ :: _ :: _ :: _ :: _ :: _ :: .slice (some ⟨ub, uo, none⟩) n uc :: .int .i64 (k : Int) :: .pointer (some ⟨ub, uo + k * 2, none⟩) :: .agg #[.float .f64 u0, .float .f64 u1] :: _ :: .slice (some ⟨ub, uo, none⟩) n uc :: .int .i64 (j : Int) :: _ :: _ :: _ :: _ :: _ :: _ :: _ :: _ :: _ :: _ :: _ :: _ :: _ :: _ :: _ :: _ :: _ :: _ :: _ :: _ :: _ :: _ :: _ :: _ :: _ :: _ :: _ :: _ :: _ :: _ :: _ :: _ :: _ :: _ :: _ :: _ :: _ :: _ :: _ :: _ :: _ :: _ :: _ :: _ :: _ :: _ :: _ :: _ :: _ :: _ :: _ :: _ :: _ :: _ :: _ :: _ :: _ :: _ :: _ :: _ :: _ :: _ :: _ :: _ :: _ :: _ :: _ :: _ :: _ :: _ :: _ :: []), defers := [] } _
        refine wpAnyH_take (i := 7) (v := .pointer (some ⟨ub, uo + j * 2, none⟩)) rfl (by kernel_rfl) (by kernel_rfl) (by kernel_rfl) (fun _ _ _ h => h) (Or.inl ⟨by kernel_rfl, fun w hS => by go_simp⟩) hHeld ?_
        change wpAnyH _ _ _ _ _ _ _ { tmps := List.toArray (_ :: _ :: _ :: _ :: _ :: _ :: _ :: .slice (some ⟨ub, uo, none⟩) n uc :: _ :: _ :: .int .i64 (j : Int) :: .int .i64 (k : Int) :: _ :: _ :: _ :: _ :: _ :: _ :: _ :: _ :: _ :: _ :: _ :: _ :: _ :: _ :: _ :: _ :: _ :: _ :: _ :: _ :: _ :: _ :: _ :: _ :: _ :: _ :: _ :: _ :: _ :: _ :: _ :: _ :: _ :: _ :: _ :: _ :: _ :: _ :: _ :: _ :: _ :: _ :: _ :: _ :: _ :: _ :: _ :: _ :: _ :: _ :: _ :: _ :: _ :: _ :: _ :: _ :: _ :: _ :: _ :: _ :: _ :: _ :: _ :: _ :: _ :: _ :: _ :: _ :: _ :: _ :: _ :: _ :: _ :: _ :: _ :: _ :: _ :: _ :: _ :: _ :: _ :: _ :: _ :: _ :: _ :: _ :: _ :: _ :: _ :: _ :: _ :: _ :: _ :: _ :: _ :: _ :: _ :: _ :: _ :: _ :: _ :: _ :: _ :: _ :: _ :: _ :: _ :: _ :: _ :: _ :: _ :: _ :: _ :: _ :: _ :: _ :: _ :: _ :: _ :: _ :: _ :: _ :: _ :: _ :: _ :: _ :: _ :: _ :: _ :: _ :: _ :: _ :: _ :: _ :: _ :: _ :: _ :: .slice (some ⟨ub, uo, none⟩) n uc :: .int .i64 (k : Int) :: .pointer (some ⟨ub, uo + k * 2, none⟩) :: .agg #[.float .f64 u0, .float .f64 u1] :: _ :: .slice (some ⟨ub, uo, none⟩) n uc :: .int .i64 (j : Int) :: .pointer (some ⟨ub, uo + j * 2, none⟩) :: _ :: _ :: _ :: _ :: _ :: _ :: _ :: _ :: _ :: _ :: _ :: _ :: _ :: _ :: _ :: _ :: _ :: _ :: _ :: _ :: _ :: _ :: _ :: _ :: _ :: _ :: _ :: _ :: _ :: _ :: _ :: _ :: _ :: _ :: _ :: _ :: _ :: _ :: _ :: _ :: _ :: _ :: _ :: _ :: _ :: _ :: _ :: _ :: _ :: _ :: _ :: _ :: _ :: _ :: _ :: _ :: _ :: _ :: _ :: _ :: _ :: _ :: _ :: _ :: _ :: _ :: _ :: _ :: _ :: _ :: []), defers := [] } _
        refine wpAnyH_take (i := 8) (v := .agg #[.float .f64 j0, .float .f64 j1]) rfl (by kernel_rfl) (by kernel_rfl) (by kernel_rfl) (fun _ _ _ h => h) (Or.inl ⟨by kernel_rfl, fun w hS => by (obtain ⟨hS0, hS1, hS2, hS3⟩ := hS; go_simp)⟩) hHeld ?_
        change wpAnyH _ _ _ _ _ _ _ { tmps := List.toArray (_ :: _ :: _ :: _ :: _ :: _ :: _ :: .slice (some ⟨ub, uo, none⟩) n uc :: _ :: _ :: .int .i64 (j : Int) :: .int .i64 (k : Int) :: _ :: _ :: _ :: _ :: _ :: _ :: _ :: _ :: _ :: _ :: _ :: _ :: _ :: _ :: _ :: _ :: _ :: _ :: _ :: _ :: _ :: _ :: _ :: _ :: _ :: _ :: _ :: _ :: _ :: _ :: _ :: _ :: _ :: _ :: _ :: _ :: _ :: _ :: _ :: _ :: _ :: _ :: _ :: _ :: _ :: _ :: _ :: _ :: _ :: _ :: _ :: _ :: _ :: _ :: _ :: _ :: _ :: _ :: _ :: _ :: _ :: _ :: _ :: _ :: _ :: _ :: _ :: _ :: _ :: _ :: _ :: _ :: _ :: _ :: _ :: _ :: _ :: _ :: _ :: _ :: _ :: _ :: _ :: _ :: _ :: _ :: _ :: _ :: _ :: _ :: _ :: _ :: _ :: _ :: _ :: _ :: _ :: _ :: _ :: _ :: _ :: _ :: _ :: _ :: _ :: _ :: _ :: _ :: _ :: _ :: _ :: _ :: _ :: _ :: _ :: _ :: _ :: _ :: _ :: _ :: _ :: _ :: _ :: _ :: _ :: _ :: _ :: _ :: _ :: _ :: _ :: _ :: _ :: _ :: _ :: _ :: _ :: .slice (some ⟨ub, uo, none⟩) n uc :: .int .i64 (k : Int) :: .pointer (some ⟨ub, uo + k * 2, none⟩) :: .agg #[.float .f64 u0, .float .f64 u1] :: _ :: .slice (some ⟨ub, uo, none⟩) n uc :: .int .i64 (j : Int) :: .pointer (some ⟨ub, uo + j * 2, none⟩) :: .agg #[.float .f64 j0, .float .f64 j1] :: _ :: _ :: _ :: _ :: _ :: _ :: _ :: _ :: _ :: _ :: _ :: _ :: _ :: _ :: _ :: _ :: _ :: _ :: _ :: _ :: _ :: _ :: _ :: _ :: _ :: _ :: _ :: _ :: _ :: _ :: _ :: _ :: _ :: _ :: _ :: _ :: _ :: _ :: _ :: _ :: _ :: _ :: _ :: _ :: _ :: _ :: _ :: _ :: _ :: _ :: _ :: _ :: _ :: _ :: _ :: _ :: _ :: _ :: _ :: _ :: _ :: _ :: _ :: _ :: _ :: _ :: _ :: _ :: _ :: []), defers := [] } _
        refine wpAnyH_ready (rs := [4]) (by kernel_rfl) (by simp) ?_
        refine (AllReadyH.cons rfl (fun KK hK => ?_) AllReadyH.nil)
        go_simp
        refine (cZSizeI2 u0 u1 _).mono ?_
        rintro e x1 ⟨s1, rfl, h1, hb8⟩
        have E1 := btrans B0d hb8
        clear hb8
        go_wp2_with fail
        clear hHeld
        refine hK.out _ _ (⟨ble E1 r0, ble E1 r1, ble E1 t0, ble E1 t1⟩) (fun hHeld => ?_)
        clear hK KK
        change wpAnyH _ _ _ _ _ _ _ { tmps := List.toArray (_ :: _ :: _ :: _ :: _ :: _ :: _ :: .slice (some ⟨ub, uo, none⟩) n uc :: _ :: _ :: .int .i64 (j : Int) :: .int .i64 (k : Int) :: _ :: _ :: _ :: _ :: _ :: _ :: _ :: _ :: _ :: _ :: _ :: _ :: _ :: _ :: _ :: _ :: _ :: _ :: _ :: _ :: _ :: _ :: _ :: _ :: _ :: _ :: _ :: _ :: _ :: _ :: _ :: _ :: _ :: _ :: _ :: _ :: _ :: _ :: _ :: _ :: _ :: _ :: _ :: _ :: _ :: _ :: _ :: _ :: _ :: _ :: _ :: _ :: _ :: _ :: _ :: _ :: _ :: _ :: _ :: _ :: _ :: _ :: _ :: _ :: _ :: _ :: _ :: _ :: _ :: _ :: _ :: _ :: _ :: _ :: _ :: _ :: _ :: _ :: _ :: _ :: _ :: _ :: _ :: _ :: _ :: _ :: _ :: _ :: _ :: _ :: _ :: _ :: _ :: _ :: _ :: _ :: _ :: _ :: _ :: _ :: _ :: _ :: _ :: _ :: _ :: _ :: _ :: _ :: _ :: _ :: _ :: _ :: _ :: _ :: _ :: _ :: _ :: _ :: _ :: _ :: _ :: _ :: _ :: _ :: _ :: _ :: _ :: _ :: _ :: _ :: _ :: _ :: _ :: _ :: _ :: _ :: _ :: .slice (some ⟨ub, uo, none⟩) n uc :: .int .i64 (k : Int) :: .pointer (some ⟨ub, uo + k * 2, none⟩) :: .agg #[.float .f64 u0, .float .f64 u1] :: .float .f64 s1 :: .slice (some ⟨ub, uo, none⟩) n uc :: .int .i64 (j : Int) :: .pointer (some ⟨ub, uo + j * 2, none⟩) :: .agg #[.float .f64 j0, .float .f64 j1] :: _ :: _ :: _ :: _ :: _ :: _ :: _ :: _ :: _ :: _ :: _ :: _ :: _ :: _ :: _ :: _ :: _ :: _ :: _ :: _ :: _ :: _ :: _ :: _ :: _ :: _ :: _ :: _ :: _ :: _ :: _ :: _ :: _ :: _ :: _ :: _ :: _ :: _ :: _ :: _ :: _ :: _ :: _ :: _ :: _ :: _ :: _ :: _ :: _ :: _ :: _ :: _ :: _ :: _ :: _ :: _ :: _ :: _ :: _ :: _ :: _ :: _ :: _ :: _ :: _ :: _ :: _ :: _ :: _ :: []), defers := [] } _
        refine wpAnyH_ready (rs := [9]) (by kernel_rfl) (by simp) ?_
        refine (AllReadyH.cons rfl (fun KK hK => ?_) AllReadyH.nil)
        go_simp
        refine (cZSizeI2 j0 j1 _).mono ?_
        rintro e x2 ⟨s2, rfl, h2, hb8⟩
        have E2 := btrans E1 hb8
        clear hb8
        have hL : (FloatKind.f64.format.order s1 s2 == some .lt) = L := by rw [order_cl, h1, h2]; exact hL0.out
        go_wp2_with fail
        clear hHeld
        refine hK.out _ _ (⟨ble E2 r0, ble E2 r1, ble E2 t0, ble E2 t1⟩) (fun hHeld => ?_)
        clear hK KK
        change wpAnyH _ _ _ _ _ _ _ { tmps := List.toArray (_ :: _ :: _ :: _ :: _ :: _ :: _ :: .slice (some ⟨ub, uo, none⟩) n uc :: _ :: _ :: .int .i64 (j : Int) :: .int .i64 (k : Int) :: _ :: _ :: _ :: _ :: _ :: _ :: _ :: _ :: _ :: _ :: _ :: _ :: _ :: _ :: _ :: _ :: _ :: _ :: _ :: _ :: _ :: _ :: _ :: _ :: _ :: _ :: _ :: _ :: _ :: _ :: _ :: _ :: _ :: _ :: _ :: _ :: _ :: _ :: _ :: _ :: _ :: _ :: _ :: _ :: _ :: _ :: _ :: _ :: _ :: _ :: _ :: _ :: _ :: _ :: _ :: _ :: _ :: _ :: _ :: _ :: _ :: _ :: _ :: _ :: _ :: _ :: _ :: _ :: _ :: _ :: _ :: _ :: _ :: _ :: _ :: _ :: _ :: _ :: _ :: _ :: _ :: _ :: _ :: _ :: _ :: _ :: _ :: _ :: _ :: _ :: _ :: _ :: _ :: _ :: _ :: _ :: _ :: _ :: _ :: _ :: _ :: _ :: _ :: _ :: _ :: _ :: _ :: _ :: _ :: _ :: _ :: _ :: _ :: _ :: _ :: _ :: _ :: _ :: _ :: _ :: _ :: _ :: _ :: _ :: _ :: _ :: _ :: _ :: _ :: _ :: _ :: _ :: _ :: _ :: _ :: _ :: _ :: .slice (some ⟨ub, uo, none⟩) n uc :: .int .i64 (k : Int) :: .pointer (some ⟨ub, uo + k * 2, none⟩) :: .agg #[.float .f64 u0, .float .f64 u1] :: .float .f64 s1 :: .slice (some ⟨ub, uo, none⟩) n uc :: .int .i64 (j : Int) :: .pointer (some ⟨ub, uo + j * 2, none⟩) :: .agg #[.float .f64 j0, .float .f64 j1] :: .float .f64 s2 :: _ :: _ :: _ :: _ :: _ :: _ :: _ :: _ :: _ :: _ :: _ :: _ :: _ :: _ :: _ :: _ :: _ :: _ :: _ :: _ :: _ :: _ :: _ :: _ :: _ :: _ :: _ :: _ :: _ :: _ :: _ :: _ :: _ :: _ :: _ :: _ :: _ :: _ :: _ :: _ :: _ :: _ :: _ :: _ :: _ :: _ :: _ :: _ :: _ :: _ :: _ :: _ :: _ :: _ :: _ :: _ :: _ :: _ :: _ :: _ :: _ :: _ :: _ :: _ :: _ :: _ :: _ :: _ :: []), defers := [] } _
        refine wpAnyH_take (i := 10) (v := .bool L) rfl (by kernel_rfl) (by kernel_rfl) (by kernel_rfl) (fun _ _ _ h => h) (Or.inl ⟨by kernel_rfl, fun w hS => by go_simp⟩) hHeld ?_
        change wpAnyH _ _ _ _ _ _ _ { tmps := List.toArray (_ :: _ :: _ :: _ :: _ :: _ :: _ :: .slice (some ⟨ub, uo, none⟩) n uc :: _ :: _ :: .int .i64 (j : Int) :: .int .i64 (k : Int) :: _ :: _ :: _ :: _ :: _ :: _ :: _ :: _ :: _ :: _ :: _ :: _ :: _ :: _ :: _ :: _ :: _ :: _ :: _ :: _ :: _ :: _ :: _ :: _ :: _ :: _ :: _ :: _ :: _ :: _ :: _ :: _ :: _ :: _ :: _ :: _ :: _ :: _ :: _ :: _ :: _ :: _ :: _ :: _ :: _ :: _ :: _ :: _ :: _ :: _ :: _ :: _ :: _ :: _ :: _ :: _ :: _ :: _ :: _ :: _ :: _ :: _ :: _ :: _ :: _ :: _ :: _ :: _ :: _ :: _ :: _ :: _ :: _ :: _ :: _ :: _ :: _ :: _ :: _ :: _ :: _ :: _ :: _ :: _ :: _ :: _ :: _ :: _ :: _ :: _ :: _ :: _ :: _ :: _ :: _ :: _ :: _ :: _ :: _ :: _ :: _ :: _ :: _ :: _ :: _ :: _ :: _ :: _ :: _ :: _ :: _ :: _ :: _ :: _ :: _ :: _ :: _ :: _ :: _ :: _ :: _ :: _ :: _ :: _ :: _ :: _ :: _ :: _ :: _ :: _ :: _ :: _ :: _ :: _ :: _ :: _ :: _ :: .slice (some ⟨ub, uo, none⟩) n uc :: .int .i64 (k : Int) :: .pointer (some ⟨ub, uo + k * 2, none⟩) :: .agg #[.float .f64 u0, .float .f64 u1] :: .float .f64 s1 :: .slice (some ⟨ub, uo, none⟩) n uc :: .int .i64 (j : Int) :: .pointer (some ⟨ub, uo + j * 2, none⟩) :: .agg #[.float .f64 j0, .float .f64 j1] :: .float .f64 s2 :: .bool L :: _ :: _ :: _ :: _ :: _ :: _ :: _ :: _ :: _ :: _ :: _ :: _ :: _ :: _ :: _ :: _ :: _ :: _ :: _ :: _ :: _ :: _ :: _ :: _ :: _ :: _ :: _ :: _ :: _ :: _ :: _ :: _ :: _ :: _ :: _ :: _ :: _ :: _ :: _ :: _ :: _ :: _ :: _ :: _ :: _ :: _ :: _ :: _ :: _ :: _ :: _ :: _ :: _ :: _ :: _ :: _ :: _ :: _ :: _ :: _ :: _ :: _ :: _ :: _ :: _ :: _ :: _ :: []), defers := [] } _
        refine wpAnyH_done (by kernel_rfl) ?_ _
        have HB6 := btrans hb E2
        have KZ6 : Bz _ w5.heap.size ⟨z0, z1⟩ := keepB E2 KZ
        replace r0 := ble E2 r0
        replace r1 := ble E2 r1
        clear E1 E2 B0d hb KZ t0 t1 hL h1 h2 hL0
        obtain ⟨⟨c0, c1⟩, f0, f1⟩ := twoC KZ6
        have KN := KZ6.set (y := ⟨u0, u1⟩) (Below.refl _ _)
        have HBn := below_set (b := w5.heap.size) (o := 1) (v := .float .f64 u1) (Nat.le_refl _) (below_set (b := w5.heap.size) (o := 0) (v := .float .f64 u0) (Nat.le_refl _) HB6)
        dsimp only at KN
        have hk' := HK'.out
        clear HK' e1
        subst hk'
        cases L
        · go_wp2
          go_roundw
          case rel => exact ⟨k + 1, j, ⟨u0, u1⟩, by omega, by go_num, rfl, hLn.out, KN, huk.out, HBn⟩
          case measure => simp [intOf]; omega
        · go_wp2
          go_roundw
          case rel => exact ⟨k + 1, k, ⟨u0, u1⟩, by omega, by go_num, rfl, hLn.out, KN, huk.out, HBn⟩
          case measure => simp [intOf]; omega
      · have g1 : ¬ (k' : Int) < (n : Int) := by omega
        generalize w6 = wt at *
        have HK' := hide hk'
        clear hk'
        obtain ⟨r0, r1⟩ := HQU.out k hku
        obtain ⟨t0, t1⟩ := HQU.out j hju
        replace r0 := ble hb r0
        replace r1 := ble hb r1
        replace t0 := ble hb t0
        replace t1 := ble hb t1
        rw [hUK.out] at r0 r1
        dsimp only at r0 r1
        generalize us.getD j ZV.zero = uj at *
        obtain ⟨j0, j1⟩ := uj
        dsimp only at t0 t1
        obtain ⟨L, hL0⟩ : ∃ L, Hid (ltZ (zsize (ZV.c ⟨u0, u1⟩)) (zsize (ZV.c ⟨j0, j1⟩)) = L) := ⟨_, hide rfl⟩
        have hLn := hide (hLw.step (hss.out) L (by unfold szAt; rw [hgu.out, hgj.out]; exact hL0.out))
        go_upto_region 21 with fail
        refine wp_region_held_drew (S := (fun w' => w'.cell? ⟨ub, uo + k * 2, none⟩ = some (.float .f64 u0) ∧ w'.cell? ⟨ub, uo + k * 2 + 1, none⟩ = some (.float .f64 u1) ∧ w'.cell? ⟨ub, uo + j * 2, none⟩ = some (.float .f64 j0) ∧ w'.cell? ⟨ub, uo + j * 2 + 1, none⟩ = some (.float .f64 j1))) (by kernel_rfl) ?_ (fun hHeld => ?_)
        · go_keep
        have B0d : Below wt.heap.size wt wt.drew := (Below.refl _ _).drew
        generalize wt.drew = wd at *
        refine wpAnyH_take (i := 0) (v := .slice (some ⟨ub, uo, none⟩) n uc) rfl (by kernel_rfl) (by kernel_rfl) (by kernel_rfl) (fun _ _ _ h => h) (Or.inl ⟨by kernel_rfl, fun w hS => by go_simp⟩) hHeld ?_
        change wpAnyH _ _ _ _ _ _ _ { tmps := List.toArray (_ :: _ :: _ :: _ :: _ :: _ :: _ :: .slice (some ⟨ub, uo, none⟩) n uc :: _ :: _ :: .int .i64 (j : Int) :: .int .i64 (k : Int) :: _ :: _ :: _ :: _ :: _ :: _ :: _ :: _ :: _ :: _ :: _ :: _ :: _ :: _ :: _ :: _ :: _ :: _ :: _ :: _ :: _ :: _ :: _ :: _ :: _ :: _ :: _ :: _ :: _ :: _ :: _ :: _ :: _ :: _ :: _ :: _ :: _ :: _ :: _ :: _ :: _ :: _ :: _ :: _ :: _ :: _ :: _ :: _ :: _ :: _ :: _ :: _ :: _ :: _ :: _ :: _ :: _ :: _ :: _ :: _ :: _ :: _ :: _ :: _ :: _ :: _ :: _ :: _ :: _ :: _ :: _ :: _ :: _ :: _ :: _ :: _ :: _ :: _ :: _ :: _ :: _ :: _ :: _ :: _ :: _ :: _ :: _ :: _ :: _ :: _ :: _ :: _ :: _ :: _ :: _ :: _ :: _ :: _ :: _ :: _ :: _ :: _ :: _ :: _ :: _ :: _ :: _ :: _ :: _ :: _ :: _ :: _ :: _ :: _ :: _ :: _ :: _ :: _ :: _ :: _ :: _ :: _ :: _ :: _ :: _ :: _ :: _ :: _ :: _ :: _ :: _ :: _ :: _ :: _ :: _ :: _ :: _ :: .slice (some ⟨ub, uo, none⟩) n uc :: _ :: _ :: _ :: _ :: _ :: _ :: _ :: _ :: _ :: _ :: _ :: _ :: _ :: _ :: _ :: _ :: _ :: _ :: _ :: _ :: _ :: _ :: _ :: _ :: _ :: _ :: _ :: _ :: _ :: _ :: _ :: _ :: _ :: _ :: _ :: _ :: _ :: _ :: _ :: _ :: _ :: _ :: _ :: _ :: _ :: _ :: _ :: _ :: _ :: _ :: _ :: _ :: _ :: _ :: _ :: _ :: _ :: _ :: _ :: _ :: _ :: _ :: _ :: _ :: _ :: _ :: _ :: _ :: _ :: _ :: _ :: _ :: _ :: _ :: _ :: _ :: _ :: []), defers := [] } _
        refine wpAnyH_take (i := 1) (v := .int .i64 (k : Int)) rfl (by kernel_rfl) (by kernel_rfl) (by kernel_rfl) (fun _ _ _ h => h) (Or.inl ⟨by kernel_rfl, fun w hS => by go_simp⟩) hHeld ?_
        change wpAnyH _ _ _ _ _ _ _ { tmps := List.toArray (_ :: _ :: _ :: _ :: _ :: _ :: _ :: .slice (some ⟨ub, uo, none⟩) n uc :: _ :: _ :: .int .i64 (j : Int) :: .int .i64 (k : Int) :: _ :: _ :: _ :: _ :: _ :: _ :: _ :: _ :: _ :: _ :: _ :: _ :: _ :: _ :: _ :: _ :: _ :: _ :: _ :: _ :: _ :: _ :: _ :: _ :: _ :: _ :: _ :: _ :: _ :: _ :: _ :: _ :: _ :: _ :: _ :: _ :: _ :: _ :: _ :: _ :: _ :: _ :: _ :: _ :: _ :: _ :: _ :: _ :: _ :: _ :: _ :: _ :: _ :: _ :: _ :: _ :: _ :: _ :: _ :: _ :: _ :: _ :: _ :: _ :: _ :: _ :: _ :: _ :: _ :: _ :: _ :: _ :: _ :: _ :: _ :: _ :: _ :: _ :: _ :: _ :: _ :: _ :: _ :: _ :: _ :: _ :: _ :: _ :: _ :: _ :: _ :: _ :: _ :: _ :: _ :: _ :: _ :: _ :: _ :: _ :: _ :: _ :: _ :: _ :: _ :: _ :: _ :: _ :: _ :: _ :: _ :: _ :: _ :: _ :: _ :: _ :: _ :: _ :: _ :: _ :: _ :: _ :: _ :: _ :: _ :: _ :: _ :: _ :: _ :: _ :: _ :: _ :: _ :: _ :: _ :: _ :: _ :: .slice (some ⟨ub, uo, none⟩) n uc :: .int .i64 (k : Int) :: _ :: _ :: _ :: _ :: _ :: _ :: _ :: _ :: _ :: _ :: _ :: _ :: _ :: _ :: _ :: _ :: _ :: _ :: _ :: _ :: _ :: _ :: _ :: _ :: _ :: _ :: _ :: _ :: _ :: _ :: _ :: _ :: _ :: _ :: _ :: _ :: _ :: _ :: _ :: _ :: _ :: _ :: _ :: _ :: _ :: _ :: _ :: _ :: _ :: _ :: _ :: _ :: _ :: _ :: _ :: _ :: _ :: _ :: _ :: _ :: _ :: _ :: _ :: _ :: _ :: _ :: _ :: _ :: _ :: _ :: _ :: _ :: _ :: _ :: _ :: _ :: []), defers := [] } _
        refine wpAnyH_take (i := 2) (v := .pointer (some ⟨ub, uo + k * 2, none⟩)) rfl (by kernel_rfl) (by kernel_rfl) (by kernel_rfl) (fun _ _ _ h => h) (Or.inl ⟨by kernel_rfl, fun w hS => by go_simp⟩) hHeld ?_
        change wpAnyH _ _ _ _ _ _ _ { tmps := List.toArray (_ :: _ :: _ :: _ :: _ :: _ :: _ :: .slice (some ⟨ub, uo, none⟩) n uc :: _ :: _ :: .int .i64 (j : Int) :: .int .i64 (k : Int) :: _ :: _ :: _ :: _ :: _ :: _ :: _ :: _ :: _ :: _ :: _ :: _ :: _ :: _ :: _ :: _ :: _ :: _ :: _ :: _ :: _ :: _ :: _ :: _ :: _ :: _ :: _ :: _ :: _ :: _ :: _ :: _ :: _ :: _ :: _ :: _ :: _ :: _ :: _ :: _ :: _ :: _ :: _ :: _ :: _ :: _ :: _ :: _ :: _ :: _ :: _ :: _ :: _ :: _ :: _ :: _ :: _ :: _ :: _ :: _ :: _ :: _ :: _ :: _ :: _ :: _ :: _ :: _ :: _ :: _ :: _ :: _ :: _ :: _ :: _ :: _ :: _ :: _ :: _ :: _ :: _ :: _ :: _ :: _ :: _ :: _ :: _ :: _ :: _ :: _ :: _ :: _ :: _ :: _ :: _ :: _ :: _ :: _ :: _ :: _ :: _ :: _ :: _ :: _ :: _ :: _ :: _ :: _ :: _ :: _ :: _ :: _ :: _ :: _ :: _ :: _ :: _ :: _ :: _ :: _ :: _ :: _ :: _ :: _ :: _ :: _ :: _ :: _ :: _ :: _ :: _ :: _ :: _ :: _ :: _ :: _ :: _ :: .slice (some ⟨ub, uo, none⟩) n uc :: .int .i64 (k : Int) :: .pointer (some ⟨ub, uo + k * 2, none⟩) :: _ :: _ :: _ :: _ :: _ :: _ :: _ :: _ :: _ :: _ :: _ :: _ :: _ :: _ :: _ :: _ :: _ :: _ :: _ :: _ :: _ :: _ :: _ :: _ :: _ :: _ :: _ :: _ :: _ :: _ :: _ :: _ :: _ :: _ :: _ :: _ :: _ :: _ :: _ :: _ :: _ :: _ :: _ :: _ :: _ :: _ :: _ :: _ :: _ :: _ :: _ :: _ :: _ :: _ :: _ :: _ :: _ :: _ :: _ :: _ :: _ :: _ :: _ :: _ :: _ :: _ :: _ :: _ :: _ :: _ :: _ :: _ :: _ :: _ :: _ :: []), defers := [] } _
        refine wpAnyH_take (i := 3) (v := .agg #[.float .f64 u0, .float .f64 u1]) rfl (by kernel_rfl) (by kernel_rfl) (by kernel_rfl) (fun _ _ _ h => h) (Or.inl ⟨by kernel_rfl, fun w hS => by (obtain ⟨hS0, hS1, hS2, hS3⟩ := hS; go_simp)⟩) hHeld ?_
        change wpAnyH _ _ _ _ _ _ _ { tmps := List.toArray (_ :: _ :: _ :: _ :: _ :: _ :: _ :: .slice (some ⟨ub, uo, none⟩) n uc :: _ :: _ :: .int .i64 (j : Int) :: .int .i64 (k : Int) :: _ :: _ :: _ :: _ :: _ :: _ :: _ :: _ :: _ :: _ :: _ :: _ :: _ :: _ :: _ :: _ :: _ :: _ :: _ :: _ :: _ :: _ :: _ :: _ :: _ :: _ :: _ :: _ :: _ :: _ :: _ :: _ :: _ :: _ :: _ :: _ :: _ :: _ :: _ :: _ :: _ :: _ :: _ :: _ :: _ :: _ :: _ :: _ :: _ :: _ :: _ :: _ :: _ :: _ :: _ :: _ :: _ :: _ :: _ :: _ :: _ :: _ :: _ :: _ :: _ :: _ :: _ :: _ :: _ :: _ :: _ :: _ :: _ :: _ :: _ :: _ :: _ :: _ :: _ :: _ :: _ :: _ :: _ :: _ :: _ :: _ :: _ :: _ :: _ :: _ :: _ :: _ :: _ :: _ :: _ :: _ :: _ :: _ :: _ :: _ :: _ :: _ :: _ :: _ :: _ :: _ :: _ :: _ :: _ :: _ :: _ :: _ :: _ :: _ :: _ :: _ :: _ :: _ :: _ :: _ :: _ :: _ :: _ :: _ :: _ :: _ :: _ :: _ :: _ :: _ :: _ :: _ :: _ :: _ :: _ :: _ :: _ :: .slice (some ⟨ub, uo, none⟩) n uc :: .int .i64 (k : Int) :: .pointer (some ⟨ub, uo + k * 2, none⟩) :: .agg #[.float .f64 u0, .float .f64 u1] :: _ :: _ :: _ :: _ :: _ :: _ :: _ :: _ :: _ :: _ :: _ :: _ :: _ :: _ :: _ :: _ :: _ :: _ :: _ :: _ :: _ :: _ :: _ :: _ :: _ :: _ :: _ :: _ :: _ :: _ :: _ :: _ :: _ :: _ :: _ :: _ :: _ :: _ :: _ :: _ :: _ :: _ :: _ :: _ :: _ :: _ :: _ :: _ :: _ :: _ :: _ :: _ :: _ :: _ :: _ :: _ :: _ :: _ :: _ :: _ :: _ :: _ :: _ :: _ :: _ :: _ :: _ :: _ :: _ :: _ :: _ :: _ :: _ :: _ :: []), defers := [] } _
        refine wpAnyH_take (i := 5) (v := .slice (some ⟨ub, uo, none⟩) n uc) rfl (by kernel_rfl) (by kernel_rfl) (by kernel_rfl) (fun _ _ _ h => h) (Or.inl ⟨by kernel_rfl, fun w hS => by go_simp⟩) hHeld ?_
        change wpAnyH _ _ _ _ _ _ _ { tmps := List.toArray (_ :: _ :: _ :: _ :: _ :: _ :: _ :: .slice (some ⟨ub, uo, none⟩) n uc :: _ :: _ :: .int .i64 (j : Int) :: .int .i64 (k : Int) :: _ :: _ :: _ :: _ :: _ :: _ :: _ :: _ :: _ :: _ :: _ :: _ :: _ :: _ :: _ :: _ :: _ :: _ :: _ :: _ :: _ :: _ :: _ :: _ :: _ :: _ :: _ :: _ :: _ :: _ :: _ :: _ :: _ :: _ :: _ :: _ :: _ :: _ :: _ :: _ :: _ :: _ :: _ :: _ :: _ :: _ :: _ :: _ :: _ :: _ :: _ :: _ :: _ :: _ :: _ :: _ :: _ :: _ :: _ :: _ :: _ :: _ :: _ :: _ :: _ :: _ :: _ :: _ :: _ :: _ :: _ :: _ :: _ :: _ :: _ :: _ :: _ :: _ :: _ :: _ :: _ :: _ :: _ :: _ :: _ :: _ :: _ :: _ :: _ :: _ :: _ :: _ :: _ :: _ :: _ :: _ :: _ :: _ :: _ :: _ :: _ :: _ :: _ :: _ :: _ :: _ :: _ :: _ :: _ :: _ :: _ :: _ :: _ :: _ :: _ :: _ :: _ :: _ :: _ :: _ :: _ :: _ :: _ :: _ :: _ :: _ :: _ :: _ :: _ :: _ :: _ :: _ :: _ :: _ :: _ :: _ :: _ :: .slice (some ⟨ub, uo, none⟩) n uc :: .int .i64 (k : Int) :: .pointer (some ⟨ub, uo + k * 2, none⟩) :: .agg #[.float .f64 u0, .float .f64 u1] :: _ :: .slice (some ⟨ub, uo, none⟩) n uc :: _ :: _ :: _ :: _ :: _ :: _ :: _ :: _ :: _ :: _ :: _ :: _ :: _ :: _ :: _ :: _ :: _ :: _ :: _ :: _ :: _ :: _ :: _ :: _ :: _ :: _ :: _ :: _ :: _ :: _ :: _ :: _ :: _ :: _ :: _ :: _ :: _ :: _ :: _ :: _ :: _ :: _ :: _ :: _ :: _ :: _ :: _ :: _ :: _ :: _ :: _ :: _ :: _ :: _ :: _ :: _ :: _ :: _ :: _ :: _ :: _ :: _ :: _ :: _ :: _ :: _ :: _ :: _ :: _ :: _ :: _ :: _ :: []), defers := [] } _
        refine wpAnyH_take (i := 6) (v := .int .i64 (j : Int)) rfl (by kernel_rfl) (by kernel_rfl) (by kernel_rfl) (fun _ _ _ h => h) (Or.inl ⟨by kernel_rfl, fun w hS => by go_simp⟩) hHeld ?_
        change wpAnyH _ _ _ _ _ _ _ { tmps := List.toArray (_ :: _ :: _ :: _ :: _ :: _ :: _ :: .slice (some ⟨ub, uo, none⟩) n uc :: _ :: _ :: .int .i64 (j : Int) :: .int .i64 (k : Int) :: _ :: _ :: _ :: _ :: _ :: _ :: _ :: _ :: _ :: _ :: _ :: _ :: _ :: _ :: _ :: _ :: _ :: _ :: _ :: _ :: _ :: _ :: _ :: _ :: _ :: _ :: _ :: _ :: _ :: _ :: _ :: _ :: _ :: _ :: _ :: _ :: _ :: _ :: _ :: _ :: _ :: _ :: _ :: _ :: _ :: _ :: _ :: _ :: _ :: _ :: _ :: _ :: _ :: _ :: _ :: _ :: _ :: _ :: _ :: _ :: _ :: _ :: _ :: _ :: _ :: _ :: _ :: _ :: _ :: _ :: _ :: _ :: _ :: _ :: _ :: _ :: _ :: _ :: _ :: _ :: _ :: _ :: _ :: _ :: _ :: _ :: _ :: _ :: _ :: _ :: _ :: _ :: _ :: _ :: _ :: _ :: _ :: _ :: _ :: _ :: _ :: _ :: _ :: _ :: _ :: _ :: _ :: _ :: _ :: _ :: _ :: _ :: _ :: _ :: _ :: _ :: _ :: _ :: _ :: _ :: _ :: _ :: _ :: _ :: _ :: _ :: _ :: _ :: _ :: _ :: _ :: _ :: _ :: _ :: _ :: _ :: _ :: .slice (some ⟨ub, uo, none⟩) n uc :: .int .i64 (k : Int) :: .pointer (some ⟨ub, uo + k * 2, none⟩) :: .agg #[.float .f64 u0, .float .f64 u1] :: _ :: .slice (some ⟨ub, uo, none⟩) n uc :: .int .i64 (j : Int) :: _ :: _ :: _ :: _ :: _ :: _ :: _ :: _ :: _ :: _ :: _ :: _ :: _ :: _ :: _ :: _ :: _ :: _ :: _ :: _ :: _ :: _ :: _ :: _ :: _ :: _ :: _ :: _ :: _ :: _ :: _ :: _ :: _ :: _ :: _ :: _ :: _ :: _ :: _ :: _ :: _ :: _ :: _ :: _ :: _ :: _ :: _ :: _ :: _ :: _ :: _ :: _ :: _ :: _ :: _ :: _ :: _ :: _ :: _ :: _ :: _ :: _ :: _ :: _ :: _ :: _ :: _ :: _ :: _ :: _ :: _ :: []), defers := [] } _
        refine wpAnyH_take (i := 7) (v := .pointer (some ⟨ub, uo + j * 2, none⟩)) rfl (by kernel_rfl) (by kernel_rfl) (by kernel_rfl) (fun _ _ _ h => h) (Or.inl ⟨by kernel_rfl, fun w hS => by go_simp⟩) hHeld ?_
        change wpAnyH _ _ _ _ _ _ _ { tmps := List.toArray (_ :: _ :: _ :: _ :: _ :: _ :: _ :: .slice (some ⟨ub, uo, none⟩) n uc :: _ :: _ :: .int .i64 (j : Int) :: .int .i64 (k : Int) :: _ :: _ :: _ :: _ :: _ :: _ :: _ :: _ :: _ :: _ :: _ :: _ :: _ :: _ :: _ :: _ :: _ :: _ :: _ :: _ :: _ :: _ :: _ :: _ :: _ :: _ :: _ :: _ :: _ :: _ :: _ :: _ :: _ :: _ :: _ :: _ :: _ :: _ :: _ :: _ :: _ :: _ :: _ :: _ :: _ :: _ :: _ :: _ :: _ :: _ :: _ :: _ :: _ :: _ :: _ :: _ :: _ :: _ :: _ :: _ :: _ :: _ :: _ :: _ :: _ :: _ :: _ :: _ :: _ :: _ :: _ :: _ :: _ :: _ :: _ :: _ :: _ :: _ :: _ :: _ :: _ :: _ :: _ :: _ :: _ :: _ :: _ :: _ :: _ :: _ :: _ :: _ :: _ :: _ :: _ :: _ :: _ :: _ :: _ :: _ :: _ :: _ :: _ :: _ :: _ :: _ :: _ :: _ :: _ :: _ :: _ :: _ :: _ :: _ :: _ :: _ :: _ :: _ :: _ :: _ :: _ :: _ :: _ :: _ :: _ :: _ :: _ :: _ :: _ :: _ :: _ :: _ :: _ :: _ :: _ :: _ :: _ :: .slice (some ⟨ub, uo, none⟩) n uc :: .int .i64 (k : Int) :: .pointer (some ⟨ub, uo + k * 2, none⟩) :: .agg #[.float .f64 u0, .float .f64 u1] :: _ :: .slice (some ⟨ub, uo, none⟩) n uc :: .int .i64 (j : Int) :: .pointer (some ⟨ub, uo + j * 2, none⟩) :: _ :: _ :: _ :: _ :: _ :: _ :: _ :: _ :: _ :: _ :: _ :: _ :: _ :: _ :: _ :: _ :: _ :: _ :: _ :: _ :: _ :: _ :: _ :: _ :: _ :: _ :: _ :: _ :: _ :: _ :: _ :: _ :: _ :: _ :: _ :: _ :: _ :: _ :: _ :: _ :: _ :: _ :: _ :: _ :: _ :: _ :: _ :: _ :: _ :: _ :: _ :: _ :: _ :: _ :: _ :: _ :: _ :: _ :: _ :: _ :: _ :: _ :: _ :: _ :: _ :: _ :: _ :: _ :: _ :: _ :: []), defers := [] } _
        refine wpAnyH_take (i := 8) (v := .agg #[.float .f64 j0, .float .f64 j1]) rfl (by kernel_rfl) (by kernel_rfl) (by kernel_rfl) (fun _ _ _ h => h) (Or.inl ⟨by kernel_rfl, fun w hS => by (obtain ⟨hS0, hS1, hS2, hS3⟩ := hS; go_simp)⟩) hHeld ?_
        change wpAnyH _ _ _ _ _ _ _ { tmps := List.toArray (_ :: _ :: _ :: _ :: _ :: _ :: _ :: .slice (some ⟨ub, uo, none⟩) n uc :: _ :: _ :: .int .i64 (j : Int) :: .int .i64 (k : Int) :: _ :: _ :: _ :: _ :: _ :: _ :: _ :: _ :: _ :: _ :: _ :: _ :: _ :: _ :: _ :: _ :: _ :: _ :: _ :: _ :: _ :: _ :: _ :: _ :: _ :: _ :: _ :: _ :: _ :: _ :: _ :: _ :: _ :: _ :: _ :: _ :: _ :: _ :: _ :: _ :: _ :: _ :: _ :: _ :: _ :: _ :: _ :: _ :: _ :: _ :: _ :: _ :: _ :: _ :: _ :: _ :: _ :: _ :: _ :: _ :: _ :: _ :: _ :: _ :: _ :: _ :: _ :: _ :: _ :: _ :: _ :: _ :: _ :: _ :: _ :: _ :: _ :: _ :: _ :: _ :: _ :: _ :: _ :: _ :: _ :: _ :: _ :: _ :: _ :: _ :: _ :: _ :: _ :: _ :: _ :: _ :: _ :: _ :: _ :: _ :: _ :: _ :: _ :: _ :: _ :: _ :: _ :: _ :: _ :: _ :: _ :: _ :: _ :: _ :: _ :: _ :: _ :: _ :: _ :: _ :: _ :: _ :: _ :: _ :: _ :: _ :: _ :: _ :: _ :: _ :: _ :: _ :: _ :: _ :: _ :: _ :: _ :: .slice (some ⟨ub, uo, none⟩) n uc :: .int .i64 (k : Int) :: .pointer (some ⟨ub, uo + k * 2, none⟩) :: .agg #[.float .f64 u0, .float .f64 u1] :: _ :: .slice (some ⟨ub, uo, none⟩) n uc :: .int .i64 (j : Int) :: .pointer (some ⟨ub, uo + j * 2, none⟩) :: .agg #[.float .f64 j0, .float .f64 j1] :: _ :: _ :: _ :: _ :: _ :: _ :: _ :: _ :: _ :: _ :: _ :: _ :: _ :: _ :: _ :: _ :: _ :: _ :: _ :: _ :: _ :: _ :: _ :: _ :: _ :: _ :: _ :: _ :: _ :: _ :: _ :: _ :: _ :: _ :: _ :: _ :: _ :: _ :: _ :: _ :: _ :: _ :: _ :: _ :: _ :: _ :: _ :: _ :: _ :: _ :: _ :: _ :: _ :: _ :: _ :: _ :: _ :: _ :: _ :: _ :: _ :: _ :: _ :: _ :: _ :: _ :: _ :: _ :: _ :: []), defers := [] } _
        refine wpAnyH_ready (rs := [4]) (by kernel_rfl) (by simp) ?_
        refine (AllReadyH.cons rfl (fun KK hK => ?_) AllReadyH.nil)
        go_simp
        refine (cZSizeI2 u0 u1 _).mono ?_
        rintro e x1 ⟨s1, rfl, h1, hb8⟩
        have E1 := btrans B0d hb8
        clear hb8
        go_wp2_with fail
        clear hHeld
        refine hK.out _ _ (⟨ble E1 r0, ble E1 r1, ble E1 t0, ble E1 t1⟩) (fun hHeld => ?_)
        clear hK KK
        change wpAnyH _ _ _ _ _ _ _ { tmps := List.toArray (_ :: _ :: _ :: _ :: _ :: _ :: _ :: .slice (some ⟨ub, uo, none⟩) n uc :: _ :: _ :: .int .i64 (j : Int) :: .int .i64 (k : Int) :: _ :: _ :: _ :: _ :: _ :: _ :: _ :: _ :: _ :: _ :: _ :: _ :: _ :: _ :: _ :: _ :: _ :: _ :: _ :: _ :: _ :: _ :: _ :: _ :: _ :: _ :: _ :: _ :: _ :: _ :: _ :: _ :: _ :: _ :: _ :: _ :: _ :: _ :: _ :: _ :: _ :: _ :: _ :: _ :: _ :: _ :: _ :: _ :: _ :: _ :: _ :: _ :: _ :: _ :: _ :: _ :: _ :: _ :: _ :: _ :: _ :: _ :: _ :: _ :: _ :: _ :: _ :: _ :: _ :: _ :: _ :: _ :: _ :: _ :: _ :: _ :: _ :: _ :: _ :: _ :: _ :: _ :: _ :: _ :: _ :: _ :: _ :: _ :: _ :: _ :: _ :: _ :: _ :: _ :: _ :: _ :: _ :: _ :: _ :: _ :: _ :: _ :: _ :: _ :: _ :: _ :: _ :: _ :: _ :: _ :: _ :: _ :: _ :: _ :: _ :: _ :: _ :: _ :: _ :: _ :: _ :: _ :: _ :: _ :: _ :: _ :: _ :: _ :: _ :: _ :: _ :: _ :: _ :: _ :: _ :: _ :: _ :: .slice (some ⟨ub, uo, none⟩) n uc :: .int .i64 (k : Int) :: .pointer (some ⟨ub, uo + k * 2, none⟩) :: .agg #[.float .f64 u0, .float .f64 u1] :: .float .f64 s1 :: .slice (some ⟨ub, uo, none⟩) n uc :: .int .i64 (j : Int) :: .pointer (some ⟨ub, uo + j * 2, none⟩) :: .agg #[.float .f64 j0, .float .f64 j1] :: _ :: _ :: _ :: _ :: _ :: _ :: _ :: _ :: _ :: _ :: _ :: _ :: _ :: _ :: _ :: _ :: _ :: _ :: _ :: _ :: _ :: _ :: _ :: _ :: _ :: _ :: _ :: _ :: _ :: _ :: _ :: _ :: _ :: _ :: _ :: _ :: _ :: _ :: _ :: _ :: _ :: _ :: _ :: _ :: _ :: _ :: _ :: _ :: _ :: _ :: _ :: _ :: _ :: _ :: _ :: _ :: _ :: _ :: _ :: _ :: _ :: _ :: _ :: _ :: _ :: _ :: _ :: _ :: _ :: []), defers := [] } _
        refine wpAnyH_ready (rs := [9]) (by kernel_rfl) (by simp) ?_
        refine (AllReadyH.cons rfl (fun KK hK => ?_) AllReadyH.nil)
        go_simp
        refine (cZSizeI2 j0 j1 _).mono ?_
        rintro e x2 ⟨s2, rfl, h2, hb8⟩
        have E2 := btrans E1 hb8
        clear hb8
        have hL : (FloatKind.f64.format.order s1 s2 == some .lt) = L := by rw [order_cl, h1, h2]; exact hL0.out
        go_wp2_with fail
        clear hHeld
        refine hK.out _ _ (⟨ble E2 r0, ble E2 r1, ble E2 t0, ble E2 t1⟩) (fun hHeld => ?_)
        clear hK KK
        change wpAnyH _ _ _ _ _ _ _ { tmps := List.toArray (_ :: _ :: _ :: _ :: _ :: _ :: _ :: .slice (some ⟨ub, uo, none⟩) n uc :: _ :: _ :: .int .i64 (j : Int) :: .int .i64 (k : Int) :: _ :: _ :: _ :: _ :: _ :: _ :: _ :: _ :: _ :: _ :: _ :: _ :: _ :: _ :: _ :: _ :: _ :: _ :: _ :: _ :: _ :: _ :: _ :: _ :: _ :: _ :: _ :: _ :: _ :: _ :: _ :: _ :: _ :: _ :: _ :: _ :: _ :: _ :: _ :: _ :: _ :: _ :: _ :: _ :: _ :: _ :: _ :: _ :: _ :: _ :: _ :: _ :: _ :: _ :: _ :: _ :: _ :: _ :: _ :: _ :: _ :: _ :: _ :: _ :: _ :: _ :: _ :: _ :: _ :: _ :: _ :: _ :: _ :: _ :: _ :: _ :: _ :: _ :: _ :: _ :: _ :: _ :: _ :: _ :: _ :: _ :: _ :: _ :: _ :: _ :: _ :: _ :: _ :: _ :: _ :: _ :: _ :: _ :: _ :: _ :: _ :: _ :: _ :: _ :: _ :: _ :: _ :: _ :: _ :: _ :: _ :: _ :: _ :: _ :: _ :: _ :: _ :: _ :: _ :: _ :: _ :: _ :: _ :: _ :: _ :: _ :: _ :: _ :: _ :: _ :: _ :: _ :: _ :: _ :: _ :: _ :: _ :: .slice (some ⟨ub, uo, none⟩) n uc :: .int .i64 (k : Int) :: .pointer (some ⟨ub, uo + k * 2, none⟩) :: .agg #[.float .f64 u0, .float .f64 u1] :: .float .f64 s1 :: .slice (some ⟨ub, uo, none⟩) n uc :: .int .i64 (j : Int) :: .pointer (some ⟨ub, uo + j * 2, none⟩) :: .agg #[.float .f64 j0, .float .f64 j1] :: .float .f64 s2 :: _ :: _ :: _ :: _ :: _ :: _ :: _ :: _ :: _ :: _ :: _ :: _ :: _ :: _ :: _ :: _ :: _ :: _ :: _ :: _ :: _ :: _ :: _ :: _ :: _ :: _ :: _ :: _ :: _ :: _ :: _ :: _ :: _ :: _ :: _ :: _ :: _ :: _ :: _ :: _ :: _ :: _ :: _ :: _ :: _ :: _ :: _ :: _ :: _ :: _ :: _ :: _ :: _ :: _ :: _ :: _ :: _ :: _ :: _ :: _ :: _ :: _ :: _ :: _ :: _ :: _ :: _ :: _ :: []), defers := [] } _
        refine wpAnyH_take (i := 10) (v := .bool L) rfl (by kernel_rfl) (by kernel_rfl) (by kernel_rfl) (fun _ _ _ h => h) (Or.inl ⟨by kernel_rfl, fun w hS => by go_simp⟩) hHeld ?_
        change wpAnyH _ _ _ _ _ _ _ { tmps := List.toArray (_ :: _ :: _ :: _ :: _ :: _ :: _ :: .slice (some ⟨ub, uo, none⟩) n uc :: _ :: _ :: .int .i64 (j : Int) :: .int .i64 (k : Int) :: _ :: _ :: _ :: _ :: _ :: _ :: _ :: _ :: _ :: _ :: _ :: _ :: _ :: _ :: _ :: _ :: _ :: _ :: _ :: _ :: _ :: _ :: _ :: _ :: _ :: _ :: _ :: _ :: _ :: _ :: _ :: _ :: _ :: _ :: _ :: _ :: _ :: _ :: _ :: _ :: _ :: _ :: _ :: _ :: _ :: _ :: _ :: _ :: _ :: _ :: _ :: _ :: _ :: _ :: _ :: _ :: _ :: _ :: _ :: _ :: _ :: _ :: _ :: _ :: _ :: _ :: _ :: _ :: _ :: _ :: _ :: _ :: _ :: _ :: _ :: _ :: _ :: _ :: _ :: _ :: _ :: _ :: _ :: _ :: _ :: _ :: _ :: _ :: _ :: _ :: _ :: _ :: _ :: _ :: _ :: _ :: _ :: _ :: _ :: _ :: _ :: _ :: _ :: _ :: _ :: _ :: _ :: _ :: _ :: _ :: _ :: _ :: _ :: _ :: _ :: _ :: _ :: _ :: _ :: _ :: _ :: _ :: _ :: _ :: _ :: _ :: _ :: _ :: _ :: _ :: _ :: _ :: _ :: _ :: _ :: _ :: _ :: .slice (some ⟨ub, uo, none⟩) n uc :: .int .i64 (k : Int) :: .pointer (some ⟨ub, uo + k * 2, none⟩) :: .agg #[.float .f64 u0, .float .f64 u1] :: .float .f64 s1 :: .slice (some ⟨ub, uo, none⟩) n uc :: .int .i64 (j : Int) :: .pointer (some ⟨ub, uo + j * 2, none⟩) :: .agg #[.float .f64 j0, .float .f64 j1] :: .float .f64 s2 :: .bool L :: _ :: _ :: _ :: _ :: _ :: _ :: _ :: _ :: _ :: _ :: _ :: _ :: _ :: _ :: _ :: _ :: _ :: _ :: _ :: _ :: _ :: _ :: _ :: _ :: _ :: _ :: _ :: _ :: _ :: _ :: _ :: _ :: _ :: _ :: _ :: _ :: _ :: _ :: _ :: _ :: _ :: _ :: _ :: _ :: _ :: _ :: _ :: _ :: _ :: _ :: _ :: _ :: _ :: _ :: _ :: _ :: _ :: _ :: _ :: _ :: _ :: _ :: _ :: _ :: _ :: _ :: _ :: []), defers := [] } _
        refine wpAnyH_done (by kernel_rfl) ?_ _
        have HB6 := btrans hb E2
        have KZ6 : Bz _ w5.heap.size ⟨z0, z1⟩ := keepB E2 KZ
        replace r0 := ble E2 r0
        replace r1 := ble E2 r1
        clear E1 E2 B0d hb KZ t0 t1 hL h1 h2 hL0
        obtain ⟨⟨c0, c1⟩, f0, f1⟩ := twoC KZ6
        have KN := KZ6.set (y := ⟨u0, u1⟩) (Below.refl _ _)
        have HBn := below_set (b := w5.heap.size) (o := 1) (v := .float .f64 u1) (Nat.le_refl _) (below_set (b := w5.heap.size) (o := 0) (v := .float .f64 u0) (Nat.le_refl _) HB6)
        dsimp only at KN
        have hk' := HK'.out
        clear HK' e1
        subst hk'
        cases L
        · go_wp2
          go_roundw
          case rel => exact ⟨k + 1, j, ⟨u0, u1⟩, by omega, by go_num, rfl, hLn.out, KN, huk.out, HBn⟩
          case measure => simp [intOf]; omega
        · go_wp2
          go_roundw
          case rel => exact ⟨k + 1, k, ⟨u0, u1⟩, by omega, by go_num, rfl, hLn.out, KN, huk.out, HBn⟩
          case measure => simp [intOf]; omega
    · obtain rfl : n = k := by omega
      have hlow : Hid (lowI (cs us) n = (j : Int)) := by
        rcases hLw with ⟨h, -⟩ | ⟨-, h⟩
        · omega
        · exact hide h
      have HTA := hide (fun ts h => volts_at (us := ts) (v := ⟨v0, v1⟩) (ls := ls) (ds := zeros n) h (by rw [HL.out]; simp [zeros]) (by rw [HL.out]; omega))
      rw [HL.out] at HTA
      clear hLw KZ hzc
      replace VL0 := VL0.below hb
      replace VD0 := VD0.below hb
      replace VU0 := VU0.below hb
      replace HB := btrans HB hb
      replace K3 := keepB hb K3
      clear hb hbq HQL HQS HQD HQU
      obtain ⟨M, hmk, hZM⟩ := makeZ (n := n) (by omega) hi1 hy0 hy1 hy2
      obtain ⟨⟨c0, c1⟩, -⟩ := twoC K3
      go_upto_region 24 with fail
      refine wp_region_held_drew (S := (fun w' => w'.cell? ⟨b3, 0, none⟩ = some (.float .f64 v0) ∧ w'.cell? ⟨b3, 1, none⟩ = some (.float .f64 v1))) (by kernel_rfl) ?_ (fun hHeld => ?_)
      · go_keep
      have B0d : Below wr.heap.size wr wr.drew := (Below.refl _ _).drew
      generalize wr.drew = wd at *
      refine wpAnyH_take (i := 0) (v := .agg #[.float .f64 v0, .float .f64 v1]) rfl (by kernel_rfl) (by kernel_rfl) (by kernel_rfl) (fun _ _ _ h => h) (Or.inl ⟨by kernel_rfl, fun w hS => by (obtain ⟨hS0, hS1⟩ := hS; go_simp)⟩) hHeld ?_
      change wpAnyH _ _ _ _ _ _ _ { tmps := List.toArray (_ :: _ :: _ :: .pointer (some ⟨b3, 0, none⟩) :: .slice (some ⟨lb, lo, none⟩) n lc :: _ :: _ :: _ :: .int .i64 (n : Int) :: _ :: _ :: _ :: _ :: _ :: _ :: _ :: _ :: _ :: _ :: _ :: _ :: _ :: _ :: _ :: _ :: _ :: _ :: _ :: _ :: _ :: _ :: _ :: _ :: _ :: _ :: _ :: _ :: _ :: _ :: _ :: _ :: _ :: _ :: _ :: _ :: _ :: _ :: _ :: _ :: _ :: _ :: _ :: _ :: _ :: _ :: _ :: _ :: _ :: _ :: _ :: _ :: _ :: _ :: _ :: _ :: _ :: _ :: _ :: _ :: _ :: _ :: _ :: _ :: _ :: _ :: _ :: _ :: _ :: _ :: _ :: _ :: _ :: _ :: _ :: _ :: _ :: _ :: _ :: _ :: _ :: _ :: _ :: _ :: _ :: _ :: _ :: _ :: _ :: _ :: _ :: _ :: _ :: _ :: _ :: _ :: _ :: _ :: _ :: _ :: _ :: _ :: _ :: _ :: _ :: _ :: _ :: _ :: _ :: _ :: _ :: _ :: _ :: _ :: _ :: _ :: _ :: _ :: _ :: _ :: _ :: _ :: _ :: _ :: _ :: _ :: _ :: _ :: _ :: _ :: _ :: _ :: _ :: _ :: _ :: _ :: _ :: _ :: _ :: _ :: _ :: _ :: _ :: _ :: _ :: _ :: _ :: _ :: _ :: _ :: _ :: _ :: _ :: _ :: _ :: _ :: .agg #[.float .f64 v0, .float .f64 v1] :: _ :: _ :: _ :: _ :: _ :: _ :: _ :: _ :: _ :: _ :: _ :: _ :: _ :: _ :: _ :: _ :: _ :: _ :: _ :: _ :: _ :: _ :: _ :: _ :: _ :: _ :: _ :: _ :: _ :: _ :: _ :: _ :: _ :: _ :: _ :: _ :: _ :: _ :: _ :: _ :: _ :: _ :: _ :: _ :: _ :: _ :: _ :: _ :: _ :: _ :: _ :: _ :: _ :: _ :: _ :: _ :: _ :: _ :: _ :: _ :: _ :: []), defers := [] } _
      refine wpAnyH_take (i := 1) (v := .slice (some ⟨lb, lo, none⟩) n lc) rfl (by kernel_rfl) (by kernel_rfl) (by kernel_rfl) (fun _ _ _ h => h) (Or.inl ⟨by kernel_rfl, fun w hS => by go_simp⟩) hHeld ?_
      change wpAnyH _ _ _ _ _ _ _ { tmps := List.toArray (_ :: _ :: _ :: .pointer (some ⟨b3, 0, none⟩) :: .slice (some ⟨lb, lo, none⟩) n lc :: _ :: _ :: _ :: .int .i64 (n : Int) :: _ :: _ :: _ :: _ :: _ :: _ :: _ :: _ :: _ :: _ :: _ :: _ :: _ :: _ :: _ :: _ :: _ :: _ :: _ :: _ :: _ :: _ :: _ :: _ :: _ :: _ :: _ :: _ :: _ :: _ :: _ :: _ :: _ :: _ :: _ :: _ :: _ :: _ :: _ :: _ :: _ :: _ :: _ :: _ :: _ :: _ :: _ :: _ :: _ :: _ :: _ :: _ :: _ :: _ :: _ :: _ :: _ :: _ :: _ :: _ :: _ :: _ :: _ :: _ :: _ :: _ :: _ :: _ :: _ :: _ :: _ :: _ :: _ :: _ :: _ :: _ :: _ :: _ :: _ :: _ :: _ :: _ :: _ :: _ :: _ :: _ :: _ :: _ :: _ :: _ :: _ :: _ :: _ :: _ :: _ :: _ :: _ :: _ :: _ :: _ :: _ :: _ :: _ :: _ :: _ :: _ :: _ :: _ :: _ :: _ :: _ :: _ :: _ :: _ :: _ :: _ :: _ :: _ :: _ :: _ :: _ :: _ :: _ :: _ :: _ :: _ :: _ :: _ :: _ :: _ :: _ :: _ :: _ :: _ :: _ :: _ :: _ :: _ :: _ :: _ :: _ :: _ :: _ :: _ :: _ :: _ :: _ :: _ :: _ :: _ :: _ :: _ :: _ :: _ :: _ :: _ :: .agg #[.float .f64 v0, .float .f64 v1] :: .slice (some ⟨lb, lo, none⟩) n lc :: _ :: _ :: _ :: _ :: _ :: _ :: _ :: _ :: _ :: _ :: _ :: _ :: _ :: _ :: _ :: _ :: _ :: _ :: _ :: _ :: _ :: _ :: _ :: _ :: _ :: _ :: _ :: _ :: _ :: _ :: _ :: _ :: _ :: _ :: _ :: _ :: _ :: _ :: _ :: _ :: _ :: _ :: _ :: _ :: _ :: _ :: _ :: _ :: _ :: _ :: _ :: _ :: _ :: _ :: _ :: _ :: _ :: _ :: _ :: _ :: []), defers := [] } _
      refine wpAnyH_take (i := 2) (v := .int .i64 (n : Int)) rfl (by kernel_rfl) (by kernel_rfl) (by kernel_rfl) (fun _ _ _ h => h) (Or.inl ⟨by kernel_rfl, fun w hS => by go_simp⟩) hHeld ?_
      change wpAnyH _ _ _ _ _ _ _ { tmps := List.toArray (_ :: _ :: _ :: .pointer (some ⟨b3, 0, none⟩) :: .slice (some ⟨lb, lo, none⟩) n lc :: _ :: _ :: _ :: .int .i64 (n : Int) :: _ :: _ :: _ :: _ :: _ :: _ :: _ :: _ :: _ :: _ :: _ :: _ :: _ :: _ :: _ :: _ :: _ :: _ :: _ :: _ :: _ :: _ :: _ :: _ :: _ :: _ :: _ :: _ :: _ :: _ :: _ :: _ :: _ :: _ :: _ :: _ :: _ :: _ :: _ :: _ :: _ :: _ :: _ :: _ :: _ :: _ :: _ :: _ :: _ :: _ :: _ :: _ :: _ :: _ :: _ :: _ :: _ :: _ :: _ :: _ :: _ :: _ :: _ :: _ :: _ :: _ :: _ :: _ :: _ :: _ :: _ :: _ :: _ :: _ :: _ :: _ :: _ :: _ :: _ :: _ :: _ :: _ :: _ :: _ :: _ :: _ :: _ :: _ :: _ :: _ :: _ :: _ :: _ :: _ :: _ :: _ :: _ :: _ :: _ :: _ :: _ :: _ :: _ :: _ :: _ :: _ :: _ :: _ :: _ :: _ :: _ :: _ :: _ :: _ :: _ :: _ :: _ :: _ :: _ :: _ :: _ :: _ :: _ :: _ :: _ :: _ :: _ :: _ :: _ :: _ :: _ :: _ :: _ :: _ :: _ :: _ :: _ :: _ :: _ :: _ :: _ :: _ :: _ :: _ :: _ :: _ :: _ :: _ :: _ :: _ :: _ :: _ :: _ :: _ :: _ :: _ :: .agg #[.float .f64 v0, .float .f64 v1] :: .slice (some ⟨lb, lo, none⟩) n lc :: .int .i64 (n : Int) :: _ :: _ :: _ :: _ :: _ :: _ :: _ :: _ :: _ :: _ :: _ :: _ :: _ :: _ :: _ :: _ :: _ :: _ :: _ :: _ :: _ :: _ :: _ :: _ :: _ :: _ :: _ :: _ :: _ :: _ :: _ :: _ :: _ :: _ :: _ :: _ :: _ :: _ :: _ :: _ :: _ :: _ :: _ :: _ :: _ :: _ :: _ :: _ :: _ :: _ :: _ :: _ :: _ :: _ :: _ :: _ :: _ :: _ :: _ :: []), defers := [] } _
      refine wpAnyH_ready (rs := [3]) (by kernel_rfl) (by simp) ?_
      refine (AllReadyH.cons rfl (fun KK hK => ?_) AllReadyH.nil)
      go_simp
      have hbm := balloc wd (.cells M 26)
      have ZMd := hZM wd
      have E1 := btrans B0d hbm
      clear hbm
      generalize wd.heap.size = bm at *
      generalize wd.alloc (.cells M 26) = wm at *
      clear hHeld
      refine hK.out _ _ (⟨ble E1 c0, ble E1 c1⟩) (fun hHeld => ?_)
      clear hK KK
      change wpAnyH _ _ _ _ _ _ _ { tmps := List.toArray (_ :: _ :: _ :: .pointer (some ⟨b3, 0, none⟩) :: .slice (some ⟨lb, lo, none⟩) n lc :: _ :: _ :: _ :: .int .i64 (n : Int) :: _ :: _ :: _ :: _ :: _ :: _ :: _ :: _ :: _ :: _ :: _ :: _ :: _ :: _ :: _ :: _ :: _ :: _ :: _ :: _ :: _ :: _ :: _ :: _ :: _ :: _ :: _ :: _ :: _ :: _ :: _ :: _ :: _ :: _ :: _ :: _ :: _ :: _ :: _ :: _ :: _ :: _ :: _ :: _ :: _ :: _ :: _ :: _ :: _ :: _ :: _ :: _ :: _ :: _ :: _ :: _ :: _ :: _ :: _ :: _ :: _ :: _ :: _ :: _ :: _ :: _ :: _ :: _ :: _ :: _ :: _ :: _ :: _ :: _ :: _ :: _ :: _ :: _ :: _ :: _ :: _ :: _ :: _ :: _ :: _ :: _ :: _ :: _ :: _ :: _ :: _ :: _ :: _ :: _ :: _ :: _ :: _ :: _ :: _ :: _ :: _ :: _ :: _ :: _ :: _ :: _ :: _ :: _ :: _ :: _ :: _ :: _ :: _ :: _ :: _ :: _ :: _ :: _ :: _ :: _ :: _ :: _ :: _ :: _ :: _ :: _ :: _ :: _ :: _ :: _ :: _ :: _ :: _ :: _ :: _ :: _ :: _ :: _ :: _ :: _ :: _ :: _ :: _ :: _ :: _ :: _ :: _ :: _ :: _ :: _ :: _ :: _ :: _ :: _ :: _ :: _ :: .agg #[.float .f64 v0, .float .f64 v1] :: .slice (some ⟨lb, lo, none⟩) n lc :: .int .i64 (n : Int) :: .slice (some ⟨bm, 0, none⟩) n n :: _ :: _ :: _ :: _ :: _ :: _ :: _ :: _ :: _ :: _ :: _ :: _ :: _ :: _ :: _ :: _ :: _ :: _ :: _ :: _ :: _ :: _ :: _ :: _ :: _ :: _ :: _ :: _ :: _ :: _ :: _ :: _ :: _ :: _ :: _ :: _ :: _ :: _ :: _ :: _ :: _ :: _ :: _ :: _ :: _ :: _ :: _ :: _ :: _ :: _ :: _ :: _ :: _ :: _ :: _ :: _ :: _ :: _ :: []), defers := [] } _
      refine wpAnyH_ready (rs := [4]) (by kernel_rfl) (by simp) ?_
      refine (AllReadyH.cons rfl (fun KK hK => ?_) AllReadyH.nil)
      go_simp
      refine (CV0 wm (some ⟨bm, 0, none⟩) n (VL0.below E1) ZMd).mono ?_
      rintro e x2 ⟨tv, ts, rfl, OT, hts, hb8⟩
      have E2 := btrans E1 hb8
      clear hb8
      obtain ⟨htl, hta⟩ := HTA.out ts hts
      rw [htl] at OT
      obtain ⟨ta, tc, rfl⟩ := own_form OT
      have VT := Zs.own OT
      have HTL := hide htl
      have HTK := hide hta
      clear hts htl hta OT
      go_wp2_with fail
      clear hHeld
      refine hK.out _ _ (⟨ble E2 c0, ble E2 c1⟩) (fun hHeld => ?_)
      clear hK KK
      change wpAnyH _ _ _ _ _ _ _ { tmps := List.toArray (_ :: _ :: _ :: .pointer (some ⟨b3, 0, none⟩) :: .slice (some ⟨lb, lo, none⟩) n lc :: _ :: _ :: _ :: .int .i64 (n : Int) :: _ :: _ :: _ :: _ :: _ :: _ :: _ :: _ :: _ :: _ :: _ :: _ :: _ :: _ :: _ :: _ :: _ :: _ :: _ :: _ :: _ :: _ :: _ :: _ :: _ :: _ :: _ :: _ :: _ :: _ :: _ :: _ :: _ :: _ :: _ :: _ :: _ :: _ :: _ :: _ :: _ :: _ :: _ :: _ :: _ :: _ :: _ :: _ :: _ :: _ :: _ :: _ :: _ :: _ :: _ :: _ :: _ :: _ :: _ :: _ :: _ :: _ :: _ :: _ :: _ :: _ :: _ :: _ :: _ :: _ :: _ :: _ :: _ :: _ :: _ :: _ :: _ :: _ :: _ :: _ :: _ :: _ :: _ :: _ :: _ :: _ :: _ :: _ :: _ :: _ :: _ :: _ :: _ :: _ :: _ :: _ :: _ :: _ :: _ :: _ :: _ :: _ :: _ :: _ :: _ :: _ :: _ :: _ :: _ :: _ :: _ :: _ :: _ :: _ :: _ :: _ :: _ :: _ :: _ :: _ :: _ :: _ :: _ :: _ :: _ :: _ :: _ :: _ :: _ :: _ :: _ :: _ :: _ :: _ :: _ :: _ :: _ :: _ :: _ :: _ :: _ :: _ :: _ :: _ :: _ :: _ :: _ :: _ :: _ :: _ :: _ :: _ :: _ :: _ :: _ :: _ :: .agg #[.float .f64 v0, .float .f64 v1] :: .slice (some ⟨lb, lo, none⟩) n lc :: .int .i64 (n : Int) :: .slice (some ⟨bm, 0, none⟩) n n :: .slice ta n tc :: _ :: _ :: _ :: _ :: _ :: _ :: _ :: _ :: _ :: _ :: _ :: _ :: _ :: _ :: _ :: _ :: _ :: _ :: _ :: _ :: _ :: _ :: _ :: _ :: _ :: _ :: _ :: _ :: _ :: _ :: _ :: _ :: _ :: _ :: _ :: _ :: _ :: _ :: _ :: _ :: _ :: _ :: _ :: _ :: _ :: _ :: _ :: _ :: _ :: _ :: _ :: _ :: _ :: _ :: _ :: _ :: _ :: []), defers := [] } _
      refine wpAnyH_take (i := 5) (v := .slice ta n tc) rfl (by kernel_rfl) (by kernel_rfl) (by kernel_rfl) (fun _ _ _ h => h) (Or.inl ⟨by kernel_rfl, fun w hS => by go_simp⟩) hHeld ?_
      change wpAnyH _ _ _ _ _ _ _ { tmps := List.toArray (_ :: _ :: _ :: .pointer (some ⟨b3, 0, none⟩) :: .slice (some ⟨lb, lo, none⟩) n lc :: _ :: _ :: _ :: .int .i64 (n : Int) :: _ :: _ :: _ :: _ :: _ :: .slice ta n tc :: _ :: _ :: _ :: _ :: _ :: _ :: _ :: _ :: _ :: _ :: _ :: _ :: _ :: _ :: _ :: _ :: _ :: _ :: _ :: _ :: _ :: _ :: _ :: _ :: _ :: _ :: _ :: _ :: _ :: _ :: _ :: _ :: _ :: _ :: _ :: _ :: _ :: _ :: _ :: _ :: _ :: _ :: _ :: _ :: _ :: _ :: _ :: _ :: _ :: _ :: _ :: _ :: _ :: _ :: _ :: _ :: _ :: _ :: _ :: _ :: _ :: _ :: _ :: _ :: _ :: _ :: _ :: _ :: _ :: _ :: _ :: _ :: _ :: _ :: _ :: _ :: _ :: _ :: _ :: _ :: _ :: _ :: _ :: _ :: _ :: _ :: _ :: _ :: _ :: _ :: _ :: _ :: _ :: _ :: _ :: _ :: _ :: _ :: _ :: _ :: _ :: _ :: _ :: _ :: _ :: _ :: _ :: _ :: _ :: _ :: _ :: _ :: _ :: _ :: _ :: _ :: _ :: _ :: _ :: _ :: _ :: _ :: _ :: _ :: _ :: _ :: _ :: _ :: _ :: _ :: _ :: _ :: _ :: _ :: _ :: _ :: _ :: _ :: _ :: _ :: _ :: _ :: _ :: _ :: _ :: _ :: _ :: _ :: _ :: _ :: .agg #[.float .f64 v0, .float .f64 v1] :: .slice (some ⟨lb, lo, none⟩) n lc :: .int .i64 (n : Int) :: .slice (some ⟨bm, 0, none⟩) n n :: .slice ta n tc :: _ :: _ :: _ :: _ :: _ :: _ :: _ :: _ :: _ :: _ :: _ :: _ :: _ :: _ :: _ :: _ :: _ :: _ :: _ :: _ :: _ :: _ :: _ :: _ :: _ :: _ :: _ :: _ :: _ :: _ :: _ :: _ :: _ :: _ :: _ :: _ :: _ :: _ :: _ :: _ :: _ :: _ :: _ :: _ :: _ :: _ :: _ :: _ :: _ :: _ :: _ :: _ :: _ :: _ :: _ :: _ :: _ :: []), defers := [] } _
      refine wpAnyH_done (by kernel_rfl) ?_ _
      replace VL0 := VL0.below E2
      replace VD0 := VD0.below E2
      replace VU0 := VU0.below E2
      replace HB := btrans HB E2
      replace K3 := keepB E2 K3
      clear E1 E2 B0d c0 c1 CV0 HTA
      go_wp2_with fail
      go_loopw [15] (fun i wq => ∃ q : Nat, q ≤ n ∧ i = .int .i64 q ∧ Below x2.heap.size x2 wq) (fun i _ => n - (intOf i).toNat)
      case atStart => exact ⟨0, by omega, rfl, Below.refl _ _⟩
      case round =>
        obtain ⟨q, hq, rfl, hbr⟩ := hrel
        by_cases hqn : q < n
        · have hqt : q < ts.length := by have := HTL.out; omega
          have hst := still_at hW.out (k := q) (by rw [HL.out]; exact hqn) (by rw [HL.out]; exact HTK.out q hqn)
          replace K3 := keepB hbr K3
          rcases VT with h | ⟨tb, to', rfl, qt⟩
          · simp [h] at hqt
          obtain ⟨p0, p1⟩ := qt q hqt
          replace p0 := ble hbr p0
          replace p1 := ble hbr p1
          clear qt
          generalize ts.getD q ZV.zero = y at *
          obtain ⟨y0, y1⟩ := y
          dsimp only at p0 p1 hst
          obtain ⟨o1, o2⟩ := hst
          obtain ⟨⟨c0, c1⟩, -⟩ := twoC K3
          go_wp2
          go_quiet (fail)
          go_wp2
          go_roundw
          case rel => exact ⟨q + 1, by omega, by go_num, bdraw hbr _⟩
          case measure => simp [intOf]; omega
        · obtain rfl : n = q := by omega
          replace VL0 := VL0.below hbr
          replace VD0 := VD0.below hbr
          replace VU0 := VU0.below hbr
          replace HB := btrans HB hbr
          clear hbr VT K3
          have CLw := fun w2 h => cLowI (some ⟨ub, uo, none⟩) uc us w2 h (by rw [HUL.out]; unfold maxLen; omega)
          have CFd := fun w2 h => cFedI (some ⟨ub, uo, none⟩) uc us 0 w2 h (by rw [HUL.out]; unfold maxLen; omega)
          have hlc : lowC (cs us) = (j : Int) := by unfold lowC; rw [cs_len, HUL.out, if_neg (by omega)]; exact hlow.out
          have hfd : fedB (zo .mul (cl 0) (cl 0)) (cs us) = true := fed_D hW.out (by rw [HUL.out, HL.out]) (by rw [HL.out]; exact HUA.out)
          rw [hfd, HUL.out] at CFd
          rw [hlc, HUL.out] at CLw
          have H0 : Hid (Dz 12 0 (lossC (cs ls) (cs (zeros n)))) := hide (by
            have := loss_yes (zeros_Wr hW.out)
            rw [HL.out] at this
            rw [this]
            have := noloss_D hW.out ls.length (Nat.le_refl _)
            rwa [HL.out] at this)
          obtain ⟨N, hN0, HN⟩ : ∃ N : Int, 0 ≤ N ∧ Hid (Dz 12 N (lossC (cs ls) (cs ds))) := by
            obtain ⟨N, h1, -, h2⟩ := loss_D hW.out ls.length (Nat.le_refl _)
            exact ⟨N, h1, hide (by rw [loss_yes hW.out]; exact h2)⟩
          clear hlc hfd HUA HTK
          have g2 : ((j : Int) == (j : Int)) = true := by simp
          go_wp2_with fail
          refine (CLw _ VU0).mono ?_
          rintro e wa ⟨rfl, hb1⟩
          replace VL0 := VL0.below hb1
          replace VD0 := VD0.below hb1
          replace VU0 := VU0.below hb1
          replace HB := btrans HB hb1
          clear hb1 CLw
          have hbm := balloc wa (.cells M 26)
          have ZMd := hZM wa
          replace VL0 := VL0.below hbm
          replace VD0 := VD0.below hbm
          replace VU0 := VU0.below hbm
          replace HB := btrans HB hbm
          clear hbm
          go_wp2_with fail
          generalize wa.heap.size = bm at *
          generalize wa.alloc (.cells M 26) = wm at *
          refine (CL0 wm (some ⟨bm, 0, none⟩) n VL0 ZMd).mono ?_
          rintro e wb ⟨r1, rfl, h1, hb1⟩
          have d1 := H0.out
          rw [← h1] at d1
          have o1 : FloatKind.f64.format.order r1 0 = some .eq := eq_of d1 (Dq.zero 12).cl
          replace VL0 := VL0.below hb1
          replace VD0 := VD0.below hb1
          replace VU0 := VU0.below hb1
          replace HB := btrans HB hb1
          clear hb1 CL0 H0 d1 h1 ZMd hmk hZM
          go_wp2_with fail
          refine (CL wb VL0 VD0).mono ?_
          rintro e wc ⟨r2, rfl, h2, hb1⟩
          have d2 := HN.out
          rw [← h2] at d2
          have o2 : (FloatKind.f64.format.order r2 0 == some .gt || FloatKind.f64.format.order r2 0 == some .eq) = true := by rw [ge_cl]; exact ge_D hN0 d2 (Dq.zero 12).cl
          replace VL0 := VL0.below hb1
          replace VD0 := VD0.below hb1
          replace VU0 := VU0.below hb1
          replace HB := btrans HB hb1
          clear hb1 d2 h2
          go_wp2_with fail
          refine (CFd wc VU0).mono ?_
          rintro e we ⟨rfl, hb1⟩
          replace VL0 := VL0.below hb1
          replace VD0 := VD0.below hb1
          replace HB := btrans HB hb1
          clear hb1 VU0
          go_wp2_with fail
          refine (CL we VL0 VD0).mono ?_
          rintro e wf ⟨r3, rfl, h3, hb1⟩
          replace VL0 := VL0.below hb1
          replace VD0 := VD0.below hb1
          replace HB := btrans HB hb1
          clear hb1
          go_wp2_with fail
          refine (CLS wf VL0 VD0).mono ?_
          rintro e wg ⟨r4, rfl, h4, hb1⟩
          replace HB := btrans HB hb1
          clear hb1
          go_wp2_with fail
          refine (cSameB r3 r4 wg (h3.trans h4.symm)).mono ?_
          rintro e wh ⟨rfl, m9, rfl⟩
          replace HB := bdraw HB m9
          go_wp2
          go_ret
          exact ⟨rfl, HB⟩
end Go.Proofs.Ytapnidhokpkmdaa
