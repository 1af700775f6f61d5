/- Work done: both texts, and the walk of its law. -/
import Derived.Test.YtcadgafenbmihaaM
namespace Go.Proofs.Ytcadgafenbmihaa
open Go.RowKit Fl

attribute [local go_sem] run_store_float

def joulesFrom (l : LocoV) (sp s : Nat) (zs : List Nat) : Nat := zs.foldl (fun s v => fadd s (fmul (fmul (effort l v) v) sp)) s
theorem joulesFrom_app (l : LocoV) (sp s : Nat) (zs : List Nat) (v : Nat) : joulesFrom l sp s (zs ++ [v]) = fadd (joulesFrom l sp s zs) (fmul (fmul (effort l v) v) sp) := by simp [joulesFrom]
def joules (l : LocoV) (zs : List Nat) (sp : Nat) : Nat := if (locoOk l && decide (zs.length ≤ 200) && zs.all spd && spn sp) = true then joulesFrom l sp 0 zs else 0
theorem joules_no {l : LocoV} {zs : List Nat} {sp : Nat} (h : (locoOk l && decide (zs.length ≤ 200) && zs.all spd && spn sp) = false) : joules l zs sp = 0 := by unfold joules; rw [h]; rfl
theorem joules_yes {l : LocoV} {zs : List Nat} {sp : Nat} (h1 : locoOk l = true) (h2 : zs.length ≤ 200) (h3 : zs.all spd = true) (h4 : spn sp = true) : joules l zs sp = joulesFrom l sp 0 zs := by
  unfold joules; rw [h1, h3, h4, decide_eq_true h2]; rfl
theorem joules_part {l : LocoV} {v sp : Nat} (hv : spd v = true) (hp : spn sp = true) :
    floatBits .mul .f64 (effort l v) v = some (fmul (effort l v) v) ∧ floatBits .mul .f64 (fmul (effort l v) v) sp = some (fmul (fmul (effort l v) v) sp) ∧ Bd 1049 (fmul (fmul (effort l v) v) sp) := by
  obtain ⟨m1, m2⟩ := vmul 1045 (effort_bd l v) (spd_bd hv) (by decide) (by decide) (by decide) (by decide) (by decide) (by decide) (by decide)
  obtain ⟨n1, n2⟩ := vmul 1049 m2 (spn_bd hp) (by decide) (by decide) (by decide) (by decide) (by decide) (by decide) (by decide)
  exact ⟨m1, n1, n2⟩
theorem joules_bd (l : LocoV) (sp : Nat) (hp : spn sp = true) (zs : List Nat) : ∀ (s e : Nat), (∀ v ∈ zs, spd v = true) → Bd e s → 1049 ≤ e → e + zs.length < 2047 → Bd (e + zs.length) (joulesFrom l sp s zs) := by
  induction zs with
  | nil => intro s e _ h _ _; exact h
  | cons v zs ih =>
    intro s e hv h he h2
    have hl : (v :: zs).length = zs.length + 1 := rfl
    rw [hl] at h2
    obtain ⟨-, -, b⟩ := joules_part (l := l) (hv v (by simp)) hp
    obtain ⟨-, h1, -⟩ := vadd h (b.mono he) (by omega) (by omega)
    have h3 := ih _ (e + 1) (fun d hd => hv d (by simp [hd])) h1 (by omega) (by omega)
    rw [hl, show e + (zs.length + 1) = e + 1 + zs.length by omega]
    exact h3
theorem joules_step {l : LocoV} {zs : List Nat} {sp : Nat} (hn : zs.length ≤ 200) (h : zs.all spd = true) (hp : spn sp = true) {k : Nat} (hk : k < zs.length) :
    floatBits .mul .f64 (effort l zs[k]) zs[k] = some (fmul (effort l zs[k]) zs[k]) ∧ floatBits .mul .f64 (fmul (effort l zs[k]) zs[k]) sp = some (fmul (fmul (effort l zs[k]) zs[k]) sp) ∧
    floatBits .add .f64 (joulesFrom l sp 0 (zs.take k)) (fmul (fmul (effort l zs[k]) zs[k]) sp) = some (joulesFrom l sp 0 (zs.take (k + 1))) := by
  rw [List.all_eq_true] at h
  obtain ⟨a, b, c⟩ := joules_part (l := l) (h _ (List.getElem_mem hk)) hp
  have hlen : (zs.take k).length = k := by simp; omega
  have d := joules_bd l sp hp (zs.take k) 0 1049 (fun v hv => h v (List.mem_of_mem_take hv)) (bd0 _) (by decide) (by omega)
  rw [hlen] at d
  refine ⟨a, b, ?_⟩
  rw [List.take_succ_eq_append_getElem hk, joulesFrom_app]
  exact (vadd d (c.mono (by omega)) (by omega) (by omega)).1

set_option maxHeartbeats 3200000 in
theorem c46 (l : LocoV) (a : Option Addr) (cap sp : Nat) (zs : List Nat) (w : World) (hz : Flts w a zs) (hl : zs.length ≤ 1048576) :
    Calls Try.prog 46 #[LocoV.val l, .slice a zs.length cap, .float .f64 sp] w fun e w' => e = .returned (.float .f64 (joules l zs sp)) ∧ Below w.heap.size w w' := by
  obtain ⟨p, g⟩ := l
  unfold LocoV.val
  have hW := balloc w (.cells #[.float .f64 p, .float .f64 g] 33)
  cases h1 : locoOk ⟨p, g⟩
  · have R := hide (joules_no (l := ⟨p, g⟩) (zs := zs) (sp := sp) (by simp [h1]))
    generalize joules ⟨p, g⟩ zs sp = r at *
    go_enter Try.func46, Try.ntmps46
    go_wp2_with fail
    refine (c20 ⟨p, g⟩ _).mono ?_
    rintro e w1 ⟨rfl, hb⟩
    rw [h1]
    have HB1 := btrans hW hb
    have X1 := Bx2.mk hb
    clear hb hW
    go_wp2
    go_ret
    exact ⟨ret_fl R.out.symm, HB1⟩
  by_cases hn : 200 < zs.length
  · have R := hide (joules_no (l := ⟨p, g⟩) (zs := zs) (sp := sp) (by simp; omega))
    generalize joules ⟨p, g⟩ zs sp = r at *
    have hn2 : (200 : Int) < (zs.length : Int) := by omega
    go_enter Try.func46, Try.ntmps46
    go_wp2_with fail
    refine (c20 ⟨p, g⟩ _).mono ?_
    rintro e w1 ⟨rfl, hb⟩
    rw [h1]
    have HB1 := btrans hW hb
    have X1 := Bx2.mk hb
    clear hb hW
    go_wp2
    go_ret
    exact ⟨ret_fl R.out.symm, HB1⟩
  have hn1 : (zs.length : Int) ≤ 200 := by omega
  cases h5 : spn sp
  · have R := hide (joules_no (l := ⟨p, g⟩) (zs := zs) (sp := sp) (by simp [h5]))
    generalize joules ⟨p, g⟩ zs sp = r at *
    go_enter Try.func46, Try.ntmps46
    go_wp2_with fail
    refine (c20 ⟨p, g⟩ _).mono ?_
    rintro e w1 ⟨rfl, hb⟩
    rw [h1]
    have HB1 := btrans hW hb
    have X1 := Bx2.mk hb
    clear hb hW
    go_wp2_with fail
    refine (c15 sp 0 k10 _).mono ?_
    rintro e w3 ⟨rfl, hw⟩
    subst hw
    rw [show inR sp 0 k10 = _ from h5]
    go_wp2
    go_ret
    exact ⟨ret_fl R.out.symm, HB1⟩
  have TB : ∀ k (hk : k < zs.length), spd zs[k] = false → joules ⟨p, g⟩ zs sp = 0 := fun k hk h => joules_no (l := ⟨p, g⟩) (zs := zs) (sp := sp) (by simp [all_bad hk h])
  have TS : ∀ k (hk : k < zs.length), (zs.take k).all spd = true → spd zs[k] = true → (zs.take (k + 1)).all spd = true := fun k hk h g => all_step hk h g
  have TA : (zs.take zs.length).all spd = true → joules ⟨p, g⟩ zs sp = joulesFrom ⟨p, g⟩ sp 0 zs := fun h => joules_yes h1 (by omega) (by rwa [List.take_length] at h) h5
  have TW : (zs.take zs.length).all spd = true → ∀ k (hk : k < zs.length), _ := fun h k hk => joules_step (l := ⟨p, g⟩) (by omega) (by rwa [List.take_length] at h) h5 hk
  generalize joules ⟨p, g⟩ zs sp = r at *
  go_enter Try.func46, Try.ntmps46
  go_wp2_with fail
  refine (c20 ⟨p, g⟩ _).mono ?_
  rintro e w1 ⟨rfl, hb⟩
  rw [h1]
  have HB1 := btrans hW hb
  have X1 := Bx2.mk hb
  clear hb hW
  go_wp2_with fail
  refine (c15 sp 0 k10 _).mono ?_
  rintro e w3 ⟨rfl, hw⟩
  subst hw
  rw [show inR sp 0 k10 = _ from h5]
  go_wp2
  go_loop [7] (fun i => ∃ k : Nat, k ≤ zs.length ∧ (zs.take k).all spd = true ∧ i = .int .i64 k) (fun i => zs.length - (intOf i).toNat)
  case atStart => exact ⟨0, Nat.zero_le _, rfl, rfl⟩
  case round =>
    obtain ⟨k, hk, hgo, rfl⟩ := hrel
    by_cases hlt : k < zs.length
    · rcases hz with hz | ⟨b, off, rfl, hc⟩
      · simp [hz] at hlt
      have q0 := ble HB1 (hc k hlt)
      have e0 : zs.getD k 0 = zs[k] := by simp [List.getD, hlt]
      rw [e0] at q0
      clear e0 hc TA TW
      cases hs : spd zs[k]
      · have R := hide (TB k hlt hs)
        clear TB TS
        generalize zs[k] = z at *
        go_wp2_with fail
        refine (c52 _ _).mono ?_
        rintro e w3 ⟨rfl, hw⟩
        subst hw
        rw [hs]
        go_wp2
        go_ret
        exact ⟨ret_fl R.out.symm, HB1⟩
      · have hg2 := TS k hlt hgo hs
        clear TB TS
        generalize zs[k] = z at *
        go_wp2_with fail
        refine (c52 _ _).mono ?_
        rintro e w3 ⟨rfl, hw⟩
        subst hw
        rw [hs]
        go_wp2
        go_round
        case rel => exact ⟨k + 1, by omega, hg2, by go_num⟩
        case measure => simp [intOf]; omega
    · obtain rfl : k = zs.length := by omega
      have R := hide (TA hgo)
      have WS := TW hgo
      clear TA TB TS hgo TW
      go_wp2
      go_loopw [8, 9, 10, 11] (fun s i _ _ wr => ∃ k : Nat, k ≤ zs.length ∧ i = .int .i64 k ∧ s = .float .f64 (joulesFrom ⟨p, g⟩ sp 0 (zs.take k)) ∧ Bx2 wr w.heap.size ⟨p, g⟩ ∧ Below w.heap.size w wr) (fun _ i _ _ _ => zs.length - (intOf i).toNat)
      case atStart => exact ⟨0, Nat.zero_le _, rfl, rfl, X1, HB1⟩
      case round =>
        obtain ⟨k, hk, rfl, rfl, X, HB⟩ := hrel
        by_cases hlt : k < zs.length
        · rcases hz with hz | ⟨b, off, rfl, hc⟩
          · simp [hz] at hlt
          have q0 := ble HB (hc k hlt)
          have e0 : zs.getD k 0 = zs[k] := by simp [List.getD, hlt]
          rw [e0] at q0
          obtain ⟨u1, u2, u3⟩ := WS k hlt
          have o1 := fop u1
          have o2 := fop u2
          have o3 := fop u3
          clear e0 hc WS R u1 u2 u3
          have CE := fun w' => c26 ⟨p, g⟩ zs[k] w'
          unfold LocoV.val at CE
          generalize effort ⟨p, g⟩ zs[k] = ef at *
          generalize zs[k] = z at *
          obtain ⟨b0, b1⟩ := id X
          dsimp only at b0 b1
          have hbs := cell_lt q0
          have hbw := cell_lt b0
          have hk0 : (0 : Int) ≤ (k : Int) := by omega
          have hk1 : (k : Int) < (zs.length : Int) := by omega
          go_wp2_with fail
          go_region_held3 (fun w' => w'.cell? ⟨w.heap.size, 0, none⟩ = some (.float .f64 p) ∧ w'.cell? ⟨w.heap.size, 1, none⟩ = some (.float .f64 g) ∧ w'.cell? ⟨b, off + k, none⟩ = some (.float .f64 z)) (go_keep) (first | (go_at_call 26; with_reducible refine (CE _).mono ?_; rintro e w3 ⟨rfl, hb⟩; have hb := undrew hb; have HB3 := btrans HB hb; have X3 := X.below hb; obtain ⟨hc, hf⟩ := bcell hb; clear hb))
          go_wp2
          go_roundw
          case rel => exact ⟨k + 1, by omega, by go_num, rfl, X3, HB3⟩
          case measure => simp [intOf]; omega
        · obtain rfl : k = zs.length := by omega
          clear WS
          go_wp2
          go_ret
          exact ⟨ret_fl (by first | exact R.out.symm | (rw [List.take_length]; exact R.out.symm)), HB⟩

set_option maxHeartbeats 3200000 in
theorem c47 (l : LocoV) (a : Option Addr) (cap sp : Nat) (zs : List Nat) (w : World) (hz : Flts w a zs) (hl : zs.length ≤ 1048576) :
    Calls Try.prog 47 #[LocoV.val l, .slice a zs.length cap, .float .f64 sp] w fun e w' => e = .returned (.float .f64 (joules l zs sp)) ∧ Below w.heap.size w w' := by
  obtain ⟨p, g⟩ := l
  unfold LocoV.val
  have hW := balloc w (.cells #[.float .f64 p, .float .f64 g] 33)
  cases h1 : locoOk ⟨p, g⟩
  · have R := hide (joules_no (l := ⟨p, g⟩) (zs := zs) (sp := sp) (by simp [h1]))
    generalize joules ⟨p, g⟩ zs sp = r at *
    go_enter Try.func47, Try.ntmps47
    go_wp2_with fail
    refine (c22 ⟨p, g⟩ _).mono ?_
    rintro e w1 ⟨rfl, hb⟩
    rw [h1]
    have HB1 := btrans hW hb
    have X1 := Bx2.mk hb
    clear hb hW
    go_wp2
    go_ret
    exact ⟨ret_fl R.out.symm, HB1⟩
  by_cases hn : 200 < zs.length
  · have R := hide (joules_no (l := ⟨p, g⟩) (zs := zs) (sp := sp) (by simp; omega))
    generalize joules ⟨p, g⟩ zs sp = r at *
    have hn2 : (200 : Int) < (zs.length : Int) := by omega
    go_enter Try.func47, Try.ntmps47
    go_wp2_with fail
    refine (c22 ⟨p, g⟩ _).mono ?_
    rintro e w1 ⟨rfl, hb⟩
    rw [h1]
    have HB1 := btrans hW hb
    have X1 := Bx2.mk hb
    clear hb hW
    go_wp2
    go_ret
    exact ⟨ret_fl R.out.symm, HB1⟩
  have hn1 : (zs.length : Int) ≤ 200 := by omega
  cases h3 : zs.all spd
  · have R := hide (joules_no (l := ⟨p, g⟩) (zs := zs) (sp := sp) (by simp [h3]))
    generalize joules ⟨p, g⟩ zs sp = r at *
    go_enter Try.func47, Try.ntmps47
    go_wp2_with fail
    refine (c22 ⟨p, g⟩ _).mono ?_
    rintro e w1 ⟨rfl, hb⟩
    rw [h1]
    have HB1 := btrans hW hb
    have X1 := Bx2.mk hb
    clear hb hW
    go_wp2_with fail
    refine (c62s a cap zs _ (hz.below HB1) hl).mono ?_
    rintro e w3 ⟨rfl, hw⟩
    subst hw
    rw [h3]
    go_wp2
    go_ret
    exact ⟨ret_fl R.out.symm, HB1⟩
  cases h5 : spn sp
  · have R := hide (joules_no (l := ⟨p, g⟩) (zs := zs) (sp := sp) (by simp [h5]))
    generalize joules ⟨p, g⟩ zs sp = r at *
    go_enter Try.func47, Try.ntmps47
    go_wp2_with fail
    refine (c22 ⟨p, g⟩ _).mono ?_
    rintro e w1 ⟨rfl, hb⟩
    rw [h1]
    have HB1 := btrans hW hb
    have X1 := Bx2.mk hb
    clear hb hW
    go_wp2_with fail
    refine (c62s a cap zs _ (hz.below HB1) hl).mono ?_
    rintro e w3 ⟨rfl, hw⟩
    subst hw
    rw [h3]
    go_wp2_with fail
    refine (c59 _ _).mono ?_
    rintro e w3 ⟨rfl, hw⟩
    subst hw
    rw [h5]
    go_wp2
    go_ret
    exact ⟨ret_fl R.out.symm, HB1⟩
  have R := hide (joules_yes (l := ⟨p, g⟩) h1 (show zs.length ≤ 200 by omega) h3 h5)
  have WS : ∀ k (hk : k < zs.length), _ := fun k hk => joules_step (l := ⟨p, g⟩) (by omega) h3 h5 hk
  generalize joules ⟨p, g⟩ zs sp = r at *
  go_enter Try.func47, Try.ntmps47
  go_wp2_with fail
  refine (c22 ⟨p, g⟩ _).mono ?_
  rintro e w1 ⟨rfl, hb⟩
  rw [h1]
  have HB1 := btrans hW hb
  have X1 := Bx2.mk hb
  clear hb hW
  go_wp2_with fail
  refine (c62s a cap zs _ (hz.below HB1) hl).mono ?_
  rintro e w3 ⟨rfl, hw⟩
  subst hw
  rw [h3]
  go_wp2_with fail
  refine (c59 _ _).mono ?_
  rintro e w3 ⟨rfl, hw⟩
  subst hw
  rw [h5]
  go_wp2
  go_loopw [7, 9, 30] (fun s _ i wr => ∃ k : Nat, k ≤ zs.length ∧ i = .int .i64 k ∧ s = .float .f64 (joulesFrom ⟨p, g⟩ sp 0 (zs.take k)) ∧ Bx2 wr w.heap.size ⟨p, g⟩ ∧ Below w.heap.size w wr) (fun _ _ i _ => zs.length - (intOf i).toNat)
  case atStart => exact ⟨0, Nat.zero_le _, rfl, rfl, X1, HB1⟩
  case round =>
    obtain ⟨k, hk, rfl, rfl, X, HB⟩ := hrel
    by_cases hlt : k < zs.length
    · rcases hz with hz | ⟨b, off, rfl, hc⟩
      · simp [hz] at hlt
      have q0 := ble HB (hc k hlt)
      have e0 : zs.getD k 0 = zs[k] := by simp [List.getD, hlt]
      rw [e0] at q0
      obtain ⟨u1, u2, u3⟩ := WS k hlt
      have o3 := fop u3
      clear e0 hc WS R u3
      have CE := fun w' => c27 ⟨p, g⟩ zs[k] w'
      unfold LocoV.val at CE
      generalize effort ⟨p, g⟩ zs[k] = ef at *
      generalize zs[k] = z at *
      obtain ⟨b0, b1⟩ := id X
      dsimp only at b0 b1
      go_wp2_with fail
      clear b0 b1
      refine (CE _).mono ?_
      rintro e w3 ⟨rfl, hb⟩
      have HB3 := btrans HB hb
      have X3 := X.below hb
      clear hb HB X CE
      go_wp2_with fail
      refine (c54 _ _ _ _ u1).mono ?_
      rintro e w4 ⟨rfl, hw⟩
      subst hw
      go_wp2_with fail
      refine (c54 _ _ _ _ u2).mono ?_
      rintro e w4 ⟨rfl, hw⟩
      subst hw
      clear u1 u2
      go_wp2
      go_roundw
      case rel => exact ⟨k + 1, by omega, by go_num, rfl, X3, HB3⟩
      case measure => simp [intOf]; omega
    · obtain rfl : k = zs.length := by omega
      clear WS
      go_wp2
      go_ret
      exact ⟨ret_fl (by first | exact R.out.symm | (rw [List.take_length]; exact R.out.symm)), HB⟩

set_option maxHeartbeats 3200000 in
theorem walk13 (l : LocoV) (a : Option Addr) (cap sp : Nat) (zs : List Nat) (w : World) (hz : Flts w a zs) (hm : zs.length ≤ maxLen) :
    Calls Try.prog 13 #[LocoV.val l, .slice a zs.length cap, .float .f64 sp] w fun e w' => e = .returned (.bool true) ∧ Below w.heap.size w w' := by
  have hm' := hm
  unfold maxLen at hm'
  have CS := fun a cap w hz hl => c46 l a cap sp zs w hz hl
  have CI := fun a cap w hz hl => c47 l a cap sp zs w hz hl
  obtain ⟨p, g⟩ := l
  unfold LocoV.val at *
  by_cases hl2 : 1048576 < zs.length
  · go_enter Try.func13, Try.ntmps13
    go_wp2
    go_ret
    exact ⟨rfl, balloc _ _⟩
  have hl : zs.length ≤ 1048576 := by omega
  go_enter Try.func13, Try.ntmps13
  go_wp2_with fail
  refine (c21 ⟨p, g⟩ _).mono ?_
  rintro e w2 ⟨rfl, hb⟩
  have HB2 := btrans (balloc w (.cells #[.float .f64 p, .float .f64 g] 31)) hb
  have X2 := Bx2.mk hb
  clear hb
  go_wp2_with fail
  refine (c38 a cap zs _ (hz.below HB2) hl).mono ?_
  rintro e w3 ⟨g1, rfl, oz, hg, hb⟩
  clear hg
  have HB3 := btrans HB2 hb
  have X3 := X2.below hb
  clear hb HB2 X2
  unfold LocoV.val
  go_wp2_with fail
  refine (CS _ _ _ (Flts.of_owns oz) hl).mono ?_
  rintro e w4 ⟨rfl, hb⟩
  have HB4 := btrans HB3 hb
  have X4 := X3.below hb
  clear hb HB3 X3 oz CS
  go_wp2_with fail
  refine (c38 a cap zs _ (hz.below HB4) hl).mono ?_
  rintro e w5 ⟨g2, rfl, ox, hg, hb⟩
  clear hg
  have HB5 := btrans HB4 hb
  have X5 := X4.below hb
  clear hb HB4 X4
  obtain ⟨b0, b1⟩ := id X5
  dsimp only at b0 b1
  go_wp2_with fail
  clear b0 b1
  refine (c21 ⟨p, g⟩ _).mono ?_
  rintro e w6 ⟨rfl, hb⟩
  have HB6 := btrans HB5 hb
  have ox6 := owns_below ox hb
  clear hb HB5 ox X5
  unfold LocoV.val
  go_wp2_with fail
  refine (CI _ _ _ (Flts.of_owns ox6) hl).mono ?_
  rintro e w7 ⟨rfl, hb⟩
  have HB7 := btrans HB6 hb
  have ox7 := owns_below ox6 hb
  clear hb HB6 ox6 CI
  go_wp2_with fail
  refine (c25 _ _).mono ?_
  rintro e w8 ⟨rfl, hw⟩
  subst hw
  go_wp2_with fail
  refine (c38 a cap zs _ (hz.below HB7) hl).mono ?_
  rintro e w9 ⟨g3, rfl, oy, hg, hb⟩
  clear hg
  have HB9 := btrans HB7 hb
  have ox9 := owns_below ox7 hb
  clear hb HB7 ox7
  go_wp2_with fail
  refine (c40 _ _ _ _ zs _ (Flts.of_owns ox9) (Flts.of_owns oy) hm).mono ?_
  rintro e w10 ⟨rfl, hb⟩
  have HB10 := btrans HB9 hb
  clear hb HB9
  go_wp2
  go_ret
  exact ⟨rfl, HB10⟩

end Go.Proofs.Ytcadgafenbmihaa
