/- Rides of both texts. -/
import Derived.Test.YtcadgafenbmihaaP
import Derived.Deep.CutRange
namespace Go.Proofs.Ytcadgafenbmihaa
open Go.RowKit Fl

attribute [local go_sem] run_store_float

theorem Flts.lt {w : World} {a : Option Addr} {zs : List Nat} (h : Flts w a zs) : zs = [] ∨ ∃ b off, a = some ⟨b, off, none⟩ ∧ b < w.heap.size := by
  rcases h with h | ⟨b, off, ha, hc⟩
  · exact .inl h
  · by_cases h0 : zs = []
    · exact .inl h0
    · have : 0 < zs.length := List.length_pos_iff.2 h0
      exact .inr ⟨b, off, ha, cell_lt (hc 0 this)⟩
theorem info_parts2 {i? : Option TypeInfo} {z : Option Value} {s by' : Nat} (h : i?.map (fun i => (i.zero, i.size, i.bytes)) = some (z, s, by')) : ∃ i, i? = some i ∧ i.zero = z ∧ i.size = s ∧ i.bytes = by' := by
  cases i? with
  | none => cases h
  | some i => simp at h; exact ⟨i, rfl, h⟩

set_option maxHeartbeats 3200000 in
theorem c39 (l : LocoV) (a az : Option Addr) (cap cz v sp : Nat) (es : List CarV) (zs : List Nat) (w : World) (he : Cars w a es) (hl : es.length ≤ 1048576) (hz : Flts w az zs) (hzl : zs.length ≤ 1048576) : Calls Try.prog 39 #[LocoV.val l, .slice a es.length cap, .float .f64 v, .slice az zs.length cz, .float .f64 sp] w fun e w' => ∃ u, e = .returned u ∧
      w'.ownsRow w.heap.size 22 1 u (ride l es v zs sp).length ((ride l es v zs sp).map (Value.float .f64)) ∧ Below w.heap.size w w' := by
  obtain ⟨p, g⟩ := l
  unfold LocoV.val
  have hW := balloc w (.cells #[.float .f64 p, .float .f64 g] 33)
  cases h1 : locoOk ⟨p, g⟩
  · have R := hide (ride_no (l := ⟨p, g⟩) (es := es) (v := v) (zs := zs) (sp := sp) (by simp [rideOk, h1]))
    generalize ride ⟨p, g⟩ es v zs sp = r at *
    go_enter Try.func39, Try.ntmps39
    go_wp2_with fail
    refine (c22 ⟨p, g⟩ _).mono ?_
    rintro e w1 ⟨rfl, hb⟩
    rw [h1]
    have HB1 := btrans hW hb
    have X1 := Bx2.mk hb
    clear hb hW
    go_wp2
    go_ret
    exact ⟨_, rfl, by rw [R.out]; exact World.ownsRow_nil _ _ _ _, HB1⟩
  cases h2 : trainOk es
  · have R := hide (ride_no (l := ⟨p, g⟩) (es := es) (v := v) (zs := zs) (sp := sp) (by simp [rideOk, h1, h2]))
    generalize ride ⟨p, g⟩ es v zs sp = r at *
    go_enter Try.func39, Try.ntmps39
    go_wp2_with fail
    refine (c22 ⟨p, g⟩ _).mono ?_
    rintro e w1 ⟨rfl, hb⟩
    rw [h1]
    have HB1 := btrans hW hb
    have X1 := Bx2.mk hb
    clear hb hW
    go_wp2_with fail
    refine (c56 a cap es _ (he.below HB1) hl).mono ?_
    rintro e w2 ⟨rfl, hb⟩
    rw [h2]
    have HB2 := btrans HB1 hb
    have X2 := X1.below hb
    clear hb HB1 X1
    go_wp2
    go_ret
    exact ⟨_, rfl, by rw [R.out]; exact World.ownsRow_nil _ _ _ _, HB2⟩
  cases h3 : spd v
  · have R := hide (ride_no (l := ⟨p, g⟩) (es := es) (v := v) (zs := zs) (sp := sp) (by simp [rideOk, h1, h2, h3]))
    generalize ride ⟨p, g⟩ es v zs sp = r at *
    go_enter Try.func39, Try.ntmps39
    go_wp2_with fail
    refine (c22 ⟨p, g⟩ _).mono ?_
    rintro e w1 ⟨rfl, hb⟩
    rw [h1]
    have HB1 := btrans hW hb
    have X1 := Bx2.mk hb
    clear hb hW
    go_wp2_with fail
    refine (c56 a cap es _ (he.below HB1) hl).mono ?_
    rintro e w2 ⟨rfl, hb⟩
    rw [h2]
    have HB2 := btrans HB1 hb
    have X2 := X1.below hb
    clear hb HB1 X1
    go_wp2_with fail
    refine (c53 _ _).mono ?_
    rintro e w3 ⟨rfl, hw⟩
    subst hw
    rw [h3]
    go_wp2
    go_ret
    exact ⟨_, rfl, by rw [R.out]; exact World.ownsRow_nil _ _ _ _, HB2⟩
  cases h4 : spn sp
  · have R := hide (ride_no (l := ⟨p, g⟩) (es := es) (v := v) (zs := zs) (sp := sp) (by simp [rideOk, h1, h2, h3, h4]))
    generalize ride ⟨p, g⟩ es v zs sp = r at *
    go_enter Try.func39, Try.ntmps39
    go_wp2_with fail
    refine (c22 ⟨p, g⟩ _).mono ?_
    rintro e w1 ⟨rfl, hb⟩
    rw [h1]
    have HB1 := btrans hW hb
    have X1 := Bx2.mk hb
    clear hb hW
    go_wp2_with fail
    refine (c56 a cap es _ (he.below HB1) hl).mono ?_
    rintro e w2 ⟨rfl, hb⟩
    rw [h2]
    have HB2 := btrans HB1 hb
    have X2 := X1.below hb
    clear hb HB1 X1
    go_wp2_with fail
    refine (c53 _ _).mono ?_
    rintro e w3 ⟨rfl, hw⟩
    subst hw
    rw [h3]
    go_wp2_with fail
    refine (c59 _ _).mono ?_
    rintro e w3 ⟨rfl, hw⟩
    subst hw
    rw [h4]
    go_wp2
    go_ret
    exact ⟨_, rfl, by rw [R.out]; exact World.ownsRow_nil _ _ _ _, HB2⟩
  by_cases hn : 200 < zs.length
  · have R := hide (ride_no (l := ⟨p, g⟩) (es := es) (v := v) (zs := zs) (sp := sp) (by simp [rideOk]; intros; omega))
    generalize ride ⟨p, g⟩ es v zs sp = r at *
    have hn2 : (200 : Int) < (zs.length : Int) := by omega
    go_enter Try.func39, Try.ntmps39
    go_wp2_with fail
    refine (c22 ⟨p, g⟩ _).mono ?_
    rintro e w1 ⟨rfl, hb⟩
    rw [h1]
    have HB1 := btrans hW hb
    have X1 := Bx2.mk hb
    clear hb hW
    go_wp2_with fail
    refine (c56 a cap es _ (he.below HB1) hl).mono ?_
    rintro e w2 ⟨rfl, hb⟩
    rw [h2]
    have HB2 := btrans HB1 hb
    have X2 := X1.below hb
    clear hb HB1 X1
    go_wp2_with fail
    refine (c53 _ _).mono ?_
    rintro e w3 ⟨rfl, hw⟩
    subst hw
    rw [h3]
    go_wp2_with fail
    refine (c59 _ _).mono ?_
    rintro e w3 ⟨rfl, hw⟩
    subst hw
    rw [h4]
    go_wp2
    go_ret
    exact ⟨_, rfl, by rw [R.out]; exact World.ownsRow_nil _ _ _ _, HB2⟩
  have hn1 : (zs.length : Int) ≤ 200 := by omega
  cases h6 : zs.all slp
  · have R := hide (ride_no (l := ⟨p, g⟩) (es := es) (v := v) (zs := zs) (sp := sp) (by simp [rideOk, h6]))
    generalize ride ⟨p, g⟩ es v zs sp = r at *
    go_enter Try.func39, Try.ntmps39
    go_wp2_with fail
    refine (c22 ⟨p, g⟩ _).mono ?_
    rintro e w1 ⟨rfl, hb⟩
    rw [h1]
    have HB1 := btrans hW hb
    have X1 := Bx2.mk hb
    clear hb hW
    go_wp2_with fail
    refine (c56 a cap es _ (he.below HB1) hl).mono ?_
    rintro e w2 ⟨rfl, hb⟩
    rw [h2]
    have HB2 := btrans HB1 hb
    have X2 := X1.below hb
    clear hb HB1 X1
    go_wp2_with fail
    refine (c53 _ _).mono ?_
    rintro e w3 ⟨rfl, hw⟩
    subst hw
    rw [h3]
    go_wp2_with fail
    refine (c59 _ _).mono ?_
    rintro e w3 ⟨rfl, hw⟩
    subst hw
    rw [h4]
    go_wp2_with fail
    refine (c62l az cz zs _ (hz.below HB2) hzl).mono ?_
    rintro e w3 ⟨rfl, hw⟩
    subst hw
    rw [h6]
    go_wp2
    go_ret
    exact ⟨_, rfl, by rw [R.out]; exact World.ownsRow_nil _ _ _ _, HB2⟩
  have R := hide (ride_yes (l := ⟨p, g⟩) h1 h2 h3 h4 (show zs.length ≤ 200 by omega) h6)
  generalize ride ⟨p, g⟩ es v zs sp = r at *
  go_enter Try.func39, Try.ntmps39
  go_wp2_with fail
  refine (c22 ⟨p, g⟩ _).mono ?_
  rintro e w1 ⟨rfl, hb⟩
  rw [h1]
  have HB1 := btrans hW hb
  have X1 := Bx2.mk hb
  clear hb hW
  go_wp2_with fail
  refine (c56 a cap es _ (he.below HB1) hl).mono ?_
  rintro e w2 ⟨rfl, hb⟩
  rw [h2]
  have HB2 := btrans HB1 hb
  have X2 := X1.below hb
  clear hb HB1 X1
  go_wp2_with fail
  refine (c53 _ _).mono ?_
  rintro e w3 ⟨rfl, hw⟩
  subst hw
  rw [h3]
  go_wp2_with fail
  refine (c59 _ _).mono ?_
  rintro e w3 ⟨rfl, hw⟩
  subst hw
  rw [h4]
  go_wp2_with fail
  refine (c62l az cz zs _ (hz.below HB2) hzl).mono ?_
  rintro e w3 ⟨rfl, hw⟩
  subst hw
  rw [h6]
  obtain ⟨b0, b1⟩ := X2
  dsimp only at b0 b1
  go_wp2_with fail
  refine (c60 ⟨p, g⟩ a cap v sp es _ (he.below HB2) hl).mono ?_
  rintro e w4 ⟨b, rfl, hge, hT, hb⟩
  have HB4 := btrans HB2 hb
  have hwb := Nat.le_trans HB2.size hge
  have A1 : Apart a b ∨ es = [] := by
    rcases he.lt with h | ⟨b', off, rfl, hlt⟩
    · exact .inr h
    · refine .inl ?_; intro ad h; cases h; show b' ≠ b; omega
  have A2 : Apart az b ∨ zs = [] := by
    rcases hz.lt with h | ⟨b', off, rfl, hlt⟩
    · exact .inr h
    · refine .inl ?_; intro ad h; cases h; show b' ≠ b; omega
  have A1 : Apart a b := by
    rcases A1 with h | rfl
    · exact h
    · rw [show trainOk [] = false from rfl] at h2; cases h2
  clear hb HB2 b0 b1 hge
  go_wp2_with fail
  refine (c63 b 0 0 v sp ⟨p, g⟩ a az cap cz es zs _ hT (he.below HB4) A1 hl (hz.below HB4) A2 (by omega) h1 h2 h3 h4 h6).mono ?_
  rintro e w5 ⟨u, rfl, ho, hgr⟩
  have HB5 : Below w.heap.size w w5 := HB4.grown hgr HB4.size (fun k hk => by cases hk; exact hwb)
  have ho2 := Go.Joins.ownsRow_le ho HB4.size
  clear hgr hT ho
  go_wp2
  go_ret
  exact ⟨_, rfl, by rw [R.out, rides_len]; exact ho2, HB5⟩

set_option maxHeartbeats 6400000 in
theorem c37 (l : LocoV) (a az : Option Addr) (cap cz v sp : Nat) (es : List CarV) (zs : List Nat) (w : World) (he : Cars w a es) (hl : es.length ≤ 1048576) (hz : Flts w az zs) (hzl : zs.length ≤ 1048576) (h64 : ∀ c ∈ es, c.m < 2 ^ 64) : Calls Try.prog 37 #[LocoV.val l, .slice a es.length cap, .float .f64 v, .slice az zs.length cz, .float .f64 sp] w fun e w' => ∃ u, e = .returned u ∧
      w'.ownsRow w.heap.size 22 1 u (ride l es v zs sp).length ((ride l es v zs sp).map (Value.float .f64)) ∧ Below w.heap.size w w' := by
  obtain ⟨p, g⟩ := l
  unfold LocoV.val
  have hW := balloc w (.cells #[.float .f64 p, .float .f64 g] 33)
  cases h1 : locoOk ⟨p, g⟩
  · have R := hide (ride_no (l := ⟨p, g⟩) (es := es) (v := v) (zs := zs) (sp := sp) (by simp [rideOk, h1]))
    generalize ride ⟨p, g⟩ es v zs sp = r at *
    go_enter Try.func37, Try.ntmps37
    go_wp2_with fail
    refine (c20 ⟨p, g⟩ _).mono ?_
    rintro e w1 ⟨rfl, hb⟩
    rw [h1]
    have HB1 := btrans hW hb
    have X1 := Bx2.mk hb
    clear hb hW
    go_wp2
    go_ret
    exact ⟨_, rfl, by rw [R.out]; exact World.ownsRow_nil _ _ _ _, HB1⟩
  cases h2 : trainOk es
  · have R := hide (ride_no (l := ⟨p, g⟩) (es := es) (v := v) (zs := zs) (sp := sp) (by simp [rideOk, h1, h2]))
    generalize ride ⟨p, g⟩ es v zs sp = r at *
    go_enter Try.func37, Try.ntmps37
    go_wp2_with fail
    refine (c20 ⟨p, g⟩ _).mono ?_
    rintro e w1 ⟨rfl, hb⟩
    rw [h1]
    have HB1 := btrans hW hb
    have X1 := Bx2.mk hb
    clear hb hW
    go_wp2_with fail
    refine (c55 a cap es _ (he.below HB1) hl).mono ?_
    rintro e w2 ⟨rfl, hb⟩
    rw [h2]
    have HB2 := btrans HB1 hb
    have X2 := X1.below hb
    clear hb HB1 X1
    go_wp2
    go_ret
    exact ⟨_, rfl, by rw [R.out]; exact World.ownsRow_nil _ _ _ _, HB2⟩
  cases h3 : spd v
  · have R := hide (ride_no (l := ⟨p, g⟩) (es := es) (v := v) (zs := zs) (sp := sp) (by simp [rideOk, h1, h2, h3]))
    generalize ride ⟨p, g⟩ es v zs sp = r at *
    go_enter Try.func37, Try.ntmps37
    go_wp2_with fail
    refine (c20 ⟨p, g⟩ _).mono ?_
    rintro e w1 ⟨rfl, hb⟩
    rw [h1]
    have HB1 := btrans hW hb
    have X1 := Bx2.mk hb
    clear hb hW
    go_wp2_with fail
    refine (c55 a cap es _ (he.below HB1) hl).mono ?_
    rintro e w2 ⟨rfl, hb⟩
    rw [h2]
    have HB2 := btrans HB1 hb
    have X2 := X1.below hb
    clear hb HB1 X1
    go_wp2_with fail
    refine (c52 _ _).mono ?_
    rintro e w3 ⟨rfl, hw⟩
    subst hw
    rw [h3]
    go_wp2
    go_ret
    exact ⟨_, rfl, by rw [R.out]; exact World.ownsRow_nil _ _ _ _, HB2⟩
  cases h4 : spn sp
  · have R := hide (ride_no (l := ⟨p, g⟩) (es := es) (v := v) (zs := zs) (sp := sp) (by simp [rideOk, h1, h2, h3, h4]))
    generalize ride ⟨p, g⟩ es v zs sp = r at *
    go_enter Try.func37, Try.ntmps37
    go_wp2_with fail
    refine (c20 ⟨p, g⟩ _).mono ?_
    rintro e w1 ⟨rfl, hb⟩
    rw [h1]
    have HB1 := btrans hW hb
    have X1 := Bx2.mk hb
    clear hb hW
    go_wp2_with fail
    refine (c55 a cap es _ (he.below HB1) hl).mono ?_
    rintro e w2 ⟨rfl, hb⟩
    rw [h2]
    have HB2 := btrans HB1 hb
    have X2 := X1.below hb
    clear hb HB1 X1
    go_wp2_with fail
    refine (c52 _ _).mono ?_
    rintro e w3 ⟨rfl, hw⟩
    subst hw
    rw [h3]
    go_wp2_with fail
    refine (c15 sp 0 k10 _).mono ?_
    rintro e w3 ⟨rfl, hw⟩
    subst hw
    rw [show inR sp 0 k10 = _ from h4]
    go_wp2
    go_ret
    exact ⟨_, rfl, by rw [R.out]; exact World.ownsRow_nil _ _ _ _, HB2⟩
  by_cases hn : 200 < zs.length
  · have R := hide (ride_no (l := ⟨p, g⟩) (es := es) (v := v) (zs := zs) (sp := sp) (by simp [rideOk]; intros; omega))
    generalize ride ⟨p, g⟩ es v zs sp = r at *
    have hn2 : (200 : Int) < (zs.length : Int) := by omega
    go_enter Try.func37, Try.ntmps37
    go_wp2_with fail
    refine (c20 ⟨p, g⟩ _).mono ?_
    rintro e w1 ⟨rfl, hb⟩
    rw [h1]
    have HB1 := btrans hW hb
    have X1 := Bx2.mk hb
    clear hb hW
    go_wp2_with fail
    refine (c55 a cap es _ (he.below HB1) hl).mono ?_
    rintro e w2 ⟨rfl, hb⟩
    rw [h2]
    have HB2 := btrans HB1 hb
    have X2 := X1.below hb
    clear hb HB1 X1
    go_wp2_with fail
    refine (c52 _ _).mono ?_
    rintro e w3 ⟨rfl, hw⟩
    subst hw
    rw [h3]
    go_wp2_with fail
    refine (c15 sp 0 k10 _).mono ?_
    rintro e w3 ⟨rfl, hw⟩
    subst hw
    rw [show inR sp 0 k10 = _ from h4]
    go_wp2
    go_ret
    exact ⟨_, rfl, by rw [R.out]; exact World.ownsRow_nil _ _ _ _, HB2⟩
  have hn1 : (zs.length : Int) ≤ 200 := by omega
  have TB : ∀ k (hk : k < zs.length), slp zs[k] = false → ride ⟨p, g⟩ es v zs sp = [] := fun k hk h => ride_no (l := ⟨p, g⟩) (es := es) (v := v) (zs := zs) (sp := sp) (by simp [rideOk, all_bad hk h])
  have TS : ∀ k (hk : k < zs.length), (zs.take k).all slp = true → slp zs[k] = true → (zs.take (k + 1)).all slp = true := fun k hk h g => all_step hk h g
  have TA : (zs.take zs.length).all slp = true → ride ⟨p, g⟩ es v zs sp = rides ⟨p, g⟩ es sp v zs zs.length := fun h => ride_yes h1 h2 h3 h4 (by omega) (by rwa [List.take_length] at h)
  have hC : ∀ k (hk : k < zs.length) w' hz', Calls Try.prog 35 _ w' _ := fun k hk w' hz' => c35 ⟨p, g⟩ a cap (vAt ⟨p, g⟩ es sp v zs k) zs[k] sp es w' hz' hl h64
  have hC : ∀ k (hk : k < zs.length) w', Cars w' a es → Calls Try.prog 35 #[.agg #[.float .f64 p, .float .f64 g], .slice a es.length cap, .float .f64 (vAt ⟨p, g⟩ es sp v zs k), .float .f64 zs[k], .float .f64 sp] w' fun e w'' => e = .returned (.float .f64 (vAt ⟨p, g⟩ es sp v zs (k + 1))) ∧ Below w'.heap.size w' w'' := fun k hk w' hz' => by
    have := hC k hk w' hz'
    rw [← vAt_succ hk] at this
    exact this
  have hR := fun k => rides_succ ⟨p, g⟩ es sp v zs k
  have hR0 : rides ⟨p, g⟩ es sp v zs 0 = [] := rfl
  have hV0 : vAt ⟨p, g⟩ es sp v zs 0 = v := rfl
  have hRl := fun k => rides_len ⟨p, g⟩ es sp v zs k
  generalize vAt ⟨p, g⟩ es sp v zs = VA at *
  generalize rides ⟨p, g⟩ es sp v zs = RD at *
  obtain ⟨i0, hi, hz0, hz1, hz2⟩ := info_parts2 info22
  generalize ride ⟨p, g⟩ es v zs sp = r at *
  go_enter Try.func37, Try.ntmps37
  go_wp2_with fail
  refine (c20 ⟨p, g⟩ _).mono ?_
  rintro e w1 ⟨rfl, hb⟩
  rw [h1]
  have HB1 := btrans hW hb
  have X1 := Bx2.mk hb
  clear hb hW
  go_wp2_with fail
  refine (c55 a cap es _ (he.below HB1) hl).mono ?_
  rintro e w2 ⟨rfl, hb⟩
  rw [h2]
  have HB2 := btrans HB1 hb
  have X2 := X1.below hb
  clear hb HB1 X1
  go_wp2_with fail
  refine (c52 _ _).mono ?_
  rintro e w3 ⟨rfl, hw⟩
  subst hw
  rw [h3]
  go_wp2_with fail
  refine (c15 sp 0 k10 _).mono ?_
  rintro e w3 ⟨rfl, hw⟩
  subst hw
  rw [show inR sp 0 k10 = _ from h4]
  go_wp2
  go_loop [11] (fun i => ∃ k : Nat, k ≤ zs.length ∧ (zs.take k).all slp = true ∧ i = .int .i64 k) (fun i => zs.length - (intOf i).toNat)
  case atStart => exact ⟨0, Nat.zero_le _, rfl, rfl⟩
  case round =>
    obtain ⟨k, hk, hgo, rfl⟩ := hrel
    by_cases hlt : k < zs.length
    · rcases hz with hz | ⟨b, off, rfl, hc⟩
      · simp [hz] at hlt
      have q0 := ble HB2 (hc k hlt)
      have e0 : zs.getD k 0 = zs[k] := by simp [List.getD, hlt]
      rw [e0] at q0
      clear e0 hc TA hC hR hR0 hV0 hRl
      cases hs : slp zs[k]
      · have R := hide (TB k hlt hs)
        clear TB TS
        generalize zs[k] = z at *
        go_wp2_with fail
        refine (c15 z km1 k1 _).mono ?_
        rintro e w3 ⟨rfl, hw⟩
        subst hw
        rw [show inR z km1 k1 = _ from hs]
        go_wp2
        go_ret
        exact ⟨_, rfl, by rw [R.out]; exact World.ownsRow_nil _ _ _ _, HB2⟩
      · have hg2 := TS k hlt hgo hs
        clear TB TS
        generalize zs[k] = z at *
        go_wp2_with fail
        refine (c15 z km1 k1 _).mono ?_
        rintro e w3 ⟨rfl, hw⟩
        subst hw
        rw [show inR z km1 k1 = _ from hs]
        go_wp2
        go_round
        case rel => exact ⟨k + 1, by omega, hg2, by go_num⟩
        case measure => simp [intOf]; omega
    · obtain rfl : k = zs.length := by omega
      have R := hide (TA hgo)
      clear TA TB TS hgo
      have hbw := cell_lt X2.1
      go_wp2
      go_loopw [2, 12, 13] (fun vv o i wr => ∃ k : Nat, k ≤ zs.length ∧ i = .int .i64 k ∧ vv = .float .f64 (VA k) ∧ wr.ownsRow (w.heap.size + 1) 22 1 o k ((RD k).map (Value.float .f64)) ∧ Bx2 wr w.heap.size ⟨p, g⟩ ∧ Below w.heap.size w wr) (fun _ _ i _ => zs.length - (intOf i).toNat)
      case atStart => exact ⟨0, Nat.zero_le _, rfl, by rw [hV0], by rw [hR0]; exact World.ownsRow_made _ #[] 0 hbw (by omega) rfl, X2.below (balloc _ _), btrans HB2 (balloc _ _)⟩
      case round =>
        obtain ⟨k, hk, rfl, rfl, hown, X, HB⟩ := hrel
        clear X2 HB2 hbw
        by_cases hlt : k < zs.length
        · have hCk := fun w' hz' => hC k hlt w' hz'
          have hRk := hide (hR k)
          clear hC hR hR0 hV0 R
          rcases hz with hz | ⟨b, off, rfl, hc⟩
          · simp [hz] at hlt
          have q0 := ble HB (hc k hlt)
          have e0 : zs.getD k 0 = zs[k] := by simp [List.getD, hlt]
          rw [e0] at q0
          clear e0 hc
          generalize zs[k] = z at *
          generalize VA k = V0 at *
          generalize hV1 : VA (k + 1) = V1 at *
          replace hV1 := hide hV1
          obtain ⟨b0, b1⟩ := id X
          dsimp only at b0 b1
          have hbs := cell_lt q0
          have hbw := cell_lt b0
          have hk0 : (0 : Int) ≤ (k : Int) := by omega
          have hk1 : (k : Int) < (zs.length : Int) := by omega
          have hew := he.below HB
          go_upto_region 12 with fail
          go_cut [2] from 50 to 68 (fun vv wc => vv = .float .f64 V1 ∧ Below wr.heap.size wr wc)
          case first =>
            go_region_held3 (fun w' => w'.cell? ⟨w.heap.size, 0, none⟩ = some (.float .f64 p) ∧ w'.cell? ⟨w.heap.size, 1, none⟩ = some (.float .f64 g) ∧ w'.cell? ⟨b, off + k, none⟩ = some (.float .f64 z)) (go_keep) (first | (go_at_call 35; with_reducible refine (hCk _ (by first | with_reducible exact hew | with_reducible exact hew.below (Below.refl _ _).drew)).mono ?_; rintro e w3 ⟨rfl, hb⟩; have hb3 := undrew hb; obtain ⟨hc, hf⟩ := bcell hb3; clear hb))
            go_wp2_with fail
            go_meet
            exact ⟨rfl, hb3⟩
          case rest =>
            obtain ⟨rfl, hb⟩ := hcut
            have HB3 := btrans HB hb
            have X3 := X.below hb
            have hown3 := own_keep hown hb
            clear HB X hown hb b0 b1 q0 hbs hbw hCk hew
            have hsz := HB3.size
            have hsz2 := cell_lt X3.1
            go_wp2_with (at_builtin; refine wpList_append_own _ rfl _ _ 52 rfl (w.heap.size + 1) 22 i0 (.float .f64 0) 1 8 Try.underlying52 hi hz0 hz1 hz2 rfl (by decide) _ _ _ rfl (hown3.alloc _) ⟨wc.heap.size, 0, none⟩ 1 1 [.float .f64 V1] rfl rfl ?c1 ?c2 ?c3 ?c4 ?c5 ?_)
            case c1 =>
              intro j u hj
              match j, hj with
              | 0, hj => simp at hj; subst hj; simp [Addr.add]
            case c2 => intro u hu; simp at hu; subst hu; rfl
            case c3 => unfold maxLen; omega
            case c4 => omega
            case c5 => simp; omega
            intro v' w5 hown' hgrow _
            have hfrom := own_from hown3 (Nat.le_refl _)
            have hbel' : Below w.heap.size w w5 := (HB3.alloc hsz _).grown hgrow (by simp; omega) (fun j e => by have := hfrom j e; omega)
            have X5 : Bx2 w5 w.heap.size ⟨p, g⟩ := (X3.below (balloc _ _)).grow hgrow (fun h => by have := hfrom _ h.symm; omega)
            have hown2 : w5.ownsRow (w.heap.size + 1) 22 1 v' (k + 1) ((RD (k + 1)).map (Value.float .f64)) := by
              rw [hRk.out, List.map_append]; exact hown'
            clear hown3 hown' hgrow HB3 X3 hfrom
            go_wp2
            go_roundw
            case rel => exact ⟨k + 1, by omega, by go_num, by rw [hV1.out], hown2, X5, hbel'⟩
            case measure => simp [intOf]; omega
        · obtain rfl : k = zs.length := by omega
          go_wp2
          go_ret
          exact ⟨_, rfl, by rw [R.out, hRl]; exact Go.Joins.ownsRow_le hown (by omega), HB⟩

end Go.Proofs.Ytcadgafenbmihaa
