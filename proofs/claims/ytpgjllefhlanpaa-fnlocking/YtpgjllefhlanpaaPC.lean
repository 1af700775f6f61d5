/- The model's PlayLock. -/
import Derived.Test.YtpgjllefhlanpaaPB
import Derived.Test.YtpgjllefhlanpaaSB
import Derived.Test.YtpgjllefhlanpaaSO
import Derived.Test.YtpgjllefhlanpaaSR
import Derived.Test.YtpgjllefhlanpaaSS
import Derived.Test.YtpgjllefhlanpaaST2
import Derived.Maps.AppendAt
namespace Go.Proofs.Ytpgjllefhlanpaa
open Go.RowKit

theorem RowZ.grown {w w' : World} {lo hi T : Nat} {v u : Value} {xs : List Value} (h : RowZ w lo hi T v xs) (hg : w.grownBy w' u.ownBlock) (hd : ∀ k, u.ownBlock = some k → k < lo ∨ hi ≤ k) : RowZ w' lo hi T v xs := by
  rcases h with h | ⟨h1, h2, h3⟩
  · exact .inl h
  · exact .inr ⟨h1, own_grown h2 hg (fun k hk e => by have := own_from h2 (Nat.le_refl _) k hk; have := h3 k hk; have := hd k e; omega), h3⟩
theorem LockOwn.grown {w w' : World} {lo hi ca cb cc : Nat} {a b c : Option Addr} {l : LockV} {u : Value} (h : LockOwn w lo hi a ca b cb c cc l) (hg : w.grownBy w' u.ownBlock) (hd : ∀ k, u.ownBlock = some k → k < lo ∨ hi ≤ k) : LockOwn w' lo hi a ca b cb c cc l :=
  ⟨h.pos.grown hg hd, h.set.grown hg hd, h.taken.grown hg hd, h.ps, h.pt, h.st⟩
/-- What the model's play answers: read, and in no older memory. -/
def PlayedS (w w' : World) (p : PlantV) (os : List OpV) (e : Ending) : Prop :=
  ∃ x cx y cy z cz g cg, e = .returned (.tuple #[lockVal x cx y cy z cz (playL p os), .slice g (playC p os).length cg]) ∧ LockOwn w' w.heap.size w'.heap.size x cx y cy z cz (playL p os) ∧
    RowZ w' w.heap.size w'.heap.size 3 (.slice g (playC p os).length cg) ((playC p os).map (.int .i64)) ∧ Below w.heap.size w w'
set_option maxRecDepth 20000 in
set_option maxHeartbeats 12800000 in
theorem cPlayS (a b q : Option Addr) (ca cb cq : Nat) (p : PlantV) (os : List OpV) (w : World) (hP : PlantIn w a b p) (hO : Ops w q os) (hS : Small p) :
    Calls Try.prog 15 #[plantVal a ca b cb p, .slice q os.length cq] w fun e w' => PlayedS w w' p os e := by
  have CP := fun w hP => cPlantOkS a b ca cb p w hP hS
  have CB := fun (h : plantOk p = true) w hP => (show Calls Try.prog 31 #[plantVal a ca b cb p] w _ from (bare_lk os h) ▸ cBareS a b ca cb p w hP hS)
  have C0 : ∀ k, k < os.length → kindOf (os.getD k OpV.zero).kind = .req → LSmall (lk p os k) → ∀ (x y z : Option Addr) (cx cy cz : Nat) (w : World), PlantIn w a b p → LockIn w x y z (lk p os k) → Calls Try.prog 32 #[plantVal a ca b cb p, lockVal x cx y cy z cz (lk p os k), .int .i64 (os.getD k OpV.zero).what] w fun e w' => ∃ x' cx' y' cy' z' cz', e = .returned (.tuple #[lockVal x' cx' y' cy' z' cz' (lk p os (k + 1)), .int .i64 (cd p os k)]) ∧
      LockOwn w' w.heap.size w'.heap.size x' cx' y' cy' z' cz' (lk p os (k + 1)) ∧ Below w.heap.size w w' := by
    intro k hk hkd hT x y z cx cy cz w hP hL
    have := cReqS (os.getD k OpV.zero).what a b x y z ca cb cx cy cz p (lk p os k) w hP hL hS hT
    rw [← hkd, lk_step hk] at this
    exact this
  have C1 : ∀ k, k < os.length → kindOf (os.getD k OpV.zero).kind = .occ → LSmall (lk p os k) → ∀ (x y z : Option Addr) (cx cy cz : Nat) (w : World), PlantIn w a b p → LockIn w x y z (lk p os k) → Calls Try.prog 33 #[plantVal a ca b cb p, lockVal x cx y cy z cz (lk p os k), .int .i64 (os.getD k OpV.zero).what] w fun e w' => ∃ x' cx' y' cy' z' cz', e = .returned (.tuple #[lockVal x' cx' y' cy' z' cz' (lk p os (k + 1)), .int .i64 (cd p os k)]) ∧
      LockOwn w' w.heap.size w'.heap.size x' cx' y' cy' z' cz' (lk p os (k + 1)) ∧ Below w.heap.size w w' := by
    intro k hk hkd hT x y z cx cy cz w hP hL
    have := cOccS (os.getD k OpV.zero).what a b x y z ca cb cx cy cz p (lk p os k) w hP hL hS hT
    rw [← hkd, lk_step hk] at this
    exact this
  have C2 : ∀ k, k < os.length → kindOf (os.getD k OpV.zero).kind = .vac → LSmall (lk p os k) → ∀ (x y z : Option Addr) (cx cy cz : Nat) (w : World), PlantIn w a b p → LockIn w x y z (lk p os k) → Calls Try.prog 34 #[plantVal a ca b cb p, lockVal x cx y cy z cz (lk p os k), .int .i64 (os.getD k OpV.zero).what] w fun e w' => ∃ x' cx' y' cy' z' cz', e = .returned (.tuple #[lockVal x' cx' y' cy' z' cz' (lk p os (k + 1)), .int .i64 (cd p os k)]) ∧
      LockOwn w' w.heap.size w'.heap.size x' cx' y' cy' z' cz' (lk p os (k + 1)) ∧ Below w.heap.size w w' := by
    intro k hk hkd hT x y z cx cy cz w hP hL
    have := cVacS (os.getD k OpV.zero).what a b x y z ca cb cx cy cz p (lk p os k) w hP hL hS hT
    rw [← hkd, lk_step hk] at this
    exact this
  have C3 : ∀ k, k < os.length → kindOf (os.getD k OpV.zero).kind = .wd → LSmall (lk p os k) → ∀ (x y z : Option Addr) (cx cy cz : Nat) (w : World), PlantIn w a b p → LockIn w x y z (lk p os k) → Calls Try.prog 35 #[plantVal a ca b cb p, lockVal x cx y cy z cz (lk p os k), .int .i64 (os.getD k OpV.zero).what] w fun e w' => ∃ x' cx' y' cy' z' cz', e = .returned (.tuple #[lockVal x' cx' y' cy' z' cz' (lk p os (k + 1)), .int .i64 (cd p os k)]) ∧
      LockOwn w' w.heap.size w'.heap.size x' cx' y' cy' z' cz' (lk p os (k + 1)) ∧ Below w.heap.size w w' := by
    intro k hk hkd hT x y z cx cy cz w hP hL
    have := cWdS (os.getD k OpV.zero).what a b x y z ca cb cx cy cz p (lk p os k) w hP hL hS hT
    rw [← hkd, lk_step hk] at this
    exact this
  unfold PlayedS
  unfold plantVal lockVal at *
  have HB := btrans (balloc w (.cells #[.slice a p.under.length ca, .int .i64 p.blocks, .slice b p.routes.length cb] 27)) (balloc _ (.cells #[.slice none 0 0, .slice none 0 0, .slice none 0 0] 33))
  have K0 : ((w.alloc (.cells #[.slice a p.under.length ca, .int .i64 p.blocks, .slice b p.routes.length cb] 27)).alloc (.cells #[.slice none 0 0, .slice none 0 0, .slice none 0 0] 33)).heap[w.heap.size]? = some (.cells #[.slice a p.under.length ca, .int .i64 p.blocks, .slice b p.routes.length cb] 27 (0, 0)) := two_blocks1 _ _ _
  have K1 : ((w.alloc (.cells #[.slice a p.under.length ca, .int .i64 p.blocks, .slice b p.routes.length cb] 27)).alloc (.cells #[.slice none 0 0, .slice none 0 0, .slice none 0 0] 33)).heap[w.heap.size + 1]? = some (.cells #[.slice none 0 0, .slice none 0 0, .slice none 0 0] 33 (0, 0)) := two_blocks2 _ _ _
  go_enter Try.func15, Try.ntmps15
  go_wp2_with fail
  refine (CP _ (hP.below HB)).mono ?_
  rintro e w1 ⟨rfl, hb⟩
  replace K0 := blk_keep hb K0
  replace K1 := blk_keep hb K1
  replace HB := btrans HB hb
  clear hb CP
  cases hok : plantOk p
  · have hQ := hide (play_no (os := os) (show playOk p os = false by unfold playOk; rw [hok]; rfl))
    replace hok := hide hok
    obtain ⟨⟨z0, z1, z2⟩, y0, y1, y2⟩ := blk3 K1
    have mB := below_set (o := 2) (v := .slice none 0 0) (b := w.heap.size + 1) (by omega) (below_set (o := 1) (v := .slice none 0 0) (b := w.heap.size + 1) (by omega) (below_set (o := 0) (v := .slice none 0 0) (b := w.heap.size + 1) (by omega) HB))
    have sB := mB.size
    go_wp2_with fail
    refine bodyPost_ret (v := .tuple #[.agg #[.slice none 0 0, .slice none 0 0, .slice none 0 0], .slice none 0 0]) (by simp [results, Try.results15, go_sem, z0, z1, z2]) rfl ?_
    refine ⟨none, 0, none, 0, none, 0, none, 0, by rw [hQ.out.1, hQ.out.2]; rfl, by rw [hQ.out.1]; exact ⟨.inl ⟨rfl, _, _, rfl⟩, .inl ⟨rfl, _, _, rfl⟩, .inl ⟨rfl, _, _, rfl⟩, (fun h => absurd rfl h), (fun h => absurd rfl h), (fun h => absurd rfl h)⟩, by rw [hQ.out.2]; exact .inl ⟨rfl, _, _, rfl⟩, mB⟩
  by_cases hle : os.length ≤ 300
  case neg =>
    have hQ := hide (play_no (p := p) (os := os) (show playOk p os = false by unfold playOk; simp [hle]))
    have hg : (300 : Int) < (os.length : Int) := by omega
    replace hok := hide hok
    clear hle
    obtain ⟨⟨z0, z1, z2⟩, y0, y1, y2⟩ := blk3 K1
    have mB := below_set (o := 2) (v := .slice none 0 0) (b := w.heap.size + 1) (by omega) (below_set (o := 1) (v := .slice none 0 0) (b := w.heap.size + 1) (by omega) (below_set (o := 0) (v := .slice none 0 0) (b := w.heap.size + 1) (by omega) HB))
    have sB := mB.size
    go_wp2_with fail
    refine bodyPost_ret (v := .tuple #[.agg #[.slice none 0 0, .slice none 0 0, .slice none 0 0], .slice none 0 0]) (by simp [results, Try.results15, go_sem, z0, z1, z2]) rfl ?_
    refine ⟨none, 0, none, 0, none, 0, none, 0, by rw [hQ.out.1, hQ.out.2]; rfl, by rw [hQ.out.1]; exact ⟨.inl ⟨rfl, _, _, rfl⟩, .inl ⟨rfl, _, _, rfl⟩, .inl ⟨rfl, _, _, rfl⟩, (fun h => absurd rfl h), (fun h => absurd rfl h), (fun h => absurd rfl h)⟩, by rw [hQ.out.2]; exact .inl ⟨rfl, _, _, rfl⟩, mB⟩
  have hQ := hide (play_yes hok hle)
  have hg : ¬ ((300 : Int) < (os.length : Int)) := by omega
  have hg2 : (os.length : Int) ≤ 300 := by omega
  replace CB := fun w hP => CB hok w hP
  have hT := lk_small (os := os) hok hS
  replace hok := hide hok
  have hK1 := lt_of_block K1
  replace C0 := fun k hk hkd => C0 k hk hkd (hT k)
  replace C1 := fun k hk hkd => C1 k hk hkd (hT k)
  replace C2 := fun k hk hkd => C2 k hk hkd (hT k)
  replace C3 := fun k hk hkd => C3 k hk hkd (hT k)
  obtain ⟨i0, hi, hz0, hz1, hz2⟩ := info_parts2 infoInts
  obtain ⟨⟨z0, z1, z2⟩, -⟩ := blk3 K0
  go_wp2_with fail
  refine (CB _ (hP.below HB)).mono ?_
  rintro e w2 ⟨x0, cx0, y0, cy0, z0', cz0, rfl, O0, hb⟩
  clear z0 z1 z2 CB
  have t2 := hb.size
  have hba := btrans (balloc w2 (.cells #[.slice x0 (lk p os 0).pos.length cx0, .slice y0 (lk p os 0).set.length cy0, .slice z0' (lk p os 0).taken.length cz0] 33)) (balloc _ (.cells #[] 3))
  have kl0 : ((w2.alloc (.cells #[.slice x0 (lk p os 0).pos.length cx0, .slice y0 (lk p os 0).set.length cy0, .slice z0' (lk p os 0).taken.length cz0] 33)).alloc (.cells #[] 3)).heap[w2.heap.size]? = some (.cells #[.slice x0 (lk p os 0).pos.length cx0, .slice y0 (lk p os 0).set.length cy0, .slice z0' (lk p os 0).taken.length cz0] 33 (0, 0)) := two_blocks1 _ _ _
  have kc0 : ((w2.alloc (.cells #[.slice x0 (lk p os 0).pos.length cx0, .slice y0 (lk p os 0).set.length cy0, .slice z0' (lk p os 0).taken.length cz0] 33)).alloc (.cells #[] 3)).heap[w2.heap.size + 1]? = some (.cells #[] 3 (0, 0)) := two_blocks2 _ _ _
  replace K0 := blk_keep hba (blk_keep hb K0)
  replace K1 := blk_keep hba (blk_keep hb K1)
  replace HB := btrans HB (btrans hb hba)
  replace O0 := O0.below hba
  have t3 := hba.size
  have oc0 := ownBlk (n := 0) kc0 (Nat.le_refl _) (by unfold maxLen; omega) rfl
  clear hb kc0 hba
  go_wp2_with fail
  generalize hbl0 : w2.heap.size = bl at *
  replace hbl0 := Nat.le_of_eq hbl0
  go_loopw [7, 8] (fun o i wr => ∃ (k : Nat) (x : Option Addr) (cx : Nat) (y : Option Addr) (cy : Nat) (z : Option Addr) (cz lo hi : Nat), k ≤ os.length ∧ i = .int .i64 k ∧ wr.heap[w.heap.size]? = some (.cells #[.slice a p.under.length ca, .int .i64 p.blocks, .slice b p.routes.length cb] 27 (0, 0)) ∧ wr.heap[w.heap.size + 1]? = some (.cells #[.slice none 0 0, .slice none 0 0, .slice none 0 0] 33 (0, 0)) ∧ wr.heap[bl]? = some (.cells #[.slice x (lk p os k).pos.length cx, .slice y (lk p os k).set.length cy, .slice z (lk p os k).taken.length cz] 33 (0, 0)) ∧ wr.ownsRow (bl + 1) 3 1 o k ((cl p os k).map (.int .i64)) ∧ LockOwn wr lo hi x cx y cy z cz (lk p os k) ∧ (w1.heap.size ≤ lo ∧ hi ≤ wr.heap.size ∧ (bl < lo ∨ hi ≤ bl)) ∧ (∀ j, o.ownBlock = some j → bl < j ∧ (j < lo ∨ hi ≤ j)) ∧ Below w.heap.size w wr) (fun _ i _ => os.length - (intOf i).toNat)
  case atStart => exact ⟨0, x0, cx0, y0, cy0, z0', cz0, w1.heap.size, bl, Nat.zero_le _, rfl, K0, K1, kl0, by simpa [cl, codesL] using oc0, O0, ⟨Nat.le_refl _, t3, .inr (Nat.le_refl _)⟩, (fun j e => by simp [Value.ownBlock] at e; omega), HB⟩
  case round =>
    clear K0 K1 kl0 O0 HB oc0 t3
    obtain ⟨k, x, cx, y, cy, z, cz, lo, hi', hk, rfl, k0, k1, kl, oc, O, ⟨j4, j5, j6⟩, hcb, HB⟩ := hrel
    obtain ⟨gv, cgv, rfl⟩ := own_form oc
    by_cases hlt : k < os.length
    · have hlt' : (k : Int) < (os.length : Int) := by omega
      rcases hO with hO | ⟨bq, off, rfl, hc⟩
      · simp [hO] at hlt
      obtain ⟨q0, q1⟩ := hc k hlt
      replace q0 := ble HB q0
      have qw := q1
      replace q1 := ble HB q1
      have hbs := cell_lt q1
      obtain ⟨ek, hek'⟩ : ∃ v, v = (os.getD k OpV.zero).kind := ⟨_, rfl⟩
      have hek := hide (show kindOf (os.getD k OpV.zero).kind = kindOf ek by rw [hek'])
      rw [← hek'] at q0
      clear hek'
      replace C0 := C0 k hlt
      replace C1 := C1 k hlt
      replace C2 := C2 k hlt
      replace C3 := C3 k hlt
      generalize hew : (os.getD k OpV.zero).what = ew at *
      clear hew
      have t0 := Nat.le_of_eq (sz1 wr (.cells #[.slice x (lk p os k).pos.length cx, .slice y (lk p os k).set.length cy, .slice z (lk p os k).taken.length cz] 33)).symm
      have ko : (wr.alloc (.cells #[.slice x (lk p os k).pos.length cx, .slice y (lk p os k).set.length cy, .slice z (lk p os k).taken.length cz] 33)).heap[wr.heap.size]? = some (.cells #[.slice x (lk p os k).pos.length cx, .slice y (lk p os k).set.length cy, .slice z (lk p os k).taken.length cz] 33 (0, 0)) := new1
      have hba := balloc wr (.cells #[.slice x (lk p os k).pos.length cx, .slice y (lk p os k).set.length cy, .slice z (lk p os k).taken.length cz] 33)
      clear hc
      have hbl := lt_of_block kl
      have hcl := own_blk_lt oc
      obtain ⟨⟨l0, l1, l2⟩, -⟩ := blk3 kl
      go_upto_region 11 with fail
      clear l0 l1 l2
      replace q1 := ble hba q1
      replace k0 := blk_keep hba k0
      replace k1 := blk_keep hba k1
      replace kl := blk_keep hba kl
      replace oc := own_keep oc hba
      replace O := O.below hba
      replace HB := btrans HB hba
      clear hba q0
      generalize wr.alloc (.cells #[.slice x (lk p os k).pos.length cx, .slice y (lk p os k).set.length cy, .slice z (lk p os k).taken.length cz] 33) = wo at *
      generalize hbo : wr.heap.size = bo at *
      replace hbo := Nat.le_of_eq hbo
      by_cases hk0 : ek = 0
      · subst hk0
        have hkd := hek.out.trans (show kindOf 0 = .req by simp [kindOf])
        obtain ⟨⟨p0, p1, p2⟩, -⟩ := blk3 k0
        obtain ⟨⟨l0, l1, l2⟩, -⟩ := blk3 kl
        go_wp2_with fail
        refine wp_region_held_drew (S := (fun w' => w'.cell? ⟨w.heap.size, 0, none⟩ = some (.slice a p.under.length ca) ∧ w'.cell? ⟨w.heap.size, 1, none⟩ = some (.int .i64 p.blocks) ∧ w'.cell? ⟨w.heap.size, 2, none⟩ = some (.slice b p.routes.length cb) ∧ w'.cell? ⟨bl, 0, none⟩ = some (.slice x (lk p os k).pos.length cx) ∧ w'.cell? ⟨bl, 1, none⟩ = some (.slice y (lk p os k).set.length cy) ∧ w'.cell? ⟨bl, 2, none⟩ = some (.slice z (lk p os k).taken.length cz) ∧ w'.cell? ⟨bq, off + k * 2 + 1, none⟩ = some (.int .i64 ew))) (by kernel_rfl) ?_ (fun hHeld => ?_)
        · go_keep
        have Bd : Below wo.heap.size wo wo.drew := (Below.refl _ _).drew
        clear p0 p1 p2 l0 l1 l2
        refine wpAnyH_take (i := 0) (v := .agg #[.slice a p.under.length ca, .int .i64 p.blocks, .slice b p.routes.length cb]) rfl (by kernel_rfl) (by kernel_rfl) (by kernel_rfl) (fun _ _ _ h => h) (Or.inl ⟨by kernel_rfl, fun w hS => by (obtain ⟨hS0, hS1, hS2, hS3, hS4, hS5, hS6⟩ := hS; go_simp)⟩) hHeld ?_
        change wpAnyH _ _ _ _ _ _ _ { tmps := #[_, _, _, _, _, _, _, _, _, _, _, _, _, _, _, _, _, _, _, _, _, _, _, _, _, _, _, _, _, _, _, _, _, _, _, _, _, _, .agg #[.slice a p.under.length ca, .int .i64 p.blocks, .slice b p.routes.length cb], _, _, _, _, _, _, _, _, _, _, _, _, _, _, _, _, _, _, _, _, _, _, _, _, _, _, _, _, _, _, _, _, _, _, _, _, _, _, _, _, _, _, _, _, _, _, _, _, _, _, _, _, _, _, _], defers := [] } _
        refine wpAnyH_take (i := 1) (v := .agg #[.slice x (lk p os k).pos.length cx, .slice y (lk p os k).set.length cy, .slice z (lk p os k).taken.length cz]) rfl (by kernel_rfl) (by kernel_rfl) (by kernel_rfl) (fun _ _ _ h => h) (Or.inl ⟨by kernel_rfl, fun w hS => by (obtain ⟨hS0, hS1, hS2, hS3, hS4, hS5, hS6⟩ := hS; go_simp)⟩) hHeld ?_
        change wpAnyH _ _ _ _ _ _ _ { tmps := #[_, _, _, _, _, _, _, _, _, _, _, _, _, _, _, _, _, _, _, _, _, _, _, _, _, _, _, _, _, _, _, _, _, _, _, _, _, _, .agg #[.slice a p.under.length ca, .int .i64 p.blocks, .slice b p.routes.length cb], .agg #[.slice x (lk p os k).pos.length cx, .slice y (lk p os k).set.length cy, .slice z (lk p os k).taken.length cz], _, _, _, _, _, _, _, _, _, _, _, _, _, _, _, _, _, _, _, _, _, _, _, _, _, _, _, _, _, _, _, _, _, _, _, _, _, _, _, _, _, _, _, _, _, _, _, _, _, _, _, _, _, _], defers := [] } _
        refine wpAnyH_take (i := 2) (v := .slice (some ⟨bq, off, none⟩) os.length cq) rfl (by kernel_rfl) (by kernel_rfl) (by kernel_rfl) (fun _ _ _ h => h) (Or.inl ⟨by kernel_rfl, fun w hS => by (obtain ⟨hS0, hS1, hS2, hS3, hS4, hS5, hS6⟩ := hS; go_simp)⟩) hHeld ?_
        change wpAnyH _ _ _ _ _ _ _ { tmps := #[_, _, _, _, _, _, _, _, _, _, _, _, _, _, _, _, _, _, _, _, _, _, _, _, _, _, _, _, _, _, _, _, _, _, _, _, _, _, .agg #[.slice a p.under.length ca, .int .i64 p.blocks, .slice b p.routes.length cb], .agg #[.slice x (lk p os k).pos.length cx, .slice y (lk p os k).set.length cy, .slice z (lk p os k).taken.length cz], .slice (some ⟨bq, off, none⟩) os.length cq, _, _, _, _, _, _, _, _, _, _, _, _, _, _, _, _, _, _, _, _, _, _, _, _, _, _, _, _, _, _, _, _, _, _, _, _, _, _, _, _, _, _, _, _, _, _, _, _, _, _, _, _, _], defers := [] } _
        refine wpAnyH_take (i := 3) (v := .int .i64 (k : Int)) rfl (by kernel_rfl) (by kernel_rfl) (by kernel_rfl) (fun _ _ _ h => h) (Or.inl ⟨by kernel_rfl, fun w hS => by (obtain ⟨hS0, hS1, hS2, hS3, hS4, hS5, hS6⟩ := hS; go_simp)⟩) hHeld ?_
        change wpAnyH _ _ _ _ _ _ _ { tmps := #[_, _, _, _, _, _, _, _, _, _, _, _, _, _, _, _, _, _, _, _, _, _, _, _, _, _, _, _, _, _, _, _, _, _, _, _, _, _, .agg #[.slice a p.under.length ca, .int .i64 p.blocks, .slice b p.routes.length cb], .agg #[.slice x (lk p os k).pos.length cx, .slice y (lk p os k).set.length cy, .slice z (lk p os k).taken.length cz], .slice (some ⟨bq, off, none⟩) os.length cq, .int .i64 (k : Int), _, _, _, _, _, _, _, _, _, _, _, _, _, _, _, _, _, _, _, _, _, _, _, _, _, _, _, _, _, _, _, _, _, _, _, _, _, _, _, _, _, _, _, _, _, _, _, _, _, _, _, _], defers := [] } _
        refine wpAnyH_take (i := 4) (v := .pointer (some ⟨bq, off + k * 2, none⟩)) rfl (by kernel_rfl) (by kernel_rfl) (by kernel_rfl) (fun _ _ _ h => h) (Or.inl ⟨by kernel_rfl, fun w hS => by (obtain ⟨hS0, hS1, hS2, hS3, hS4, hS5, hS6⟩ := hS; go_simp)⟩) hHeld ?_
        change wpAnyH _ _ _ _ _ _ _ { tmps := #[_, _, _, _, _, _, _, _, _, _, _, _, _, _, _, _, _, _, _, _, _, _, _, _, _, _, _, _, _, _, _, _, _, _, _, _, _, _, .agg #[.slice a p.under.length ca, .int .i64 p.blocks, .slice b p.routes.length cb], .agg #[.slice x (lk p os k).pos.length cx, .slice y (lk p os k).set.length cy, .slice z (lk p os k).taken.length cz], .slice (some ⟨bq, off, none⟩) os.length cq, .int .i64 (k : Int), .pointer (some ⟨bq, off + k * 2, none⟩), _, _, _, _, _, _, _, _, _, _, _, _, _, _, _, _, _, _, _, _, _, _, _, _, _, _, _, _, _, _, _, _, _, _, _, _, _, _, _, _, _, _, _, _, _, _, _, _, _, _, _], defers := [] } _
        refine wpAnyH_take (i := 5) (v := .pointer (some ⟨bq, off + k * 2 + 1, none⟩)) rfl (by kernel_rfl) (by kernel_rfl) (by kernel_rfl) (fun _ _ _ h => h) (Or.inl ⟨by kernel_rfl, fun w hS => by (obtain ⟨hS0, hS1, hS2, hS3, hS4, hS5, hS6⟩ := hS; go_simp)⟩) hHeld ?_
        change wpAnyH _ _ _ _ _ _ _ { tmps := #[_, _, _, _, _, _, _, _, _, _, _, _, _, _, _, _, _, _, _, _, _, _, _, _, _, _, _, _, _, _, _, _, _, _, _, _, _, _, .agg #[.slice a p.under.length ca, .int .i64 p.blocks, .slice b p.routes.length cb], .agg #[.slice x (lk p os k).pos.length cx, .slice y (lk p os k).set.length cy, .slice z (lk p os k).taken.length cz], .slice (some ⟨bq, off, none⟩) os.length cq, .int .i64 (k : Int), .pointer (some ⟨bq, off + k * 2, none⟩), .pointer (some ⟨bq, off + k * 2 + 1, none⟩), _, _, _, _, _, _, _, _, _, _, _, _, _, _, _, _, _, _, _, _, _, _, _, _, _, _, _, _, _, _, _, _, _, _, _, _, _, _, _, _, _, _, _, _, _, _, _, _, _, _], defers := [] } _
        refine wpAnyH_take (i := 6) (v := .int .i64 ew) rfl (by kernel_rfl) (by kernel_rfl) (by kernel_rfl) (fun _ _ _ h => h) (Or.inl ⟨by kernel_rfl, fun w hS => by (obtain ⟨hS0, hS1, hS2, hS3, hS4, hS5, hS6⟩ := hS; go_simp)⟩) hHeld ?_
        change wpAnyH _ _ _ _ _ _ _ { tmps := #[_, _, _, _, _, _, _, _, _, _, _, _, _, _, _, _, _, _, _, _, _, _, _, _, _, _, _, _, _, _, _, _, _, _, _, _, _, _, .agg #[.slice a p.under.length ca, .int .i64 p.blocks, .slice b p.routes.length cb], .agg #[.slice x (lk p os k).pos.length cx, .slice y (lk p os k).set.length cy, .slice z (lk p os k).taken.length cz], .slice (some ⟨bq, off, none⟩) os.length cq, .int .i64 (k : Int), .pointer (some ⟨bq, off + k * 2, none⟩), .pointer (some ⟨bq, off + k * 2 + 1, none⟩), .int .i64 ew, _, _, _, _, _, _, _, _, _, _, _, _, _, _, _, _, _, _, _, _, _, _, _, _, _, _, _, _, _, _, _, _, _, _, _, _, _, _, _, _, _, _, _, _, _, _, _, _, _], defers := [] } _
        refine wpAnyH_ready (rs := [7]) (by kernel_rfl) (by simp) ?_
        refine (AllReadyH.cons rfl (fun K hK => ?_) AllReadyH.nil)
        go_simp
        refine (C0 hkd _ _ _ _ _ _ _ (hP.below (btrans HB Bd)) (O.read.below Bd)).mono ?_
        rintro e wd ⟨x8, cx8, y8, cy8, z8, cz8, rfl, O8, hb⟩
        replace hb := btrans Bd hb
        replace k0 := blk_keep hb k0
        replace k1 := blk_keep hb k1
        replace kl := blk_keep hb kl
        replace ko := blk_keep hb ko
        replace oc := own_keep oc hb
        replace HB := btrans HB hb
        replace q1 := ble hb q1
        have t2 := hb.size
        have O8 : LockOwn wd wo.heap.size wd.heap.size x8 cx8 y8 cy8 z8 cz8 (lk p os (k + 1)) := O8
        clear hb hHeld O
        go_wp2_with fail
        refine hK.out _ _ (by obtain ⟨⟨k0, k1, k2⟩, -⟩ := blk3 k0; obtain ⟨⟨k3, k4, k5⟩, -⟩ := blk3 kl; exact ⟨k0, k1, k2, k3, k4, k5, q1⟩) (fun hHeld => ?_)
        clear hK K
        change wpAnyH _ _ _ _ _ _ _ { tmps := #[_, _, _, _, _, _, _, _, _, _, _, _, _, _, _, _, _, _, _, _, _, _, _, _, _, _, _, _, _, _, _, _, _, _, _, _, _, _, .agg #[.slice a p.under.length ca, .int .i64 p.blocks, .slice b p.routes.length cb], .agg #[.slice x (lk p os k).pos.length cx, .slice y (lk p os k).set.length cy, .slice z (lk p os k).taken.length cz], .slice (some ⟨bq, off, none⟩) os.length cq, .int .i64 (k : Int), .pointer (some ⟨bq, off + k * 2, none⟩), .pointer (some ⟨bq, off + k * 2 + 1, none⟩), .int .i64 ew, .tuple #[.agg #[.slice x8 (lk p os (k + 1)).pos.length cx8, .slice y8 (lk p os (k + 1)).set.length cy8, .slice z8 (lk p os (k + 1)).taken.length cz8], .int .i64 (cd p os k)], _, _, _, _, _, _, _, _, _, _, _, _, _, _, _, _, _, _, _, _, _, _, _, _, _, _, _, _, _, _, _, _, _, _, _, _, _, _, _, _, _, _, _, _, _, _, _, _], defers := [] } _
        refine wpAnyH_take (i := 8) (v := .tuple #[.agg #[.slice x8 (lk p os (k + 1)).pos.length cx8, .slice y8 (lk p os (k + 1)).set.length cy8, .slice z8 (lk p os (k + 1)).taken.length cz8], .int .i64 (cd p os k)]) rfl (by kernel_rfl) (by kernel_rfl) (by kernel_rfl) (fun _ _ _ h => h) (Or.inl ⟨by kernel_rfl, fun w hS => by (obtain ⟨hS0, hS1, hS2, hS3, hS4, hS5, hS6⟩ := hS; go_simp)⟩) hHeld ?_
        change wpAnyH _ _ _ _ _ _ _ { tmps := #[_, _, _, _, _, _, _, _, _, _, _, _, _, _, _, _, _, _, _, _, _, _, _, _, _, _, _, _, _, _, _, _, _, _, _, _, _, .tuple #[.agg #[.slice x8 (lk p os (k + 1)).pos.length cx8, .slice y8 (lk p os (k + 1)).set.length cy8, .slice z8 (lk p os (k + 1)).taken.length cz8], .int .i64 (cd p os k)], .agg #[.slice a p.under.length ca, .int .i64 p.blocks, .slice b p.routes.length cb], .agg #[.slice x (lk p os k).pos.length cx, .slice y (lk p os k).set.length cy, .slice z (lk p os k).taken.length cz], .slice (some ⟨bq, off, none⟩) os.length cq, .int .i64 (k : Int), .pointer (some ⟨bq, off + k * 2, none⟩), .pointer (some ⟨bq, off + k * 2 + 1, none⟩), .int .i64 ew, .tuple #[.agg #[.slice x8 (lk p os (k + 1)).pos.length cx8, .slice y8 (lk p os (k + 1)).set.length cy8, .slice z8 (lk p os (k + 1)).taken.length cz8], .int .i64 (cd p os k)], _, _, _, _, _, _, _, _, _, _, _, _, _, _, _, _, _, _, _, _, _, _, _, _, _, _, _, _, _, _, _, _, _, _, _, _, _, _, _, _, _, _, _, _, _, _, _, _], defers := [] } _
        refine wpAnyH_take (i := 9) (v := .agg #[.slice x8 (lk p os (k + 1)).pos.length cx8, .slice y8 (lk p os (k + 1)).set.length cy8, .slice z8 (lk p os (k + 1)).taken.length cz8]) rfl (by kernel_rfl) (by kernel_rfl) (by kernel_rfl) (fun _ _ _ h => h) (Or.inl ⟨by kernel_rfl, fun w hS => by (obtain ⟨hS0, hS1, hS2, hS3, hS4, hS5, hS6⟩ := hS; go_simp)⟩) hHeld ?_
        change wpAnyH _ _ _ _ _ _ _ { tmps := #[_, _, _, _, _, _, _, _, _, _, _, _, _, _, _, _, _, _, _, _, _, _, _, _, _, _, _, _, _, _, _, _, _, _, _, _, _, .tuple #[.agg #[.slice x8 (lk p os (k + 1)).pos.length cx8, .slice y8 (lk p os (k + 1)).set.length cy8, .slice z8 (lk p os (k + 1)).taken.length cz8], .int .i64 (cd p os k)], .agg #[.slice a p.under.length ca, .int .i64 p.blocks, .slice b p.routes.length cb], .agg #[.slice x (lk p os k).pos.length cx, .slice y (lk p os k).set.length cy, .slice z (lk p os k).taken.length cz], .slice (some ⟨bq, off, none⟩) os.length cq, .int .i64 (k : Int), .pointer (some ⟨bq, off + k * 2, none⟩), .pointer (some ⟨bq, off + k * 2 + 1, none⟩), .int .i64 ew, .tuple #[.agg #[.slice x8 (lk p os (k + 1)).pos.length cx8, .slice y8 (lk p os (k + 1)).set.length cy8, .slice z8 (lk p os (k + 1)).taken.length cz8], .int .i64 (cd p os k)], .agg #[.slice x8 (lk p os (k + 1)).pos.length cx8, .slice y8 (lk p os (k + 1)).set.length cy8, .slice z8 (lk p os (k + 1)).taken.length cz8], _, _, _, _, _, _, _, _, _, _, _, _, _, _, _, _, _, _, _, _, _, _, _, _, _, _, _, _, _, _, _, _, _, _, _, _, _, _, _, _, _, _, _, _, _, _, _], defers := [] } _
        refine wpAnyH_take (i := 10) (v := .int .i64 (cd p os k)) rfl (by kernel_rfl) (by kernel_rfl) (by kernel_rfl) (fun _ _ _ h => h) (Or.inl ⟨by kernel_rfl, fun w hS => by (obtain ⟨hS0, hS1, hS2, hS3, hS4, hS5, hS6⟩ := hS; go_simp)⟩) hHeld ?_
        change wpAnyH _ _ _ _ _ _ _ { tmps := #[_, _, _, _, _, _, _, _, _, _, _, _, _, _, _, _, _, _, _, _, _, _, _, _, _, _, _, _, _, _, _, _, _, _, _, _, _, .tuple #[.agg #[.slice x8 (lk p os (k + 1)).pos.length cx8, .slice y8 (lk p os (k + 1)).set.length cy8, .slice z8 (lk p os (k + 1)).taken.length cz8], .int .i64 (cd p os k)], .agg #[.slice a p.under.length ca, .int .i64 p.blocks, .slice b p.routes.length cb], .agg #[.slice x (lk p os k).pos.length cx, .slice y (lk p os k).set.length cy, .slice z (lk p os k).taken.length cz], .slice (some ⟨bq, off, none⟩) os.length cq, .int .i64 (k : Int), .pointer (some ⟨bq, off + k * 2, none⟩), .pointer (some ⟨bq, off + k * 2 + 1, none⟩), .int .i64 ew, .tuple #[.agg #[.slice x8 (lk p os (k + 1)).pos.length cx8, .slice y8 (lk p os (k + 1)).set.length cy8, .slice z8 (lk p os (k + 1)).taken.length cz8], .int .i64 (cd p os k)], .agg #[.slice x8 (lk p os (k + 1)).pos.length cx8, .slice y8 (lk p os (k + 1)).set.length cy8, .slice z8 (lk p os (k + 1)).taken.length cz8], .int .i64 (cd p os k), _, _, _, _, _, _, _, _, _, _, _, _, _, _, _, _, _, _, _, _, _, _, _, _, _, _, _, _, _, _, _, _, _, _, _, _, _, _, _, _, _, _, _, _, _, _], defers := [] } _
        refine wpAnyH_ready (rs := [11]) (by kernel_rfl) (by simp) ?_
        refine (AllReadyH.cons rfl (fun K hK => ?_) AllReadyH.nil)
        obtain ⟨⟨z0, z1, z2⟩, yy0, yy1, yy2⟩ := blk3 ko
        go_simp
        replace HB : Below w.heap.size w (((wd.setCell ⟨bo, 0, none⟩ (.slice x8 (lk p os (k + 1)).pos.length cx8)).setCell ⟨bo, 1, none⟩ (.slice y8 (lk p os (k + 1)).set.length cy8)).setCell ⟨bo, 2, none⟩ (.slice z8 (lk p os (k + 1)).taken.length cz8)) := stB HB (by omega)
        replace k0 := blk_other (b := bo) (i := 2) (v := .slice z8 (lk p os (k + 1)).taken.length cz8) (blk_other (b := bo) (i := 1) (v := .slice y8 (lk p os (k + 1)).set.length cy8) (blk_other (b := bo) (i := 0) (v := .slice x8 (lk p os (k + 1)).pos.length cx8) k0 (by omega)) (by omega)) (by omega)
        replace k1 := blk_other (b := bo) (i := 2) (v := .slice z8 (lk p os (k + 1)).taken.length cz8) (blk_other (b := bo) (i := 1) (v := .slice y8 (lk p os (k + 1)).set.length cy8) (blk_other (b := bo) (i := 0) (v := .slice x8 (lk p os (k + 1)).pos.length cx8) k1 (by omega)) (by omega)) (by omega)
        replace kl := blk_other (b := bo) (i := 2) (v := .slice z8 (lk p os (k + 1)).taken.length cz8) (blk_other (b := bo) (i := 1) (v := .slice y8 (lk p os (k + 1)).set.length cy8) (blk_other (b := bo) (i := 0) (v := .slice x8 (lk p os (k + 1)).pos.length cx8) kl (by omega)) (by omega)) (by omega)
        replace O8 := ((O8.setOut (g := bo) (i := 0) (u := .slice x8 (lk p os (k + 1)).pos.length cx8) (by omega)).setOut (g := bo) (i := 1) (u := .slice y8 (lk p os (k + 1)).set.length cy8) (by omega)).setOut (g := bo) (i := 2) (u := .slice z8 (lk p os (k + 1)).taken.length cz8) (by omega)
        replace oc := own_set (b := bo) (i := 2) (u := .slice z8 (lk p os (k + 1)).taken.length cz8) (own_set (b := bo) (i := 1) (u := .slice y8 (lk p os (k + 1)).set.length cy8) (own_set (b := bo) (i := 0) (u := .slice x8 (lk p os (k + 1)).pos.length cx8) oc (fun j e => by have := hcl j e; omega)) (fun j e => by have := hcl j e; omega)) (fun j e => by have := hcl j e; omega)
        replace ko := blk_set (i := 2) (v := .slice z8 (lk p os (k + 1)).taken.length cz8) (blk_set (i := 1) (v := .slice y8 (lk p os (k + 1)).set.length cy8) (blk_set (i := 0) (v := .slice x8 (lk p os (k + 1)).pos.length cx8) ko))
        simp only [List.setIfInBounds_toArray, List.set_cons_zero, List.set_cons_succ] at ko
        replace q1 := ble HB qw
        have t3 : wd.heap.size ≤ (((wd.setCell ⟨bo, 0, none⟩ (.slice x8 (lk p os (k + 1)).pos.length cx8)).setCell ⟨bo, 1, none⟩ (.slice y8 (lk p os (k + 1)).set.length cy8)).setCell ⟨bo, 2, none⟩ (.slice z8 (lk p os (k + 1)).taken.length cz8)).heap.size := by simp only [World.size_setCell]; exact Nat.le_refl _
        clear z0 z1 z2 yy0 yy1 yy2 hHeld
        refine hK.out _ _ (by obtain ⟨⟨k0, k1, k2⟩, -⟩ := blk3 k0; obtain ⟨⟨k3, k4, k5⟩, -⟩ := blk3 kl; exact ⟨k0, k1, k2, k3, k4, k5, q1⟩) (fun hHeld => ?_)
        clear hK K
        change wpAnyH _ _ _ _ _ _ _ { tmps := #[_, _, _, _, _, _, _, _, _, _, _, _, _, _, _, _, _, _, _, _, _, _, _, _, _, _, _, _, _, _, _, _, _, _, _, _, _, .tuple #[.agg #[.slice x8 (lk p os (k + 1)).pos.length cx8, .slice y8 (lk p os (k + 1)).set.length cy8, .slice z8 (lk p os (k + 1)).taken.length cz8], .int .i64 (cd p os k)], .agg #[.slice a p.under.length ca, .int .i64 p.blocks, .slice b p.routes.length cb], .agg #[.slice x (lk p os k).pos.length cx, .slice y (lk p os k).set.length cy, .slice z (lk p os k).taken.length cz], .slice (some ⟨bq, off, none⟩) os.length cq, .int .i64 (k : Int), .pointer (some ⟨bq, off + k * 2, none⟩), .pointer (some ⟨bq, off + k * 2 + 1, none⟩), .int .i64 ew, .tuple #[.agg #[.slice x8 (lk p os (k + 1)).pos.length cx8, .slice y8 (lk p os (k + 1)).set.length cy8, .slice z8 (lk p os (k + 1)).taken.length cz8], .int .i64 (cd p os k)], .agg #[.slice x8 (lk p os (k + 1)).pos.length cx8, .slice y8 (lk p os (k + 1)).set.length cy8, .slice z8 (lk p os (k + 1)).taken.length cz8], .int .i64 (cd p os k), _, _, _, _, _, _, _, _, _, _, _, _, _, _, _, _, _, _, _, _, _, _, _, _, _, _, _, _, _, _, _, _, _, _, _, _, _, _, _, _, _, _, _, _, _, _], defers := [] } (((wd.setCell ⟨bo, 0, none⟩ (.slice x8 (lk p os (k + 1)).pos.length cx8)).setCell ⟨bo, 1, none⟩ (.slice y8 (lk p os (k + 1)).set.length cy8)).setCell ⟨bo, 2, none⟩ (.slice z8 (lk p os (k + 1)).taken.length cz8))
        generalize (((wd.setCell ⟨bo, 0, none⟩ (.slice x8 (lk p os (k + 1)).pos.length cx8)).setCell ⟨bo, 1, none⟩ (.slice y8 (lk p os (k + 1)).set.length cy8)).setCell ⟨bo, 2, none⟩ (.slice z8 (lk p os (k + 1)).taken.length cz8)) = we at *
        refine wpAnyH_take (i := 12) (v := .int .i64 (cd p os k)) rfl (by kernel_rfl) (by kernel_rfl) (by kernel_rfl) (fun _ _ _ h => h) (Or.inl ⟨by kernel_rfl, fun w hS => by (obtain ⟨hS0, hS1, hS2, hS3, hS4, hS5, hS6⟩ := hS; go_simp)⟩) hHeld ?_
        change wpAnyH _ _ _ _ _ _ _ { tmps := #[_, _, _, _, _, _, _, _, _, .int .i64 (cd p os k), _, _, _, _, _, _, _, _, _, _, _, _, _, _, _, _, _, _, _, _, _, _, _, _, _, _, _, .tuple #[.agg #[.slice x8 (lk p os (k + 1)).pos.length cx8, .slice y8 (lk p os (k + 1)).set.length cy8, .slice z8 (lk p os (k + 1)).taken.length cz8], .int .i64 (cd p os k)], .agg #[.slice a p.under.length ca, .int .i64 p.blocks, .slice b p.routes.length cb], .agg #[.slice x (lk p os k).pos.length cx, .slice y (lk p os k).set.length cy, .slice z (lk p os k).taken.length cz], .slice (some ⟨bq, off, none⟩) os.length cq, .int .i64 (k : Int), .pointer (some ⟨bq, off + k * 2, none⟩), .pointer (some ⟨bq, off + k * 2 + 1, none⟩), .int .i64 ew, .tuple #[.agg #[.slice x8 (lk p os (k + 1)).pos.length cx8, .slice y8 (lk p os (k + 1)).set.length cy8, .slice z8 (lk p os (k + 1)).taken.length cz8], .int .i64 (cd p os k)], .agg #[.slice x8 (lk p os (k + 1)).pos.length cx8, .slice y8 (lk p os (k + 1)).set.length cy8, .slice z8 (lk p os (k + 1)).taken.length cz8], .int .i64 (cd p os k), _, _, _, _, _, _, _, _, _, _, _, _, _, _, _, _, _, _, _, _, _, _, _, _, _, _, _, _, _, _, _, _, _, _, _, _, _, _, _, _, _, _, _, _, _, _], defers := [] } _
        refine wpAnyH_done (by kernel_rfl) ?_ _
        have hcb : ∀ j, (Value.slice gv k cgv).ownBlock = some j → bl < j ∧ (j < wo.heap.size ∨ wd.heap.size ≤ j) := fun j e => ⟨(hcb j e).1, by have := hcl j e; omega⟩
        have hC := hide (cl_step (p := p) hlt)
        clear hHeld q1
        have s10 := lt_of_block ko
        obtain ⟨⟨n0, n1, n2⟩, -⟩ := blk3 ko
        obtain ⟨⟨l0, l1, l2⟩, f0, f1, f2⟩ := blk3 kl
        have HX : Below w.heap.size w (((we.setCell ⟨bl, 0, none⟩ (.slice x8 (lk p os (k + 1)).pos.length cx8)).setCell ⟨bl, 1, none⟩ (.slice y8 (lk p os (k + 1)).set.length cy8)).setCell ⟨bl, 2, none⟩ (.slice z8 (lk p os (k + 1)).taken.length cz8)) := stB HB (by omega)
        have Xk0 := blk_other (b := bl) (i := 2) (v := .slice z8 (lk p os (k + 1)).taken.length cz8) (blk_other (b := bl) (i := 1) (v := .slice y8 (lk p os (k + 1)).set.length cy8) (blk_other (b := bl) (i := 0) (v := .slice x8 (lk p os (k + 1)).pos.length cx8) k0 (by omega)) (by omega)) (by omega)
        have Xk1 := blk_other (b := bl) (i := 2) (v := .slice z8 (lk p os (k + 1)).taken.length cz8) (blk_other (b := bl) (i := 1) (v := .slice y8 (lk p os (k + 1)).set.length cy8) (blk_other (b := bl) (i := 0) (v := .slice x8 (lk p os (k + 1)).pos.length cx8) k1 (by omega)) (by omega)) (by omega)
        have XO := ((O8.setOut (g := bl) (i := 0) (u := .slice x8 (lk p os (k + 1)).pos.length cx8) (by omega)).setOut (g := bl) (i := 1) (u := .slice y8 (lk p os (k + 1)).set.length cy8) (by omega)).setOut (g := bl) (i := 2) (u := .slice z8 (lk p os (k + 1)).taken.length cz8) (by omega)
        have Xc := own_set (b := bl) (i := 2) (u := .slice z8 (lk p os (k + 1)).taken.length cz8) (own_set (b := bl) (i := 1) (u := .slice y8 (lk p os (k + 1)).set.length cy8) (own_set (b := bl) (i := 0) (u := .slice x8 (lk p os (k + 1)).pos.length cx8) oc (fun j e => by have := hcb j e; omega)) (fun j e => by have := hcb j e; omega)) (fun j e => by have := hcb j e; omega)
        have Xl := blk_set (i := 2) (v := .slice z8 (lk p os (k + 1)).taken.length cz8) (blk_set (i := 1) (v := .slice y8 (lk p os (k + 1)).set.length cy8) (blk_set (i := 0) (v := .slice x8 (lk p os (k + 1)).pos.length cx8) kl))
        simp only [List.setIfInBounds_toArray, List.set_cons_zero, List.set_cons_succ] at Xl
        have Xs : we.heap.size ≤ (((we.setCell ⟨bl, 0, none⟩ (.slice x8 (lk p os (k + 1)).pos.length cx8)).setCell ⟨bl, 1, none⟩ (.slice y8 (lk p os (k + 1)).set.length cy8)).setCell ⟨bl, 2, none⟩ (.slice z8 (lk p os (k + 1)).taken.length cz8)).heap.size := by simp only [World.size_setCell]; exact Nat.le_refl _
        clear HB k0 k1 kl O8 oc
        go_upto_region 20 with fail
        clear n0 n1 n2 l0 l1 l2 f0 f1 f2 ko
        generalize (((we.setCell ⟨bl, 0, none⟩ (.slice x8 (lk p os (k + 1)).pos.length cx8)).setCell ⟨bl, 1, none⟩ (.slice y8 (lk p os (k + 1)).set.length cy8)).setCell ⟨bl, 2, none⟩ (.slice z8 (lk p os (k + 1)).taken.length cz8)) = wg at *
        have hba := balloc wg (.cells #[.int .i64 (cd p os k)] 3)
        have sba := Nat.le_of_eq (sz1 wg (.cells #[.int .i64 (cd p os k)] 3)).symm
        go_wp2_with (at_builtin; refine wpList_append_own_at _ rfl _ _ 24 rfl (bl + 1) 3 i0 (.int .i64 0) 1 8 Try.underlying24 hi hz0 hz1 hz2 rfl (by decide) _ _ _ rfl (Xc.alloc _) ⟨wg.heap.size, 0, none⟩ 1 1 [.int .i64 (cd p os k)] rfl rfl ?c1 ?c2 ?c3 ?c4 ?c5 ?_)
        case c1 =>
          intro j u hj
          match j, hj with
          | 0, hj => simp at hj; subst hj; simp [Addr.add]
        case c2 => intro u hu; simp at hu; subst hu; rfl
        case c3 => unfold maxLen; omega
        case c4 => omega
        case c5 => omega
        intro v' w5 hown' hgrow _ hown''
        have ZB : Below w.heap.size w w5 := (btrans HX hba).grown hgrow (by omega) (fun j e => by have := hcb j e; omega)
        have Z0 := blk_grown hgrow (blk_keep hba Xk0) (fun j e => by have := hcb j e; omega)
        have Z1 := blk_grown hgrow (blk_keep hba Xk1) (fun j e => by have := hcb j e; omega)
        have Zl := blk_grown hgrow (blk_keep hba Xl) (fun j e => by have := hcb j e; omega)
        have ZO := (XO.below hba).grown hgrow (fun j e => by have := hcb j e; omega)
        have Zc : w5.ownsRow (bl + 1) 3 1 v' (k + 1) ((cl p os (k + 1)).map (.int .i64)) := by
          rw [hC.out, List.map_append]; exact hown'
        have Zs := hgrow.size
        have Zd : ∀ j, v'.ownBlock = some j → bl < j ∧ (j < wo.heap.size ∨ wd.heap.size ≤ j) := by
          intro j e
          rcases hown'' with h | h
          · exact hcb j (h ▸ e)
          · rw [h] at e
            cases e
            exact ⟨by omega, by omega⟩
        clear hown' hgrow hba hown'' Xc XO Xl Xk0 Xk1 HX hcb
        go_wp2
        go_roundw
        case rel => exact ⟨k + 1, _, _, _, _, _, _, _, _, by omega, by go_num, Z0, Z1, Zl, Zc, ZO, ⟨by omega, by omega, by omega⟩, Zd, ZB⟩
        case measure => simp [intOf]; omega
      by_cases hk1 : ek = 1
      · subst hk1
        have hkd := hek.out.trans (show kindOf 1 = .occ by simp [kindOf])
        obtain ⟨⟨p0, p1, p2⟩, -⟩ := blk3 k0
        obtain ⟨⟨l0, l1, l2⟩, -⟩ := blk3 kl
        go_wp2_with fail
        refine wp_region_held_drew (S := (fun w' => w'.cell? ⟨w.heap.size, 0, none⟩ = some (.slice a p.under.length ca) ∧ w'.cell? ⟨w.heap.size, 1, none⟩ = some (.int .i64 p.blocks) ∧ w'.cell? ⟨w.heap.size, 2, none⟩ = some (.slice b p.routes.length cb) ∧ w'.cell? ⟨bl, 0, none⟩ = some (.slice x (lk p os k).pos.length cx) ∧ w'.cell? ⟨bl, 1, none⟩ = some (.slice y (lk p os k).set.length cy) ∧ w'.cell? ⟨bl, 2, none⟩ = some (.slice z (lk p os k).taken.length cz) ∧ w'.cell? ⟨bq, off + k * 2 + 1, none⟩ = some (.int .i64 ew))) (by kernel_rfl) ?_ (fun hHeld => ?_)
        · go_keep
        have Bd : Below wo.heap.size wo wo.drew := (Below.refl _ _).drew
        clear p0 p1 p2 l0 l1 l2
        refine wpAnyH_take (i := 0) (v := .agg #[.slice a p.under.length ca, .int .i64 p.blocks, .slice b p.routes.length cb]) rfl (by kernel_rfl) (by kernel_rfl) (by kernel_rfl) (fun _ _ _ h => h) (Or.inl ⟨by kernel_rfl, fun w hS => by (obtain ⟨hS0, hS1, hS2, hS3, hS4, hS5, hS6⟩ := hS; go_simp)⟩) hHeld ?_
        change wpAnyH _ _ _ _ _ _ _ { tmps := #[_, _, _, _, _, _, _, _, _, _, _, _, _, _, _, _, _, _, _, _, _, _, _, _, _, _, _, _, _, _, _, _, _, _, _, _, _, _, _, _, _, _, _, _, _, _, _, _, _, _, _, .agg #[.slice a p.under.length ca, .int .i64 p.blocks, .slice b p.routes.length cb], _, _, _, _, _, _, _, _, _, _, _, _, _, _, _, _, _, _, _, _, _, _, _, _, _, _, _, _, _, _, _, _, _, _, _, _, _, _, _, _, _, _], defers := [] } _
        refine wpAnyH_take (i := 1) (v := .agg #[.slice x (lk p os k).pos.length cx, .slice y (lk p os k).set.length cy, .slice z (lk p os k).taken.length cz]) rfl (by kernel_rfl) (by kernel_rfl) (by kernel_rfl) (fun _ _ _ h => h) (Or.inl ⟨by kernel_rfl, fun w hS => by (obtain ⟨hS0, hS1, hS2, hS3, hS4, hS5, hS6⟩ := hS; go_simp)⟩) hHeld ?_
        change wpAnyH _ _ _ _ _ _ _ { tmps := #[_, _, _, _, _, _, _, _, _, _, _, _, _, _, _, _, _, _, _, _, _, _, _, _, _, _, _, _, _, _, _, _, _, _, _, _, _, _, _, _, _, _, _, _, _, _, _, _, _, _, _, .agg #[.slice a p.under.length ca, .int .i64 p.blocks, .slice b p.routes.length cb], .agg #[.slice x (lk p os k).pos.length cx, .slice y (lk p os k).set.length cy, .slice z (lk p os k).taken.length cz], _, _, _, _, _, _, _, _, _, _, _, _, _, _, _, _, _, _, _, _, _, _, _, _, _, _, _, _, _, _, _, _, _, _, _, _, _, _, _, _, _], defers := [] } _
        refine wpAnyH_take (i := 2) (v := .slice (some ⟨bq, off, none⟩) os.length cq) rfl (by kernel_rfl) (by kernel_rfl) (by kernel_rfl) (fun _ _ _ h => h) (Or.inl ⟨by kernel_rfl, fun w hS => by (obtain ⟨hS0, hS1, hS2, hS3, hS4, hS5, hS6⟩ := hS; go_simp)⟩) hHeld ?_
        change wpAnyH _ _ _ _ _ _ _ { tmps := #[_, _, _, _, _, _, _, _, _, _, _, _, _, _, _, _, _, _, _, _, _, _, _, _, _, _, _, _, _, _, _, _, _, _, _, _, _, _, _, _, _, _, _, _, _, _, _, _, _, _, _, .agg #[.slice a p.under.length ca, .int .i64 p.blocks, .slice b p.routes.length cb], .agg #[.slice x (lk p os k).pos.length cx, .slice y (lk p os k).set.length cy, .slice z (lk p os k).taken.length cz], .slice (some ⟨bq, off, none⟩) os.length cq, _, _, _, _, _, _, _, _, _, _, _, _, _, _, _, _, _, _, _, _, _, _, _, _, _, _, _, _, _, _, _, _, _, _, _, _, _, _, _, _], defers := [] } _
        refine wpAnyH_take (i := 3) (v := .int .i64 (k : Int)) rfl (by kernel_rfl) (by kernel_rfl) (by kernel_rfl) (fun _ _ _ h => h) (Or.inl ⟨by kernel_rfl, fun w hS => by (obtain ⟨hS0, hS1, hS2, hS3, hS4, hS5, hS6⟩ := hS; go_simp)⟩) hHeld ?_
        change wpAnyH _ _ _ _ _ _ _ { tmps := #[_, _, _, _, _, _, _, _, _, _, _, _, _, _, _, _, _, _, _, _, _, _, _, _, _, _, _, _, _, _, _, _, _, _, _, _, _, _, _, _, _, _, _, _, _, _, _, _, _, _, _, .agg #[.slice a p.under.length ca, .int .i64 p.blocks, .slice b p.routes.length cb], .agg #[.slice x (lk p os k).pos.length cx, .slice y (lk p os k).set.length cy, .slice z (lk p os k).taken.length cz], .slice (some ⟨bq, off, none⟩) os.length cq, .int .i64 (k : Int), _, _, _, _, _, _, _, _, _, _, _, _, _, _, _, _, _, _, _, _, _, _, _, _, _, _, _, _, _, _, _, _, _, _, _, _, _, _, _], defers := [] } _
        refine wpAnyH_take (i := 4) (v := .pointer (some ⟨bq, off + k * 2, none⟩)) rfl (by kernel_rfl) (by kernel_rfl) (by kernel_rfl) (fun _ _ _ h => h) (Or.inl ⟨by kernel_rfl, fun w hS => by (obtain ⟨hS0, hS1, hS2, hS3, hS4, hS5, hS6⟩ := hS; go_simp)⟩) hHeld ?_
        change wpAnyH _ _ _ _ _ _ _ { tmps := #[_, _, _, _, _, _, _, _, _, _, _, _, _, _, _, _, _, _, _, _, _, _, _, _, _, _, _, _, _, _, _, _, _, _, _, _, _, _, _, _, _, _, _, _, _, _, _, _, _, _, _, .agg #[.slice a p.under.length ca, .int .i64 p.blocks, .slice b p.routes.length cb], .agg #[.slice x (lk p os k).pos.length cx, .slice y (lk p os k).set.length cy, .slice z (lk p os k).taken.length cz], .slice (some ⟨bq, off, none⟩) os.length cq, .int .i64 (k : Int), .pointer (some ⟨bq, off + k * 2, none⟩), _, _, _, _, _, _, _, _, _, _, _, _, _, _, _, _, _, _, _, _, _, _, _, _, _, _, _, _, _, _, _, _, _, _, _, _, _, _], defers := [] } _
        refine wpAnyH_take (i := 5) (v := .pointer (some ⟨bq, off + k * 2 + 1, none⟩)) rfl (by kernel_rfl) (by kernel_rfl) (by kernel_rfl) (fun _ _ _ h => h) (Or.inl ⟨by kernel_rfl, fun w hS => by (obtain ⟨hS0, hS1, hS2, hS3, hS4, hS5, hS6⟩ := hS; go_simp)⟩) hHeld ?_
        change wpAnyH _ _ _ _ _ _ _ { tmps := #[_, _, _, _, _, _, _, _, _, _, _, _, _, _, _, _, _, _, _, _, _, _, _, _, _, _, _, _, _, _, _, _, _, _, _, _, _, _, _, _, _, _, _, _, _, _, _, _, _, _, _, .agg #[.slice a p.under.length ca, .int .i64 p.blocks, .slice b p.routes.length cb], .agg #[.slice x (lk p os k).pos.length cx, .slice y (lk p os k).set.length cy, .slice z (lk p os k).taken.length cz], .slice (some ⟨bq, off, none⟩) os.length cq, .int .i64 (k : Int), .pointer (some ⟨bq, off + k * 2, none⟩), .pointer (some ⟨bq, off + k * 2 + 1, none⟩), _, _, _, _, _, _, _, _, _, _, _, _, _, _, _, _, _, _, _, _, _, _, _, _, _, _, _, _, _, _, _, _, _, _, _, _, _], defers := [] } _
        refine wpAnyH_take (i := 6) (v := .int .i64 ew) rfl (by kernel_rfl) (by kernel_rfl) (by kernel_rfl) (fun _ _ _ h => h) (Or.inl ⟨by kernel_rfl, fun w hS => by (obtain ⟨hS0, hS1, hS2, hS3, hS4, hS5, hS6⟩ := hS; go_simp)⟩) hHeld ?_
        change wpAnyH _ _ _ _ _ _ _ { tmps := #[_, _, _, _, _, _, _, _, _, _, _, _, _, _, _, _, _, _, _, _, _, _, _, _, _, _, _, _, _, _, _, _, _, _, _, _, _, _, _, _, _, _, _, _, _, _, _, _, _, _, _, .agg #[.slice a p.under.length ca, .int .i64 p.blocks, .slice b p.routes.length cb], .agg #[.slice x (lk p os k).pos.length cx, .slice y (lk p os k).set.length cy, .slice z (lk p os k).taken.length cz], .slice (some ⟨bq, off, none⟩) os.length cq, .int .i64 (k : Int), .pointer (some ⟨bq, off + k * 2, none⟩), .pointer (some ⟨bq, off + k * 2 + 1, none⟩), .int .i64 ew, _, _, _, _, _, _, _, _, _, _, _, _, _, _, _, _, _, _, _, _, _, _, _, _, _, _, _, _, _, _, _, _, _, _, _, _], defers := [] } _
        refine wpAnyH_ready (rs := [7]) (by kernel_rfl) (by simp) ?_
        refine (AllReadyH.cons rfl (fun K hK => ?_) AllReadyH.nil)
        go_simp
        refine (C1 hkd _ _ _ _ _ _ _ (hP.below (btrans HB Bd)) (O.read.below Bd)).mono ?_
        rintro e wd ⟨x8, cx8, y8, cy8, z8, cz8, rfl, O8, hb⟩
        replace hb := btrans Bd hb
        replace k0 := blk_keep hb k0
        replace k1 := blk_keep hb k1
        replace kl := blk_keep hb kl
        replace ko := blk_keep hb ko
        replace oc := own_keep oc hb
        replace HB := btrans HB hb
        replace q1 := ble hb q1
        have t2 := hb.size
        have O8 : LockOwn wd wo.heap.size wd.heap.size x8 cx8 y8 cy8 z8 cz8 (lk p os (k + 1)) := O8
        clear hb hHeld O
        go_wp2_with fail
        refine hK.out _ _ (by obtain ⟨⟨k0, k1, k2⟩, -⟩ := blk3 k0; obtain ⟨⟨k3, k4, k5⟩, -⟩ := blk3 kl; exact ⟨k0, k1, k2, k3, k4, k5, q1⟩) (fun hHeld => ?_)
        clear hK K
        change wpAnyH _ _ _ _ _ _ _ { tmps := #[_, _, _, _, _, _, _, _, _, _, _, _, _, _, _, _, _, _, _, _, _, _, _, _, _, _, _, _, _, _, _, _, _, _, _, _, _, _, _, _, _, _, _, _, _, _, _, _, _, _, _, .agg #[.slice a p.under.length ca, .int .i64 p.blocks, .slice b p.routes.length cb], .agg #[.slice x (lk p os k).pos.length cx, .slice y (lk p os k).set.length cy, .slice z (lk p os k).taken.length cz], .slice (some ⟨bq, off, none⟩) os.length cq, .int .i64 (k : Int), .pointer (some ⟨bq, off + k * 2, none⟩), .pointer (some ⟨bq, off + k * 2 + 1, none⟩), .int .i64 ew, .tuple #[.agg #[.slice x8 (lk p os (k + 1)).pos.length cx8, .slice y8 (lk p os (k + 1)).set.length cy8, .slice z8 (lk p os (k + 1)).taken.length cz8], .int .i64 (cd p os k)], _, _, _, _, _, _, _, _, _, _, _, _, _, _, _, _, _, _, _, _, _, _, _, _, _, _, _, _, _, _, _, _, _, _, _], defers := [] } _
        refine wpAnyH_take (i := 8) (v := .tuple #[.agg #[.slice x8 (lk p os (k + 1)).pos.length cx8, .slice y8 (lk p os (k + 1)).set.length cy8, .slice z8 (lk p os (k + 1)).taken.length cz8], .int .i64 (cd p os k)]) rfl (by kernel_rfl) (by kernel_rfl) (by kernel_rfl) (fun _ _ _ h => h) (Or.inl ⟨by kernel_rfl, fun w hS => by (obtain ⟨hS0, hS1, hS2, hS3, hS4, hS5, hS6⟩ := hS; go_simp)⟩) hHeld ?_
        change wpAnyH _ _ _ _ _ _ _ { tmps := #[_, _, _, _, _, _, _, _, _, _, _, _, _, _, _, _, _, _, _, _, _, _, _, _, _, _, _, _, _, _, _, _, _, _, _, _, _, _, _, _, _, _, _, _, _, _, _, _, _, _, .tuple #[.agg #[.slice x8 (lk p os (k + 1)).pos.length cx8, .slice y8 (lk p os (k + 1)).set.length cy8, .slice z8 (lk p os (k + 1)).taken.length cz8], .int .i64 (cd p os k)], .agg #[.slice a p.under.length ca, .int .i64 p.blocks, .slice b p.routes.length cb], .agg #[.slice x (lk p os k).pos.length cx, .slice y (lk p os k).set.length cy, .slice z (lk p os k).taken.length cz], .slice (some ⟨bq, off, none⟩) os.length cq, .int .i64 (k : Int), .pointer (some ⟨bq, off + k * 2, none⟩), .pointer (some ⟨bq, off + k * 2 + 1, none⟩), .int .i64 ew, .tuple #[.agg #[.slice x8 (lk p os (k + 1)).pos.length cx8, .slice y8 (lk p os (k + 1)).set.length cy8, .slice z8 (lk p os (k + 1)).taken.length cz8], .int .i64 (cd p os k)], _, _, _, _, _, _, _, _, _, _, _, _, _, _, _, _, _, _, _, _, _, _, _, _, _, _, _, _, _, _, _, _, _, _, _], defers := [] } _
        refine wpAnyH_take (i := 9) (v := .agg #[.slice x8 (lk p os (k + 1)).pos.length cx8, .slice y8 (lk p os (k + 1)).set.length cy8, .slice z8 (lk p os (k + 1)).taken.length cz8]) rfl (by kernel_rfl) (by kernel_rfl) (by kernel_rfl) (fun _ _ _ h => h) (Or.inl ⟨by kernel_rfl, fun w hS => by (obtain ⟨hS0, hS1, hS2, hS3, hS4, hS5, hS6⟩ := hS; go_simp)⟩) hHeld ?_
        change wpAnyH _ _ _ _ _ _ _ { tmps := #[_, _, _, _, _, _, _, _, _, _, _, _, _, _, _, _, _, _, _, _, _, _, _, _, _, _, _, _, _, _, _, _, _, _, _, _, _, _, _, _, _, _, _, _, _, _, _, _, _, _, .tuple #[.agg #[.slice x8 (lk p os (k + 1)).pos.length cx8, .slice y8 (lk p os (k + 1)).set.length cy8, .slice z8 (lk p os (k + 1)).taken.length cz8], .int .i64 (cd p os k)], .agg #[.slice a p.under.length ca, .int .i64 p.blocks, .slice b p.routes.length cb], .agg #[.slice x (lk p os k).pos.length cx, .slice y (lk p os k).set.length cy, .slice z (lk p os k).taken.length cz], .slice (some ⟨bq, off, none⟩) os.length cq, .int .i64 (k : Int), .pointer (some ⟨bq, off + k * 2, none⟩), .pointer (some ⟨bq, off + k * 2 + 1, none⟩), .int .i64 ew, .tuple #[.agg #[.slice x8 (lk p os (k + 1)).pos.length cx8, .slice y8 (lk p os (k + 1)).set.length cy8, .slice z8 (lk p os (k + 1)).taken.length cz8], .int .i64 (cd p os k)], .agg #[.slice x8 (lk p os (k + 1)).pos.length cx8, .slice y8 (lk p os (k + 1)).set.length cy8, .slice z8 (lk p os (k + 1)).taken.length cz8], _, _, _, _, _, _, _, _, _, _, _, _, _, _, _, _, _, _, _, _, _, _, _, _, _, _, _, _, _, _, _, _, _, _], defers := [] } _
        refine wpAnyH_take (i := 10) (v := .int .i64 (cd p os k)) rfl (by kernel_rfl) (by kernel_rfl) (by kernel_rfl) (fun _ _ _ h => h) (Or.inl ⟨by kernel_rfl, fun w hS => by (obtain ⟨hS0, hS1, hS2, hS3, hS4, hS5, hS6⟩ := hS; go_simp)⟩) hHeld ?_
        change wpAnyH _ _ _ _ _ _ _ { tmps := #[_, _, _, _, _, _, _, _, _, _, _, _, _, _, _, _, _, _, _, _, _, _, _, _, _, _, _, _, _, _, _, _, _, _, _, _, _, _, _, _, _, _, _, _, _, _, _, _, _, _, .tuple #[.agg #[.slice x8 (lk p os (k + 1)).pos.length cx8, .slice y8 (lk p os (k + 1)).set.length cy8, .slice z8 (lk p os (k + 1)).taken.length cz8], .int .i64 (cd p os k)], .agg #[.slice a p.under.length ca, .int .i64 p.blocks, .slice b p.routes.length cb], .agg #[.slice x (lk p os k).pos.length cx, .slice y (lk p os k).set.length cy, .slice z (lk p os k).taken.length cz], .slice (some ⟨bq, off, none⟩) os.length cq, .int .i64 (k : Int), .pointer (some ⟨bq, off + k * 2, none⟩), .pointer (some ⟨bq, off + k * 2 + 1, none⟩), .int .i64 ew, .tuple #[.agg #[.slice x8 (lk p os (k + 1)).pos.length cx8, .slice y8 (lk p os (k + 1)).set.length cy8, .slice z8 (lk p os (k + 1)).taken.length cz8], .int .i64 (cd p os k)], .agg #[.slice x8 (lk p os (k + 1)).pos.length cx8, .slice y8 (lk p os (k + 1)).set.length cy8, .slice z8 (lk p os (k + 1)).taken.length cz8], .int .i64 (cd p os k), _, _, _, _, _, _, _, _, _, _, _, _, _, _, _, _, _, _, _, _, _, _, _, _, _, _, _, _, _, _, _, _, _], defers := [] } _
        refine wpAnyH_ready (rs := [11]) (by kernel_rfl) (by simp) ?_
        refine (AllReadyH.cons rfl (fun K hK => ?_) AllReadyH.nil)
        obtain ⟨⟨z0, z1, z2⟩, yy0, yy1, yy2⟩ := blk3 ko
        go_simp
        replace HB : Below w.heap.size w (((wd.setCell ⟨bo, 0, none⟩ (.slice x8 (lk p os (k + 1)).pos.length cx8)).setCell ⟨bo, 1, none⟩ (.slice y8 (lk p os (k + 1)).set.length cy8)).setCell ⟨bo, 2, none⟩ (.slice z8 (lk p os (k + 1)).taken.length cz8)) := stB HB (by omega)
        replace k0 := blk_other (b := bo) (i := 2) (v := .slice z8 (lk p os (k + 1)).taken.length cz8) (blk_other (b := bo) (i := 1) (v := .slice y8 (lk p os (k + 1)).set.length cy8) (blk_other (b := bo) (i := 0) (v := .slice x8 (lk p os (k + 1)).pos.length cx8) k0 (by omega)) (by omega)) (by omega)
        replace k1 := blk_other (b := bo) (i := 2) (v := .slice z8 (lk p os (k + 1)).taken.length cz8) (blk_other (b := bo) (i := 1) (v := .slice y8 (lk p os (k + 1)).set.length cy8) (blk_other (b := bo) (i := 0) (v := .slice x8 (lk p os (k + 1)).pos.length cx8) k1 (by omega)) (by omega)) (by omega)
        replace kl := blk_other (b := bo) (i := 2) (v := .slice z8 (lk p os (k + 1)).taken.length cz8) (blk_other (b := bo) (i := 1) (v := .slice y8 (lk p os (k + 1)).set.length cy8) (blk_other (b := bo) (i := 0) (v := .slice x8 (lk p os (k + 1)).pos.length cx8) kl (by omega)) (by omega)) (by omega)
        replace O8 := ((O8.setOut (g := bo) (i := 0) (u := .slice x8 (lk p os (k + 1)).pos.length cx8) (by omega)).setOut (g := bo) (i := 1) (u := .slice y8 (lk p os (k + 1)).set.length cy8) (by omega)).setOut (g := bo) (i := 2) (u := .slice z8 (lk p os (k + 1)).taken.length cz8) (by omega)
        replace oc := own_set (b := bo) (i := 2) (u := .slice z8 (lk p os (k + 1)).taken.length cz8) (own_set (b := bo) (i := 1) (u := .slice y8 (lk p os (k + 1)).set.length cy8) (own_set (b := bo) (i := 0) (u := .slice x8 (lk p os (k + 1)).pos.length cx8) oc (fun j e => by have := hcl j e; omega)) (fun j e => by have := hcl j e; omega)) (fun j e => by have := hcl j e; omega)
        replace ko := blk_set (i := 2) (v := .slice z8 (lk p os (k + 1)).taken.length cz8) (blk_set (i := 1) (v := .slice y8 (lk p os (k + 1)).set.length cy8) (blk_set (i := 0) (v := .slice x8 (lk p os (k + 1)).pos.length cx8) ko))
        simp only [List.setIfInBounds_toArray, List.set_cons_zero, List.set_cons_succ] at ko
        replace q1 := ble HB qw
        have t3 : wd.heap.size ≤ (((wd.setCell ⟨bo, 0, none⟩ (.slice x8 (lk p os (k + 1)).pos.length cx8)).setCell ⟨bo, 1, none⟩ (.slice y8 (lk p os (k + 1)).set.length cy8)).setCell ⟨bo, 2, none⟩ (.slice z8 (lk p os (k + 1)).taken.length cz8)).heap.size := by simp only [World.size_setCell]; exact Nat.le_refl _
        clear z0 z1 z2 yy0 yy1 yy2 hHeld
        refine hK.out _ _ (by obtain ⟨⟨k0, k1, k2⟩, -⟩ := blk3 k0; obtain ⟨⟨k3, k4, k5⟩, -⟩ := blk3 kl; exact ⟨k0, k1, k2, k3, k4, k5, q1⟩) (fun hHeld => ?_)
        clear hK K
        change wpAnyH _ _ _ _ _ _ _ { tmps := #[_, _, _, _, _, _, _, _, _, _, _, _, _, _, _, _, _, _, _, _, _, _, _, _, _, _, _, _, _, _, _, _, _, _, _, _, _, _, _, _, _, _, _, _, _, _, _, _, _, _, .tuple #[.agg #[.slice x8 (lk p os (k + 1)).pos.length cx8, .slice y8 (lk p os (k + 1)).set.length cy8, .slice z8 (lk p os (k + 1)).taken.length cz8], .int .i64 (cd p os k)], .agg #[.slice a p.under.length ca, .int .i64 p.blocks, .slice b p.routes.length cb], .agg #[.slice x (lk p os k).pos.length cx, .slice y (lk p os k).set.length cy, .slice z (lk p os k).taken.length cz], .slice (some ⟨bq, off, none⟩) os.length cq, .int .i64 (k : Int), .pointer (some ⟨bq, off + k * 2, none⟩), .pointer (some ⟨bq, off + k * 2 + 1, none⟩), .int .i64 ew, .tuple #[.agg #[.slice x8 (lk p os (k + 1)).pos.length cx8, .slice y8 (lk p os (k + 1)).set.length cy8, .slice z8 (lk p os (k + 1)).taken.length cz8], .int .i64 (cd p os k)], .agg #[.slice x8 (lk p os (k + 1)).pos.length cx8, .slice y8 (lk p os (k + 1)).set.length cy8, .slice z8 (lk p os (k + 1)).taken.length cz8], .int .i64 (cd p os k), _, _, _, _, _, _, _, _, _, _, _, _, _, _, _, _, _, _, _, _, _, _, _, _, _, _, _, _, _, _, _, _, _], defers := [] } (((wd.setCell ⟨bo, 0, none⟩ (.slice x8 (lk p os (k + 1)).pos.length cx8)).setCell ⟨bo, 1, none⟩ (.slice y8 (lk p os (k + 1)).set.length cy8)).setCell ⟨bo, 2, none⟩ (.slice z8 (lk p os (k + 1)).taken.length cz8))
        generalize (((wd.setCell ⟨bo, 0, none⟩ (.slice x8 (lk p os (k + 1)).pos.length cx8)).setCell ⟨bo, 1, none⟩ (.slice y8 (lk p os (k + 1)).set.length cy8)).setCell ⟨bo, 2, none⟩ (.slice z8 (lk p os (k + 1)).taken.length cz8)) = we at *
        refine wpAnyH_take (i := 12) (v := .int .i64 (cd p os k)) rfl (by kernel_rfl) (by kernel_rfl) (by kernel_rfl) (fun _ _ _ h => h) (Or.inl ⟨by kernel_rfl, fun w hS => by (obtain ⟨hS0, hS1, hS2, hS3, hS4, hS5, hS6⟩ := hS; go_simp)⟩) hHeld ?_
        change wpAnyH _ _ _ _ _ _ _ { tmps := #[_, _, _, _, _, _, _, _, _, .int .i64 (cd p os k), _, _, _, _, _, _, _, _, _, _, _, _, _, _, _, _, _, _, _, _, _, _, _, _, _, _, _, _, _, _, _, _, _, _, _, _, _, _, _, _, .tuple #[.agg #[.slice x8 (lk p os (k + 1)).pos.length cx8, .slice y8 (lk p os (k + 1)).set.length cy8, .slice z8 (lk p os (k + 1)).taken.length cz8], .int .i64 (cd p os k)], .agg #[.slice a p.under.length ca, .int .i64 p.blocks, .slice b p.routes.length cb], .agg #[.slice x (lk p os k).pos.length cx, .slice y (lk p os k).set.length cy, .slice z (lk p os k).taken.length cz], .slice (some ⟨bq, off, none⟩) os.length cq, .int .i64 (k : Int), .pointer (some ⟨bq, off + k * 2, none⟩), .pointer (some ⟨bq, off + k * 2 + 1, none⟩), .int .i64 ew, .tuple #[.agg #[.slice x8 (lk p os (k + 1)).pos.length cx8, .slice y8 (lk p os (k + 1)).set.length cy8, .slice z8 (lk p os (k + 1)).taken.length cz8], .int .i64 (cd p os k)], .agg #[.slice x8 (lk p os (k + 1)).pos.length cx8, .slice y8 (lk p os (k + 1)).set.length cy8, .slice z8 (lk p os (k + 1)).taken.length cz8], .int .i64 (cd p os k), _, _, _, _, _, _, _, _, _, _, _, _, _, _, _, _, _, _, _, _, _, _, _, _, _, _, _, _, _, _, _, _, _], defers := [] } _
        refine wpAnyH_done (by kernel_rfl) ?_ _
        have hcb : ∀ j, (Value.slice gv k cgv).ownBlock = some j → bl < j ∧ (j < wo.heap.size ∨ wd.heap.size ≤ j) := fun j e => ⟨(hcb j e).1, by have := hcl j e; omega⟩
        have hC := hide (cl_step (p := p) hlt)
        clear hHeld q1
        have s10 := lt_of_block ko
        obtain ⟨⟨n0, n1, n2⟩, -⟩ := blk3 ko
        obtain ⟨⟨l0, l1, l2⟩, f0, f1, f2⟩ := blk3 kl
        have HX : Below w.heap.size w (((we.setCell ⟨bl, 0, none⟩ (.slice x8 (lk p os (k + 1)).pos.length cx8)).setCell ⟨bl, 1, none⟩ (.slice y8 (lk p os (k + 1)).set.length cy8)).setCell ⟨bl, 2, none⟩ (.slice z8 (lk p os (k + 1)).taken.length cz8)) := stB HB (by omega)
        have Xk0 := blk_other (b := bl) (i := 2) (v := .slice z8 (lk p os (k + 1)).taken.length cz8) (blk_other (b := bl) (i := 1) (v := .slice y8 (lk p os (k + 1)).set.length cy8) (blk_other (b := bl) (i := 0) (v := .slice x8 (lk p os (k + 1)).pos.length cx8) k0 (by omega)) (by omega)) (by omega)
        have Xk1 := blk_other (b := bl) (i := 2) (v := .slice z8 (lk p os (k + 1)).taken.length cz8) (blk_other (b := bl) (i := 1) (v := .slice y8 (lk p os (k + 1)).set.length cy8) (blk_other (b := bl) (i := 0) (v := .slice x8 (lk p os (k + 1)).pos.length cx8) k1 (by omega)) (by omega)) (by omega)
        have XO := ((O8.setOut (g := bl) (i := 0) (u := .slice x8 (lk p os (k + 1)).pos.length cx8) (by omega)).setOut (g := bl) (i := 1) (u := .slice y8 (lk p os (k + 1)).set.length cy8) (by omega)).setOut (g := bl) (i := 2) (u := .slice z8 (lk p os (k + 1)).taken.length cz8) (by omega)
        have Xc := own_set (b := bl) (i := 2) (u := .slice z8 (lk p os (k + 1)).taken.length cz8) (own_set (b := bl) (i := 1) (u := .slice y8 (lk p os (k + 1)).set.length cy8) (own_set (b := bl) (i := 0) (u := .slice x8 (lk p os (k + 1)).pos.length cx8) oc (fun j e => by have := hcb j e; omega)) (fun j e => by have := hcb j e; omega)) (fun j e => by have := hcb j e; omega)
        have Xl := blk_set (i := 2) (v := .slice z8 (lk p os (k + 1)).taken.length cz8) (blk_set (i := 1) (v := .slice y8 (lk p os (k + 1)).set.length cy8) (blk_set (i := 0) (v := .slice x8 (lk p os (k + 1)).pos.length cx8) kl))
        simp only [List.setIfInBounds_toArray, List.set_cons_zero, List.set_cons_succ] at Xl
        have Xs : we.heap.size ≤ (((we.setCell ⟨bl, 0, none⟩ (.slice x8 (lk p os (k + 1)).pos.length cx8)).setCell ⟨bl, 1, none⟩ (.slice y8 (lk p os (k + 1)).set.length cy8)).setCell ⟨bl, 2, none⟩ (.slice z8 (lk p os (k + 1)).taken.length cz8)).heap.size := by simp only [World.size_setCell]; exact Nat.le_refl _
        clear HB k0 k1 kl O8 oc
        go_upto_region 20 with fail
        clear n0 n1 n2 l0 l1 l2 f0 f1 f2 ko
        generalize (((we.setCell ⟨bl, 0, none⟩ (.slice x8 (lk p os (k + 1)).pos.length cx8)).setCell ⟨bl, 1, none⟩ (.slice y8 (lk p os (k + 1)).set.length cy8)).setCell ⟨bl, 2, none⟩ (.slice z8 (lk p os (k + 1)).taken.length cz8)) = wg at *
        have hba := balloc wg (.cells #[.int .i64 (cd p os k)] 3)
        have sba := Nat.le_of_eq (sz1 wg (.cells #[.int .i64 (cd p os k)] 3)).symm
        go_wp2_with (at_builtin; refine wpList_append_own_at _ rfl _ _ 24 rfl (bl + 1) 3 i0 (.int .i64 0) 1 8 Try.underlying24 hi hz0 hz1 hz2 rfl (by decide) _ _ _ rfl (Xc.alloc _) ⟨wg.heap.size, 0, none⟩ 1 1 [.int .i64 (cd p os k)] rfl rfl ?c1 ?c2 ?c3 ?c4 ?c5 ?_)
        case c1 =>
          intro j u hj
          match j, hj with
          | 0, hj => simp at hj; subst hj; simp [Addr.add]
        case c2 => intro u hu; simp at hu; subst hu; rfl
        case c3 => unfold maxLen; omega
        case c4 => omega
        case c5 => omega
        intro v' w5 hown' hgrow _ hown''
        have ZB : Below w.heap.size w w5 := (btrans HX hba).grown hgrow (by omega) (fun j e => by have := hcb j e; omega)
        have Z0 := blk_grown hgrow (blk_keep hba Xk0) (fun j e => by have := hcb j e; omega)
        have Z1 := blk_grown hgrow (blk_keep hba Xk1) (fun j e => by have := hcb j e; omega)
        have Zl := blk_grown hgrow (blk_keep hba Xl) (fun j e => by have := hcb j e; omega)
        have ZO := (XO.below hba).grown hgrow (fun j e => by have := hcb j e; omega)
        have Zc : w5.ownsRow (bl + 1) 3 1 v' (k + 1) ((cl p os (k + 1)).map (.int .i64)) := by
          rw [hC.out, List.map_append]; exact hown'
        have Zs := hgrow.size
        have Zd : ∀ j, v'.ownBlock = some j → bl < j ∧ (j < wo.heap.size ∨ wd.heap.size ≤ j) := by
          intro j e
          rcases hown'' with h | h
          · exact hcb j (h ▸ e)
          · rw [h] at e
            cases e
            exact ⟨by omega, by omega⟩
        clear hown' hgrow hba hown'' Xc XO Xl Xk0 Xk1 HX hcb
        go_wp2
        go_roundw
        case rel => exact ⟨k + 1, _, _, _, _, _, _, _, _, by omega, by go_num, Z0, Z1, Zl, Zc, ZO, ⟨by omega, by omega, by omega⟩, Zd, ZB⟩
        case measure => simp [intOf]; omega
      by_cases hk2 : ek = 2
      · subst hk2
        have hkd := hek.out.trans (show kindOf 2 = .vac by simp [kindOf])
        obtain ⟨⟨p0, p1, p2⟩, -⟩ := blk3 k0
        obtain ⟨⟨l0, l1, l2⟩, -⟩ := blk3 kl
        go_wp2_with fail
        refine wp_region_held_drew (S := (fun w' => w'.cell? ⟨w.heap.size, 0, none⟩ = some (.slice a p.under.length ca) ∧ w'.cell? ⟨w.heap.size, 1, none⟩ = some (.int .i64 p.blocks) ∧ w'.cell? ⟨w.heap.size, 2, none⟩ = some (.slice b p.routes.length cb) ∧ w'.cell? ⟨bl, 0, none⟩ = some (.slice x (lk p os k).pos.length cx) ∧ w'.cell? ⟨bl, 1, none⟩ = some (.slice y (lk p os k).set.length cy) ∧ w'.cell? ⟨bl, 2, none⟩ = some (.slice z (lk p os k).taken.length cz) ∧ w'.cell? ⟨bq, off + k * 2 + 1, none⟩ = some (.int .i64 ew))) (by kernel_rfl) ?_ (fun hHeld => ?_)
        · go_keep
        have Bd : Below wo.heap.size wo wo.drew := (Below.refl _ _).drew
        clear p0 p1 p2 l0 l1 l2
        refine wpAnyH_take (i := 0) (v := .agg #[.slice a p.under.length ca, .int .i64 p.blocks, .slice b p.routes.length cb]) rfl (by kernel_rfl) (by kernel_rfl) (by kernel_rfl) (fun _ _ _ h => h) (Or.inl ⟨by kernel_rfl, fun w hS => by (obtain ⟨hS0, hS1, hS2, hS3, hS4, hS5, hS6⟩ := hS; go_simp)⟩) hHeld ?_
        change wpAnyH _ _ _ _ _ _ _ { tmps := #[_, _, _, _, _, _, _, _, _, _, _, _, _, _, _, _, _, _, _, _, _, _, _, _, _, _, _, _, _, _, _, _, _, _, _, _, _, _, _, _, _, _, _, _, _, _, _, _, _, _, _, _, _, _, _, _, _, _, _, _, _, _, _, _, .agg #[.slice a p.under.length ca, .int .i64 p.blocks, .slice b p.routes.length cb], _, _, _, _, _, _, _, _, _, _, _, _, _, _, _, _, _, _, _, _, _, _, _, _, _, _, _, _, _], defers := [] } _
        refine wpAnyH_take (i := 1) (v := .agg #[.slice x (lk p os k).pos.length cx, .slice y (lk p os k).set.length cy, .slice z (lk p os k).taken.length cz]) rfl (by kernel_rfl) (by kernel_rfl) (by kernel_rfl) (fun _ _ _ h => h) (Or.inl ⟨by kernel_rfl, fun w hS => by (obtain ⟨hS0, hS1, hS2, hS3, hS4, hS5, hS6⟩ := hS; go_simp)⟩) hHeld ?_
        change wpAnyH _ _ _ _ _ _ _ { tmps := #[_, _, _, _, _, _, _, _, _, _, _, _, _, _, _, _, _, _, _, _, _, _, _, _, _, _, _, _, _, _, _, _, _, _, _, _, _, _, _, _, _, _, _, _, _, _, _, _, _, _, _, _, _, _, _, _, _, _, _, _, _, _, _, _, .agg #[.slice a p.under.length ca, .int .i64 p.blocks, .slice b p.routes.length cb], .agg #[.slice x (lk p os k).pos.length cx, .slice y (lk p os k).set.length cy, .slice z (lk p os k).taken.length cz], _, _, _, _, _, _, _, _, _, _, _, _, _, _, _, _, _, _, _, _, _, _, _, _, _, _, _, _], defers := [] } _
        refine wpAnyH_take (i := 2) (v := .slice (some ⟨bq, off, none⟩) os.length cq) rfl (by kernel_rfl) (by kernel_rfl) (by kernel_rfl) (fun _ _ _ h => h) (Or.inl ⟨by kernel_rfl, fun w hS => by (obtain ⟨hS0, hS1, hS2, hS3, hS4, hS5, hS6⟩ := hS; go_simp)⟩) hHeld ?_
        change wpAnyH _ _ _ _ _ _ _ { tmps := #[_, _, _, _, _, _, _, _, _, _, _, _, _, _, _, _, _, _, _, _, _, _, _, _, _, _, _, _, _, _, _, _, _, _, _, _, _, _, _, _, _, _, _, _, _, _, _, _, _, _, _, _, _, _, _, _, _, _, _, _, _, _, _, _, .agg #[.slice a p.under.length ca, .int .i64 p.blocks, .slice b p.routes.length cb], .agg #[.slice x (lk p os k).pos.length cx, .slice y (lk p os k).set.length cy, .slice z (lk p os k).taken.length cz], .slice (some ⟨bq, off, none⟩) os.length cq, _, _, _, _, _, _, _, _, _, _, _, _, _, _, _, _, _, _, _, _, _, _, _, _, _, _, _], defers := [] } _
        refine wpAnyH_take (i := 3) (v := .int .i64 (k : Int)) rfl (by kernel_rfl) (by kernel_rfl) (by kernel_rfl) (fun _ _ _ h => h) (Or.inl ⟨by kernel_rfl, fun w hS => by (obtain ⟨hS0, hS1, hS2, hS3, hS4, hS5, hS6⟩ := hS; go_simp)⟩) hHeld ?_
        change wpAnyH _ _ _ _ _ _ _ { tmps := #[_, _, _, _, _, _, _, _, _, _, _, _, _, _, _, _, _, _, _, _, _, _, _, _, _, _, _, _, _, _, _, _, _, _, _, _, _, _, _, _, _, _, _, _, _, _, _, _, _, _, _, _, _, _, _, _, _, _, _, _, _, _, _, _, .agg #[.slice a p.under.length ca, .int .i64 p.blocks, .slice b p.routes.length cb], .agg #[.slice x (lk p os k).pos.length cx, .slice y (lk p os k).set.length cy, .slice z (lk p os k).taken.length cz], .slice (some ⟨bq, off, none⟩) os.length cq, .int .i64 (k : Int), _, _, _, _, _, _, _, _, _, _, _, _, _, _, _, _, _, _, _, _, _, _, _, _, _, _], defers := [] } _
        refine wpAnyH_take (i := 4) (v := .pointer (some ⟨bq, off + k * 2, none⟩)) rfl (by kernel_rfl) (by kernel_rfl) (by kernel_rfl) (fun _ _ _ h => h) (Or.inl ⟨by kernel_rfl, fun w hS => by (obtain ⟨hS0, hS1, hS2, hS3, hS4, hS5, hS6⟩ := hS; go_simp)⟩) hHeld ?_
        change wpAnyH _ _ _ _ _ _ _ { tmps := #[_, _, _, _, _, _, _, _, _, _, _, _, _, _, _, _, _, _, _, _, _, _, _, _, _, _, _, _, _, _, _, _, _, _, _, _, _, _, _, _, _, _, _, _, _, _, _, _, _, _, _, _, _, _, _, _, _, _, _, _, _, _, _, _, .agg #[.slice a p.under.length ca, .int .i64 p.blocks, .slice b p.routes.length cb], .agg #[.slice x (lk p os k).pos.length cx, .slice y (lk p os k).set.length cy, .slice z (lk p os k).taken.length cz], .slice (some ⟨bq, off, none⟩) os.length cq, .int .i64 (k : Int), .pointer (some ⟨bq, off + k * 2, none⟩), _, _, _, _, _, _, _, _, _, _, _, _, _, _, _, _, _, _, _, _, _, _, _, _, _], defers := [] } _
        refine wpAnyH_take (i := 5) (v := .pointer (some ⟨bq, off + k * 2 + 1, none⟩)) rfl (by kernel_rfl) (by kernel_rfl) (by kernel_rfl) (fun _ _ _ h => h) (Or.inl ⟨by kernel_rfl, fun w hS => by (obtain ⟨hS0, hS1, hS2, hS3, hS4, hS5, hS6⟩ := hS; go_simp)⟩) hHeld ?_
        change wpAnyH _ _ _ _ _ _ _ { tmps := #[_, _, _, _, _, _, _, _, _, _, _, _, _, _, _, _, _, _, _, _, _, _, _, _, _, _, _, _, _, _, _, _, _, _, _, _, _, _, _, _, _, _, _, _, _, _, _, _, _, _, _, _, _, _, _, _, _, _, _, _, _, _, _, _, .agg #[.slice a p.under.length ca, .int .i64 p.blocks, .slice b p.routes.length cb], .agg #[.slice x (lk p os k).pos.length cx, .slice y (lk p os k).set.length cy, .slice z (lk p os k).taken.length cz], .slice (some ⟨bq, off, none⟩) os.length cq, .int .i64 (k : Int), .pointer (some ⟨bq, off + k * 2, none⟩), .pointer (some ⟨bq, off + k * 2 + 1, none⟩), _, _, _, _, _, _, _, _, _, _, _, _, _, _, _, _, _, _, _, _, _, _, _, _], defers := [] } _
        refine wpAnyH_take (i := 6) (v := .int .i64 ew) rfl (by kernel_rfl) (by kernel_rfl) (by kernel_rfl) (fun _ _ _ h => h) (Or.inl ⟨by kernel_rfl, fun w hS => by (obtain ⟨hS0, hS1, hS2, hS3, hS4, hS5, hS6⟩ := hS; go_simp)⟩) hHeld ?_
        change wpAnyH _ _ _ _ _ _ _ { tmps := #[_, _, _, _, _, _, _, _, _, _, _, _, _, _, _, _, _, _, _, _, _, _, _, _, _, _, _, _, _, _, _, _, _, _, _, _, _, _, _, _, _, _, _, _, _, _, _, _, _, _, _, _, _, _, _, _, _, _, _, _, _, _, _, _, .agg #[.slice a p.under.length ca, .int .i64 p.blocks, .slice b p.routes.length cb], .agg #[.slice x (lk p os k).pos.length cx, .slice y (lk p os k).set.length cy, .slice z (lk p os k).taken.length cz], .slice (some ⟨bq, off, none⟩) os.length cq, .int .i64 (k : Int), .pointer (some ⟨bq, off + k * 2, none⟩), .pointer (some ⟨bq, off + k * 2 + 1, none⟩), .int .i64 ew, _, _, _, _, _, _, _, _, _, _, _, _, _, _, _, _, _, _, _, _, _, _, _], defers := [] } _
        refine wpAnyH_ready (rs := [7]) (by kernel_rfl) (by simp) ?_
        refine (AllReadyH.cons rfl (fun K hK => ?_) AllReadyH.nil)
        go_simp
        refine (C2 hkd _ _ _ _ _ _ _ (hP.below (btrans HB Bd)) (O.read.below Bd)).mono ?_
        rintro e wd ⟨x8, cx8, y8, cy8, z8, cz8, rfl, O8, hb⟩
        replace hb := btrans Bd hb
        replace k0 := blk_keep hb k0
        replace k1 := blk_keep hb k1
        replace kl := blk_keep hb kl
        replace ko := blk_keep hb ko
        replace oc := own_keep oc hb
        replace HB := btrans HB hb
        replace q1 := ble hb q1
        have t2 := hb.size
        have O8 : LockOwn wd wo.heap.size wd.heap.size x8 cx8 y8 cy8 z8 cz8 (lk p os (k + 1)) := O8
        clear hb hHeld O
        go_wp2_with fail
        refine hK.out _ _ (by obtain ⟨⟨k0, k1, k2⟩, -⟩ := blk3 k0; obtain ⟨⟨k3, k4, k5⟩, -⟩ := blk3 kl; exact ⟨k0, k1, k2, k3, k4, k5, q1⟩) (fun hHeld => ?_)
        clear hK K
        change wpAnyH _ _ _ _ _ _ _ { tmps := #[_, _, _, _, _, _, _, _, _, _, _, _, _, _, _, _, _, _, _, _, _, _, _, _, _, _, _, _, _, _, _, _, _, _, _, _, _, _, _, _, _, _, _, _, _, _, _, _, _, _, _, _, _, _, _, _, _, _, _, _, _, _, _, _, .agg #[.slice a p.under.length ca, .int .i64 p.blocks, .slice b p.routes.length cb], .agg #[.slice x (lk p os k).pos.length cx, .slice y (lk p os k).set.length cy, .slice z (lk p os k).taken.length cz], .slice (some ⟨bq, off, none⟩) os.length cq, .int .i64 (k : Int), .pointer (some ⟨bq, off + k * 2, none⟩), .pointer (some ⟨bq, off + k * 2 + 1, none⟩), .int .i64 ew, .tuple #[.agg #[.slice x8 (lk p os (k + 1)).pos.length cx8, .slice y8 (lk p os (k + 1)).set.length cy8, .slice z8 (lk p os (k + 1)).taken.length cz8], .int .i64 (cd p os k)], _, _, _, _, _, _, _, _, _, _, _, _, _, _, _, _, _, _, _, _, _, _], defers := [] } _
        refine wpAnyH_take (i := 8) (v := .tuple #[.agg #[.slice x8 (lk p os (k + 1)).pos.length cx8, .slice y8 (lk p os (k + 1)).set.length cy8, .slice z8 (lk p os (k + 1)).taken.length cz8], .int .i64 (cd p os k)]) rfl (by kernel_rfl) (by kernel_rfl) (by kernel_rfl) (fun _ _ _ h => h) (Or.inl ⟨by kernel_rfl, fun w hS => by (obtain ⟨hS0, hS1, hS2, hS3, hS4, hS5, hS6⟩ := hS; go_simp)⟩) hHeld ?_
        change wpAnyH _ _ _ _ _ _ _ { tmps := #[_, _, _, _, _, _, _, _, _, _, _, _, _, _, _, _, _, _, _, _, _, _, _, _, _, _, _, _, _, _, _, _, _, _, _, _, _, _, _, _, _, _, _, _, _, _, _, _, _, _, _, _, _, _, _, _, _, _, _, _, _, _, _, .tuple #[.agg #[.slice x8 (lk p os (k + 1)).pos.length cx8, .slice y8 (lk p os (k + 1)).set.length cy8, .slice z8 (lk p os (k + 1)).taken.length cz8], .int .i64 (cd p os k)], .agg #[.slice a p.under.length ca, .int .i64 p.blocks, .slice b p.routes.length cb], .agg #[.slice x (lk p os k).pos.length cx, .slice y (lk p os k).set.length cy, .slice z (lk p os k).taken.length cz], .slice (some ⟨bq, off, none⟩) os.length cq, .int .i64 (k : Int), .pointer (some ⟨bq, off + k * 2, none⟩), .pointer (some ⟨bq, off + k * 2 + 1, none⟩), .int .i64 ew, .tuple #[.agg #[.slice x8 (lk p os (k + 1)).pos.length cx8, .slice y8 (lk p os (k + 1)).set.length cy8, .slice z8 (lk p os (k + 1)).taken.length cz8], .int .i64 (cd p os k)], _, _, _, _, _, _, _, _, _, _, _, _, _, _, _, _, _, _, _, _, _, _], defers := [] } _
        refine wpAnyH_take (i := 9) (v := .agg #[.slice x8 (lk p os (k + 1)).pos.length cx8, .slice y8 (lk p os (k + 1)).set.length cy8, .slice z8 (lk p os (k + 1)).taken.length cz8]) rfl (by kernel_rfl) (by kernel_rfl) (by kernel_rfl) (fun _ _ _ h => h) (Or.inl ⟨by kernel_rfl, fun w hS => by (obtain ⟨hS0, hS1, hS2, hS3, hS4, hS5, hS6⟩ := hS; go_simp)⟩) hHeld ?_
        change wpAnyH _ _ _ _ _ _ _ { tmps := #[_, _, _, _, _, _, _, _, _, _, _, _, _, _, _, _, _, _, _, _, _, _, _, _, _, _, _, _, _, _, _, _, _, _, _, _, _, _, _, _, _, _, _, _, _, _, _, _, _, _, _, _, _, _, _, _, _, _, _, _, _, _, _, .tuple #[.agg #[.slice x8 (lk p os (k + 1)).pos.length cx8, .slice y8 (lk p os (k + 1)).set.length cy8, .slice z8 (lk p os (k + 1)).taken.length cz8], .int .i64 (cd p os k)], .agg #[.slice a p.under.length ca, .int .i64 p.blocks, .slice b p.routes.length cb], .agg #[.slice x (lk p os k).pos.length cx, .slice y (lk p os k).set.length cy, .slice z (lk p os k).taken.length cz], .slice (some ⟨bq, off, none⟩) os.length cq, .int .i64 (k : Int), .pointer (some ⟨bq, off + k * 2, none⟩), .pointer (some ⟨bq, off + k * 2 + 1, none⟩), .int .i64 ew, .tuple #[.agg #[.slice x8 (lk p os (k + 1)).pos.length cx8, .slice y8 (lk p os (k + 1)).set.length cy8, .slice z8 (lk p os (k + 1)).taken.length cz8], .int .i64 (cd p os k)], .agg #[.slice x8 (lk p os (k + 1)).pos.length cx8, .slice y8 (lk p os (k + 1)).set.length cy8, .slice z8 (lk p os (k + 1)).taken.length cz8], _, _, _, _, _, _, _, _, _, _, _, _, _, _, _, _, _, _, _, _, _], defers := [] } _
        refine wpAnyH_take (i := 10) (v := .int .i64 (cd p os k)) rfl (by kernel_rfl) (by kernel_rfl) (by kernel_rfl) (fun _ _ _ h => h) (Or.inl ⟨by kernel_rfl, fun w hS => by (obtain ⟨hS0, hS1, hS2, hS3, hS4, hS5, hS6⟩ := hS; go_simp)⟩) hHeld ?_
        change wpAnyH _ _ _ _ _ _ _ { tmps := #[_, _, _, _, _, _, _, _, _, _, _, _, _, _, _, _, _, _, _, _, _, _, _, _, _, _, _, _, _, _, _, _, _, _, _, _, _, _, _, _, _, _, _, _, _, _, _, _, _, _, _, _, _, _, _, _, _, _, _, _, _, _, _, .tuple #[.agg #[.slice x8 (lk p os (k + 1)).pos.length cx8, .slice y8 (lk p os (k + 1)).set.length cy8, .slice z8 (lk p os (k + 1)).taken.length cz8], .int .i64 (cd p os k)], .agg #[.slice a p.under.length ca, .int .i64 p.blocks, .slice b p.routes.length cb], .agg #[.slice x (lk p os k).pos.length cx, .slice y (lk p os k).set.length cy, .slice z (lk p os k).taken.length cz], .slice (some ⟨bq, off, none⟩) os.length cq, .int .i64 (k : Int), .pointer (some ⟨bq, off + k * 2, none⟩), .pointer (some ⟨bq, off + k * 2 + 1, none⟩), .int .i64 ew, .tuple #[.agg #[.slice x8 (lk p os (k + 1)).pos.length cx8, .slice y8 (lk p os (k + 1)).set.length cy8, .slice z8 (lk p os (k + 1)).taken.length cz8], .int .i64 (cd p os k)], .agg #[.slice x8 (lk p os (k + 1)).pos.length cx8, .slice y8 (lk p os (k + 1)).set.length cy8, .slice z8 (lk p os (k + 1)).taken.length cz8], .int .i64 (cd p os k), _, _, _, _, _, _, _, _, _, _, _, _, _, _, _, _, _, _, _, _], defers := [] } _
        refine wpAnyH_ready (rs := [11]) (by kernel_rfl) (by simp) ?_
        refine (AllReadyH.cons rfl (fun K hK => ?_) AllReadyH.nil)
        obtain ⟨⟨z0, z1, z2⟩, yy0, yy1, yy2⟩ := blk3 ko
        go_simp
        replace HB : Below w.heap.size w (((wd.setCell ⟨bo, 0, none⟩ (.slice x8 (lk p os (k + 1)).pos.length cx8)).setCell ⟨bo, 1, none⟩ (.slice y8 (lk p os (k + 1)).set.length cy8)).setCell ⟨bo, 2, none⟩ (.slice z8 (lk p os (k + 1)).taken.length cz8)) := stB HB (by omega)
        replace k0 := blk_other (b := bo) (i := 2) (v := .slice z8 (lk p os (k + 1)).taken.length cz8) (blk_other (b := bo) (i := 1) (v := .slice y8 (lk p os (k + 1)).set.length cy8) (blk_other (b := bo) (i := 0) (v := .slice x8 (lk p os (k + 1)).pos.length cx8) k0 (by omega)) (by omega)) (by omega)
        replace k1 := blk_other (b := bo) (i := 2) (v := .slice z8 (lk p os (k + 1)).taken.length cz8) (blk_other (b := bo) (i := 1) (v := .slice y8 (lk p os (k + 1)).set.length cy8) (blk_other (b := bo) (i := 0) (v := .slice x8 (lk p os (k + 1)).pos.length cx8) k1 (by omega)) (by omega)) (by omega)
        replace kl := blk_other (b := bo) (i := 2) (v := .slice z8 (lk p os (k + 1)).taken.length cz8) (blk_other (b := bo) (i := 1) (v := .slice y8 (lk p os (k + 1)).set.length cy8) (blk_other (b := bo) (i := 0) (v := .slice x8 (lk p os (k + 1)).pos.length cx8) kl (by omega)) (by omega)) (by omega)
        replace O8 := ((O8.setOut (g := bo) (i := 0) (u := .slice x8 (lk p os (k + 1)).pos.length cx8) (by omega)).setOut (g := bo) (i := 1) (u := .slice y8 (lk p os (k + 1)).set.length cy8) (by omega)).setOut (g := bo) (i := 2) (u := .slice z8 (lk p os (k + 1)).taken.length cz8) (by omega)
        replace oc := own_set (b := bo) (i := 2) (u := .slice z8 (lk p os (k + 1)).taken.length cz8) (own_set (b := bo) (i := 1) (u := .slice y8 (lk p os (k + 1)).set.length cy8) (own_set (b := bo) (i := 0) (u := .slice x8 (lk p os (k + 1)).pos.length cx8) oc (fun j e => by have := hcl j e; omega)) (fun j e => by have := hcl j e; omega)) (fun j e => by have := hcl j e; omega)
        replace ko := blk_set (i := 2) (v := .slice z8 (lk p os (k + 1)).taken.length cz8) (blk_set (i := 1) (v := .slice y8 (lk p os (k + 1)).set.length cy8) (blk_set (i := 0) (v := .slice x8 (lk p os (k + 1)).pos.length cx8) ko))
        simp only [List.setIfInBounds_toArray, List.set_cons_zero, List.set_cons_succ] at ko
        replace q1 := ble HB qw
        have t3 : wd.heap.size ≤ (((wd.setCell ⟨bo, 0, none⟩ (.slice x8 (lk p os (k + 1)).pos.length cx8)).setCell ⟨bo, 1, none⟩ (.slice y8 (lk p os (k + 1)).set.length cy8)).setCell ⟨bo, 2, none⟩ (.slice z8 (lk p os (k + 1)).taken.length cz8)).heap.size := by simp only [World.size_setCell]; exact Nat.le_refl _
        clear z0 z1 z2 yy0 yy1 yy2 hHeld
        refine hK.out _ _ (by obtain ⟨⟨k0, k1, k2⟩, -⟩ := blk3 k0; obtain ⟨⟨k3, k4, k5⟩, -⟩ := blk3 kl; exact ⟨k0, k1, k2, k3, k4, k5, q1⟩) (fun hHeld => ?_)
        clear hK K
        change wpAnyH _ _ _ _ _ _ _ { tmps := #[_, _, _, _, _, _, _, _, _, _, _, _, _, _, _, _, _, _, _, _, _, _, _, _, _, _, _, _, _, _, _, _, _, _, _, _, _, _, _, _, _, _, _, _, _, _, _, _, _, _, _, _, _, _, _, _, _, _, _, _, _, _, _, .tuple #[.agg #[.slice x8 (lk p os (k + 1)).pos.length cx8, .slice y8 (lk p os (k + 1)).set.length cy8, .slice z8 (lk p os (k + 1)).taken.length cz8], .int .i64 (cd p os k)], .agg #[.slice a p.under.length ca, .int .i64 p.blocks, .slice b p.routes.length cb], .agg #[.slice x (lk p os k).pos.length cx, .slice y (lk p os k).set.length cy, .slice z (lk p os k).taken.length cz], .slice (some ⟨bq, off, none⟩) os.length cq, .int .i64 (k : Int), .pointer (some ⟨bq, off + k * 2, none⟩), .pointer (some ⟨bq, off + k * 2 + 1, none⟩), .int .i64 ew, .tuple #[.agg #[.slice x8 (lk p os (k + 1)).pos.length cx8, .slice y8 (lk p os (k + 1)).set.length cy8, .slice z8 (lk p os (k + 1)).taken.length cz8], .int .i64 (cd p os k)], .agg #[.slice x8 (lk p os (k + 1)).pos.length cx8, .slice y8 (lk p os (k + 1)).set.length cy8, .slice z8 (lk p os (k + 1)).taken.length cz8], .int .i64 (cd p os k), _, _, _, _, _, _, _, _, _, _, _, _, _, _, _, _, _, _, _, _], defers := [] } (((wd.setCell ⟨bo, 0, none⟩ (.slice x8 (lk p os (k + 1)).pos.length cx8)).setCell ⟨bo, 1, none⟩ (.slice y8 (lk p os (k + 1)).set.length cy8)).setCell ⟨bo, 2, none⟩ (.slice z8 (lk p os (k + 1)).taken.length cz8))
        generalize (((wd.setCell ⟨bo, 0, none⟩ (.slice x8 (lk p os (k + 1)).pos.length cx8)).setCell ⟨bo, 1, none⟩ (.slice y8 (lk p os (k + 1)).set.length cy8)).setCell ⟨bo, 2, none⟩ (.slice z8 (lk p os (k + 1)).taken.length cz8)) = we at *
        refine wpAnyH_take (i := 12) (v := .int .i64 (cd p os k)) rfl (by kernel_rfl) (by kernel_rfl) (by kernel_rfl) (fun _ _ _ h => h) (Or.inl ⟨by kernel_rfl, fun w hS => by (obtain ⟨hS0, hS1, hS2, hS3, hS4, hS5, hS6⟩ := hS; go_simp)⟩) hHeld ?_
        change wpAnyH _ _ _ _ _ _ _ { tmps := #[_, _, _, _, _, _, _, _, _, .int .i64 (cd p os k), _, _, _, _, _, _, _, _, _, _, _, _, _, _, _, _, _, _, _, _, _, _, _, _, _, _, _, _, _, _, _, _, _, _, _, _, _, _, _, _, _, _, _, _, _, _, _, _, _, _, _, _, _, .tuple #[.agg #[.slice x8 (lk p os (k + 1)).pos.length cx8, .slice y8 (lk p os (k + 1)).set.length cy8, .slice z8 (lk p os (k + 1)).taken.length cz8], .int .i64 (cd p os k)], .agg #[.slice a p.under.length ca, .int .i64 p.blocks, .slice b p.routes.length cb], .agg #[.slice x (lk p os k).pos.length cx, .slice y (lk p os k).set.length cy, .slice z (lk p os k).taken.length cz], .slice (some ⟨bq, off, none⟩) os.length cq, .int .i64 (k : Int), .pointer (some ⟨bq, off + k * 2, none⟩), .pointer (some ⟨bq, off + k * 2 + 1, none⟩), .int .i64 ew, .tuple #[.agg #[.slice x8 (lk p os (k + 1)).pos.length cx8, .slice y8 (lk p os (k + 1)).set.length cy8, .slice z8 (lk p os (k + 1)).taken.length cz8], .int .i64 (cd p os k)], .agg #[.slice x8 (lk p os (k + 1)).pos.length cx8, .slice y8 (lk p os (k + 1)).set.length cy8, .slice z8 (lk p os (k + 1)).taken.length cz8], .int .i64 (cd p os k), _, _, _, _, _, _, _, _, _, _, _, _, _, _, _, _, _, _, _, _], defers := [] } _
        refine wpAnyH_done (by kernel_rfl) ?_ _
        have hcb : ∀ j, (Value.slice gv k cgv).ownBlock = some j → bl < j ∧ (j < wo.heap.size ∨ wd.heap.size ≤ j) := fun j e => ⟨(hcb j e).1, by have := hcl j e; omega⟩
        have hC := hide (cl_step (p := p) hlt)
        clear hHeld q1
        have s10 := lt_of_block ko
        obtain ⟨⟨n0, n1, n2⟩, -⟩ := blk3 ko
        obtain ⟨⟨l0, l1, l2⟩, f0, f1, f2⟩ := blk3 kl
        have HX : Below w.heap.size w (((we.setCell ⟨bl, 0, none⟩ (.slice x8 (lk p os (k + 1)).pos.length cx8)).setCell ⟨bl, 1, none⟩ (.slice y8 (lk p os (k + 1)).set.length cy8)).setCell ⟨bl, 2, none⟩ (.slice z8 (lk p os (k + 1)).taken.length cz8)) := stB HB (by omega)
        have Xk0 := blk_other (b := bl) (i := 2) (v := .slice z8 (lk p os (k + 1)).taken.length cz8) (blk_other (b := bl) (i := 1) (v := .slice y8 (lk p os (k + 1)).set.length cy8) (blk_other (b := bl) (i := 0) (v := .slice x8 (lk p os (k + 1)).pos.length cx8) k0 (by omega)) (by omega)) (by omega)
        have Xk1 := blk_other (b := bl) (i := 2) (v := .slice z8 (lk p os (k + 1)).taken.length cz8) (blk_other (b := bl) (i := 1) (v := .slice y8 (lk p os (k + 1)).set.length cy8) (blk_other (b := bl) (i := 0) (v := .slice x8 (lk p os (k + 1)).pos.length cx8) k1 (by omega)) (by omega)) (by omega)
        have XO := ((O8.setOut (g := bl) (i := 0) (u := .slice x8 (lk p os (k + 1)).pos.length cx8) (by omega)).setOut (g := bl) (i := 1) (u := .slice y8 (lk p os (k + 1)).set.length cy8) (by omega)).setOut (g := bl) (i := 2) (u := .slice z8 (lk p os (k + 1)).taken.length cz8) (by omega)
        have Xc := own_set (b := bl) (i := 2) (u := .slice z8 (lk p os (k + 1)).taken.length cz8) (own_set (b := bl) (i := 1) (u := .slice y8 (lk p os (k + 1)).set.length cy8) (own_set (b := bl) (i := 0) (u := .slice x8 (lk p os (k + 1)).pos.length cx8) oc (fun j e => by have := hcb j e; omega)) (fun j e => by have := hcb j e; omega)) (fun j e => by have := hcb j e; omega)
        have Xl := blk_set (i := 2) (v := .slice z8 (lk p os (k + 1)).taken.length cz8) (blk_set (i := 1) (v := .slice y8 (lk p os (k + 1)).set.length cy8) (blk_set (i := 0) (v := .slice x8 (lk p os (k + 1)).pos.length cx8) kl))
        simp only [List.setIfInBounds_toArray, List.set_cons_zero, List.set_cons_succ] at Xl
        have Xs : we.heap.size ≤ (((we.setCell ⟨bl, 0, none⟩ (.slice x8 (lk p os (k + 1)).pos.length cx8)).setCell ⟨bl, 1, none⟩ (.slice y8 (lk p os (k + 1)).set.length cy8)).setCell ⟨bl, 2, none⟩ (.slice z8 (lk p os (k + 1)).taken.length cz8)).heap.size := by simp only [World.size_setCell]; exact Nat.le_refl _
        clear HB k0 k1 kl O8 oc
        go_upto_region 20 with fail
        clear n0 n1 n2 l0 l1 l2 f0 f1 f2 ko
        generalize (((we.setCell ⟨bl, 0, none⟩ (.slice x8 (lk p os (k + 1)).pos.length cx8)).setCell ⟨bl, 1, none⟩ (.slice y8 (lk p os (k + 1)).set.length cy8)).setCell ⟨bl, 2, none⟩ (.slice z8 (lk p os (k + 1)).taken.length cz8)) = wg at *
        have hba := balloc wg (.cells #[.int .i64 (cd p os k)] 3)
        have sba := Nat.le_of_eq (sz1 wg (.cells #[.int .i64 (cd p os k)] 3)).symm
        go_wp2_with (at_builtin; refine wpList_append_own_at _ rfl _ _ 24 rfl (bl + 1) 3 i0 (.int .i64 0) 1 8 Try.underlying24 hi hz0 hz1 hz2 rfl (by decide) _ _ _ rfl (Xc.alloc _) ⟨wg.heap.size, 0, none⟩ 1 1 [.int .i64 (cd p os k)] rfl rfl ?c1 ?c2 ?c3 ?c4 ?c5 ?_)
        case c1 =>
          intro j u hj
          match j, hj with
          | 0, hj => simp at hj; subst hj; simp [Addr.add]
        case c2 => intro u hu; simp at hu; subst hu; rfl
        case c3 => unfold maxLen; omega
        case c4 => omega
        case c5 => omega
        intro v' w5 hown' hgrow _ hown''
        have ZB : Below w.heap.size w w5 := (btrans HX hba).grown hgrow (by omega) (fun j e => by have := hcb j e; omega)
        have Z0 := blk_grown hgrow (blk_keep hba Xk0) (fun j e => by have := hcb j e; omega)
        have Z1 := blk_grown hgrow (blk_keep hba Xk1) (fun j e => by have := hcb j e; omega)
        have Zl := blk_grown hgrow (blk_keep hba Xl) (fun j e => by have := hcb j e; omega)
        have ZO := (XO.below hba).grown hgrow (fun j e => by have := hcb j e; omega)
        have Zc : w5.ownsRow (bl + 1) 3 1 v' (k + 1) ((cl p os (k + 1)).map (.int .i64)) := by
          rw [hC.out, List.map_append]; exact hown'
        have Zs := hgrow.size
        have Zd : ∀ j, v'.ownBlock = some j → bl < j ∧ (j < wo.heap.size ∨ wd.heap.size ≤ j) := by
          intro j e
          rcases hown'' with h | h
          · exact hcb j (h ▸ e)
          · rw [h] at e
            cases e
            exact ⟨by omega, by omega⟩
        clear hown' hgrow hba hown'' Xc XO Xl Xk0 Xk1 HX hcb
        go_wp2
        go_roundw
        case rel => exact ⟨k + 1, _, _, _, _, _, _, _, _, by omega, by go_num, Z0, Z1, Zl, Zc, ZO, ⟨by omega, by omega, by omega⟩, Zd, ZB⟩
        case measure => simp [intOf]; omega
      by_cases hk3 : ek = 3
      · subst hk3
        have hkd := hek.out.trans (show kindOf 3 = .wd by simp [kindOf])
        obtain ⟨⟨p0, p1, p2⟩, -⟩ := blk3 k0
        obtain ⟨⟨l0, l1, l2⟩, -⟩ := blk3 kl
        go_wp2_with fail
        refine wp_region_held_drew (S := (fun w' => w'.cell? ⟨w.heap.size, 0, none⟩ = some (.slice a p.under.length ca) ∧ w'.cell? ⟨w.heap.size, 1, none⟩ = some (.int .i64 p.blocks) ∧ w'.cell? ⟨w.heap.size, 2, none⟩ = some (.slice b p.routes.length cb) ∧ w'.cell? ⟨bl, 0, none⟩ = some (.slice x (lk p os k).pos.length cx) ∧ w'.cell? ⟨bl, 1, none⟩ = some (.slice y (lk p os k).set.length cy) ∧ w'.cell? ⟨bl, 2, none⟩ = some (.slice z (lk p os k).taken.length cz) ∧ w'.cell? ⟨bq, off + k * 2 + 1, none⟩ = some (.int .i64 ew))) (by kernel_rfl) ?_ (fun hHeld => ?_)
        · go_keep
        have Bd : Below wo.heap.size wo wo.drew := (Below.refl _ _).drew
        clear p0 p1 p2 l0 l1 l2
        refine wpAnyH_take (i := 0) (v := .agg #[.slice a p.under.length ca, .int .i64 p.blocks, .slice b p.routes.length cb]) rfl (by kernel_rfl) (by kernel_rfl) (by kernel_rfl) (fun _ _ _ h => h) (Or.inl ⟨by kernel_rfl, fun w hS => by (obtain ⟨hS0, hS1, hS2, hS3, hS4, hS5, hS6⟩ := hS; go_simp)⟩) hHeld ?_
        change wpAnyH _ _ _ _ _ _ _ { tmps := #[_, _, _, _, _, _, _, _, _, _, _, _, _, _, _, _, _, _, _, _, _, _, _, _, _, _, _, _, _, _, _, _, _, _, _, _, _, _, _, _, _, _, _, _, _, _, _, _, _, _, _, _, _, _, _, _, _, _, _, _, _, _, _, _, _, _, _, _, _, _, _, _, _, _, _, _, _, .agg #[.slice a p.under.length ca, .int .i64 p.blocks, .slice b p.routes.length cb], _, _, _, _, _, _, _, _, _, _, _, _, _, _, _, _], defers := [] } _
        refine wpAnyH_take (i := 1) (v := .agg #[.slice x (lk p os k).pos.length cx, .slice y (lk p os k).set.length cy, .slice z (lk p os k).taken.length cz]) rfl (by kernel_rfl) (by kernel_rfl) (by kernel_rfl) (fun _ _ _ h => h) (Or.inl ⟨by kernel_rfl, fun w hS => by (obtain ⟨hS0, hS1, hS2, hS3, hS4, hS5, hS6⟩ := hS; go_simp)⟩) hHeld ?_
        change wpAnyH _ _ _ _ _ _ _ { tmps := #[_, _, _, _, _, _, _, _, _, _, _, _, _, _, _, _, _, _, _, _, _, _, _, _, _, _, _, _, _, _, _, _, _, _, _, _, _, _, _, _, _, _, _, _, _, _, _, _, _, _, _, _, _, _, _, _, _, _, _, _, _, _, _, _, _, _, _, _, _, _, _, _, _, _, _, _, _, .agg #[.slice a p.under.length ca, .int .i64 p.blocks, .slice b p.routes.length cb], .agg #[.slice x (lk p os k).pos.length cx, .slice y (lk p os k).set.length cy, .slice z (lk p os k).taken.length cz], _, _, _, _, _, _, _, _, _, _, _, _, _, _, _], defers := [] } _
        refine wpAnyH_take (i := 2) (v := .slice (some ⟨bq, off, none⟩) os.length cq) rfl (by kernel_rfl) (by kernel_rfl) (by kernel_rfl) (fun _ _ _ h => h) (Or.inl ⟨by kernel_rfl, fun w hS => by (obtain ⟨hS0, hS1, hS2, hS3, hS4, hS5, hS6⟩ := hS; go_simp)⟩) hHeld ?_
        change wpAnyH _ _ _ _ _ _ _ { tmps := #[_, _, _, _, _, _, _, _, _, _, _, _, _, _, _, _, _, _, _, _, _, _, _, _, _, _, _, _, _, _, _, _, _, _, _, _, _, _, _, _, _, _, _, _, _, _, _, _, _, _, _, _, _, _, _, _, _, _, _, _, _, _, _, _, _, _, _, _, _, _, _, _, _, _, _, _, _, .agg #[.slice a p.under.length ca, .int .i64 p.blocks, .slice b p.routes.length cb], .agg #[.slice x (lk p os k).pos.length cx, .slice y (lk p os k).set.length cy, .slice z (lk p os k).taken.length cz], .slice (some ⟨bq, off, none⟩) os.length cq, _, _, _, _, _, _, _, _, _, _, _, _, _, _], defers := [] } _
        refine wpAnyH_take (i := 3) (v := .int .i64 (k : Int)) rfl (by kernel_rfl) (by kernel_rfl) (by kernel_rfl) (fun _ _ _ h => h) (Or.inl ⟨by kernel_rfl, fun w hS => by (obtain ⟨hS0, hS1, hS2, hS3, hS4, hS5, hS6⟩ := hS; go_simp)⟩) hHeld ?_
        change wpAnyH _ _ _ _ _ _ _ { tmps := #[_, _, _, _, _, _, _, _, _, _, _, _, _, _, _, _, _, _, _, _, _, _, _, _, _, _, _, _, _, _, _, _, _, _, _, _, _, _, _, _, _, _, _, _, _, _, _, _, _, _, _, _, _, _, _, _, _, _, _, _, _, _, _, _, _, _, _, _, _, _, _, _, _, _, _, _, _, .agg #[.slice a p.under.length ca, .int .i64 p.blocks, .slice b p.routes.length cb], .agg #[.slice x (lk p os k).pos.length cx, .slice y (lk p os k).set.length cy, .slice z (lk p os k).taken.length cz], .slice (some ⟨bq, off, none⟩) os.length cq, .int .i64 (k : Int), _, _, _, _, _, _, _, _, _, _, _, _, _], defers := [] } _
        refine wpAnyH_take (i := 4) (v := .pointer (some ⟨bq, off + k * 2, none⟩)) rfl (by kernel_rfl) (by kernel_rfl) (by kernel_rfl) (fun _ _ _ h => h) (Or.inl ⟨by kernel_rfl, fun w hS => by (obtain ⟨hS0, hS1, hS2, hS3, hS4, hS5, hS6⟩ := hS; go_simp)⟩) hHeld ?_
        change wpAnyH _ _ _ _ _ _ _ { tmps := #[_, _, _, _, _, _, _, _, _, _, _, _, _, _, _, _, _, _, _, _, _, _, _, _, _, _, _, _, _, _, _, _, _, _, _, _, _, _, _, _, _, _, _, _, _, _, _, _, _, _, _, _, _, _, _, _, _, _, _, _, _, _, _, _, _, _, _, _, _, _, _, _, _, _, _, _, _, .agg #[.slice a p.under.length ca, .int .i64 p.blocks, .slice b p.routes.length cb], .agg #[.slice x (lk p os k).pos.length cx, .slice y (lk p os k).set.length cy, .slice z (lk p os k).taken.length cz], .slice (some ⟨bq, off, none⟩) os.length cq, .int .i64 (k : Int), .pointer (some ⟨bq, off + k * 2, none⟩), _, _, _, _, _, _, _, _, _, _, _, _], defers := [] } _
        refine wpAnyH_take (i := 5) (v := .pointer (some ⟨bq, off + k * 2 + 1, none⟩)) rfl (by kernel_rfl) (by kernel_rfl) (by kernel_rfl) (fun _ _ _ h => h) (Or.inl ⟨by kernel_rfl, fun w hS => by (obtain ⟨hS0, hS1, hS2, hS3, hS4, hS5, hS6⟩ := hS; go_simp)⟩) hHeld ?_
        change wpAnyH _ _ _ _ _ _ _ { tmps := #[_, _, _, _, _, _, _, _, _, _, _, _, _, _, _, _, _, _, _, _, _, _, _, _, _, _, _, _, _, _, _, _, _, _, _, _, _, _, _, _, _, _, _, _, _, _, _, _, _, _, _, _, _, _, _, _, _, _, _, _, _, _, _, _, _, _, _, _, _, _, _, _, _, _, _, _, _, .agg #[.slice a p.under.length ca, .int .i64 p.blocks, .slice b p.routes.length cb], .agg #[.slice x (lk p os k).pos.length cx, .slice y (lk p os k).set.length cy, .slice z (lk p os k).taken.length cz], .slice (some ⟨bq, off, none⟩) os.length cq, .int .i64 (k : Int), .pointer (some ⟨bq, off + k * 2, none⟩), .pointer (some ⟨bq, off + k * 2 + 1, none⟩), _, _, _, _, _, _, _, _, _, _, _], defers := [] } _
        refine wpAnyH_take (i := 6) (v := .int .i64 ew) rfl (by kernel_rfl) (by kernel_rfl) (by kernel_rfl) (fun _ _ _ h => h) (Or.inl ⟨by kernel_rfl, fun w hS => by (obtain ⟨hS0, hS1, hS2, hS3, hS4, hS5, hS6⟩ := hS; go_simp)⟩) hHeld ?_
        change wpAnyH _ _ _ _ _ _ _ { tmps := #[_, _, _, _, _, _, _, _, _, _, _, _, _, _, _, _, _, _, _, _, _, _, _, _, _, _, _, _, _, _, _, _, _, _, _, _, _, _, _, _, _, _, _, _, _, _, _, _, _, _, _, _, _, _, _, _, _, _, _, _, _, _, _, _, _, _, _, _, _, _, _, _, _, _, _, _, _, .agg #[.slice a p.under.length ca, .int .i64 p.blocks, .slice b p.routes.length cb], .agg #[.slice x (lk p os k).pos.length cx, .slice y (lk p os k).set.length cy, .slice z (lk p os k).taken.length cz], .slice (some ⟨bq, off, none⟩) os.length cq, .int .i64 (k : Int), .pointer (some ⟨bq, off + k * 2, none⟩), .pointer (some ⟨bq, off + k * 2 + 1, none⟩), .int .i64 ew, _, _, _, _, _, _, _, _, _, _], defers := [] } _
        refine wpAnyH_ready (rs := [7]) (by kernel_rfl) (by simp) ?_
        refine (AllReadyH.cons rfl (fun K hK => ?_) AllReadyH.nil)
        go_simp
        refine (C3 hkd _ _ _ _ _ _ _ (hP.below (btrans HB Bd)) (O.read.below Bd)).mono ?_
        rintro e wd ⟨x8, cx8, y8, cy8, z8, cz8, rfl, O8, hb⟩
        replace hb := btrans Bd hb
        replace k0 := blk_keep hb k0
        replace k1 := blk_keep hb k1
        replace kl := blk_keep hb kl
        replace ko := blk_keep hb ko
        replace oc := own_keep oc hb
        replace HB := btrans HB hb
        replace q1 := ble hb q1
        have t2 := hb.size
        have O8 : LockOwn wd wo.heap.size wd.heap.size x8 cx8 y8 cy8 z8 cz8 (lk p os (k + 1)) := O8
        clear hb hHeld O
        go_wp2_with fail
        refine hK.out _ _ (by obtain ⟨⟨k0, k1, k2⟩, -⟩ := blk3 k0; obtain ⟨⟨k3, k4, k5⟩, -⟩ := blk3 kl; exact ⟨k0, k1, k2, k3, k4, k5, q1⟩) (fun hHeld => ?_)
        clear hK K
        change wpAnyH _ _ _ _ _ _ _ { tmps := #[_, _, _, _, _, _, _, _, _, _, _, _, _, _, _, _, _, _, _, _, _, _, _, _, _, _, _, _, _, _, _, _, _, _, _, _, _, _, _, _, _, _, _, _, _, _, _, _, _, _, _, _, _, _, _, _, _, _, _, _, _, _, _, _, _, _, _, _, _, _, _, _, _, _, _, _, _, .agg #[.slice a p.under.length ca, .int .i64 p.blocks, .slice b p.routes.length cb], .agg #[.slice x (lk p os k).pos.length cx, .slice y (lk p os k).set.length cy, .slice z (lk p os k).taken.length cz], .slice (some ⟨bq, off, none⟩) os.length cq, .int .i64 (k : Int), .pointer (some ⟨bq, off + k * 2, none⟩), .pointer (some ⟨bq, off + k * 2 + 1, none⟩), .int .i64 ew, .tuple #[.agg #[.slice x8 (lk p os (k + 1)).pos.length cx8, .slice y8 (lk p os (k + 1)).set.length cy8, .slice z8 (lk p os (k + 1)).taken.length cz8], .int .i64 (cd p os k)], _, _, _, _, _, _, _, _, _], defers := [] } _
        refine wpAnyH_take (i := 8) (v := .tuple #[.agg #[.slice x8 (lk p os (k + 1)).pos.length cx8, .slice y8 (lk p os (k + 1)).set.length cy8, .slice z8 (lk p os (k + 1)).taken.length cz8], .int .i64 (cd p os k)]) rfl (by kernel_rfl) (by kernel_rfl) (by kernel_rfl) (fun _ _ _ h => h) (Or.inl ⟨by kernel_rfl, fun w hS => by (obtain ⟨hS0, hS1, hS2, hS3, hS4, hS5, hS6⟩ := hS; go_simp)⟩) hHeld ?_
        change wpAnyH _ _ _ _ _ _ _ { tmps := #[_, _, _, _, _, _, _, _, _, _, _, _, _, _, _, _, _, _, _, _, _, _, _, _, _, _, _, _, _, _, _, _, _, _, _, _, _, _, _, _, _, _, _, _, _, _, _, _, _, _, _, _, _, _, _, _, _, _, _, _, _, _, _, _, _, _, _, _, _, _, _, _, _, _, _, _, .tuple #[.agg #[.slice x8 (lk p os (k + 1)).pos.length cx8, .slice y8 (lk p os (k + 1)).set.length cy8, .slice z8 (lk p os (k + 1)).taken.length cz8], .int .i64 (cd p os k)], .agg #[.slice a p.under.length ca, .int .i64 p.blocks, .slice b p.routes.length cb], .agg #[.slice x (lk p os k).pos.length cx, .slice y (lk p os k).set.length cy, .slice z (lk p os k).taken.length cz], .slice (some ⟨bq, off, none⟩) os.length cq, .int .i64 (k : Int), .pointer (some ⟨bq, off + k * 2, none⟩), .pointer (some ⟨bq, off + k * 2 + 1, none⟩), .int .i64 ew, .tuple #[.agg #[.slice x8 (lk p os (k + 1)).pos.length cx8, .slice y8 (lk p os (k + 1)).set.length cy8, .slice z8 (lk p os (k + 1)).taken.length cz8], .int .i64 (cd p os k)], _, _, _, _, _, _, _, _, _], defers := [] } _
        refine wpAnyH_take (i := 9) (v := .agg #[.slice x8 (lk p os (k + 1)).pos.length cx8, .slice y8 (lk p os (k + 1)).set.length cy8, .slice z8 (lk p os (k + 1)).taken.length cz8]) rfl (by kernel_rfl) (by kernel_rfl) (by kernel_rfl) (fun _ _ _ h => h) (Or.inl ⟨by kernel_rfl, fun w hS => by (obtain ⟨hS0, hS1, hS2, hS3, hS4, hS5, hS6⟩ := hS; go_simp)⟩) hHeld ?_
        change wpAnyH _ _ _ _ _ _ _ { tmps := #[_, _, _, _, _, _, _, _, _, _, _, _, _, _, _, _, _, _, _, _, _, _, _, _, _, _, _, _, _, _, _, _, _, _, _, _, _, _, _, _, _, _, _, _, _, _, _, _, _, _, _, _, _, _, _, _, _, _, _, _, _, _, _, _, _, _, _, _, _, _, _, _, _, _, _, _, .tuple #[.agg #[.slice x8 (lk p os (k + 1)).pos.length cx8, .slice y8 (lk p os (k + 1)).set.length cy8, .slice z8 (lk p os (k + 1)).taken.length cz8], .int .i64 (cd p os k)], .agg #[.slice a p.under.length ca, .int .i64 p.blocks, .slice b p.routes.length cb], .agg #[.slice x (lk p os k).pos.length cx, .slice y (lk p os k).set.length cy, .slice z (lk p os k).taken.length cz], .slice (some ⟨bq, off, none⟩) os.length cq, .int .i64 (k : Int), .pointer (some ⟨bq, off + k * 2, none⟩), .pointer (some ⟨bq, off + k * 2 + 1, none⟩), .int .i64 ew, .tuple #[.agg #[.slice x8 (lk p os (k + 1)).pos.length cx8, .slice y8 (lk p os (k + 1)).set.length cy8, .slice z8 (lk p os (k + 1)).taken.length cz8], .int .i64 (cd p os k)], .agg #[.slice x8 (lk p os (k + 1)).pos.length cx8, .slice y8 (lk p os (k + 1)).set.length cy8, .slice z8 (lk p os (k + 1)).taken.length cz8], _, _, _, _, _, _, _, _], defers := [] } _
        refine wpAnyH_take (i := 10) (v := .int .i64 (cd p os k)) rfl (by kernel_rfl) (by kernel_rfl) (by kernel_rfl) (fun _ _ _ h => h) (Or.inl ⟨by kernel_rfl, fun w hS => by (obtain ⟨hS0, hS1, hS2, hS3, hS4, hS5, hS6⟩ := hS; go_simp)⟩) hHeld ?_
        change wpAnyH _ _ _ _ _ _ _ { tmps := #[_, _, _, _, _, _, _, _, _, _, _, _, _, _, _, _, _, _, _, _, _, _, _, _, _, _, _, _, _, _, _, _, _, _, _, _, _, _, _, _, _, _, _, _, _, _, _, _, _, _, _, _, _, _, _, _, _, _, _, _, _, _, _, _, _, _, _, _, _, _, _, _, _, _, _, _, .tuple #[.agg #[.slice x8 (lk p os (k + 1)).pos.length cx8, .slice y8 (lk p os (k + 1)).set.length cy8, .slice z8 (lk p os (k + 1)).taken.length cz8], .int .i64 (cd p os k)], .agg #[.slice a p.under.length ca, .int .i64 p.blocks, .slice b p.routes.length cb], .agg #[.slice x (lk p os k).pos.length cx, .slice y (lk p os k).set.length cy, .slice z (lk p os k).taken.length cz], .slice (some ⟨bq, off, none⟩) os.length cq, .int .i64 (k : Int), .pointer (some ⟨bq, off + k * 2, none⟩), .pointer (some ⟨bq, off + k * 2 + 1, none⟩), .int .i64 ew, .tuple #[.agg #[.slice x8 (lk p os (k + 1)).pos.length cx8, .slice y8 (lk p os (k + 1)).set.length cy8, .slice z8 (lk p os (k + 1)).taken.length cz8], .int .i64 (cd p os k)], .agg #[.slice x8 (lk p os (k + 1)).pos.length cx8, .slice y8 (lk p os (k + 1)).set.length cy8, .slice z8 (lk p os (k + 1)).taken.length cz8], .int .i64 (cd p os k), _, _, _, _, _, _, _], defers := [] } _
        refine wpAnyH_ready (rs := [11]) (by kernel_rfl) (by simp) ?_
        refine (AllReadyH.cons rfl (fun K hK => ?_) AllReadyH.nil)
        obtain ⟨⟨z0, z1, z2⟩, yy0, yy1, yy2⟩ := blk3 ko
        go_simp
        replace HB : Below w.heap.size w (((wd.setCell ⟨bo, 0, none⟩ (.slice x8 (lk p os (k + 1)).pos.length cx8)).setCell ⟨bo, 1, none⟩ (.slice y8 (lk p os (k + 1)).set.length cy8)).setCell ⟨bo, 2, none⟩ (.slice z8 (lk p os (k + 1)).taken.length cz8)) := stB HB (by omega)
        replace k0 := blk_other (b := bo) (i := 2) (v := .slice z8 (lk p os (k + 1)).taken.length cz8) (blk_other (b := bo) (i := 1) (v := .slice y8 (lk p os (k + 1)).set.length cy8) (blk_other (b := bo) (i := 0) (v := .slice x8 (lk p os (k + 1)).pos.length cx8) k0 (by omega)) (by omega)) (by omega)
        replace k1 := blk_other (b := bo) (i := 2) (v := .slice z8 (lk p os (k + 1)).taken.length cz8) (blk_other (b := bo) (i := 1) (v := .slice y8 (lk p os (k + 1)).set.length cy8) (blk_other (b := bo) (i := 0) (v := .slice x8 (lk p os (k + 1)).pos.length cx8) k1 (by omega)) (by omega)) (by omega)
        replace kl := blk_other (b := bo) (i := 2) (v := .slice z8 (lk p os (k + 1)).taken.length cz8) (blk_other (b := bo) (i := 1) (v := .slice y8 (lk p os (k + 1)).set.length cy8) (blk_other (b := bo) (i := 0) (v := .slice x8 (lk p os (k + 1)).pos.length cx8) kl (by omega)) (by omega)) (by omega)
        replace O8 := ((O8.setOut (g := bo) (i := 0) (u := .slice x8 (lk p os (k + 1)).pos.length cx8) (by omega)).setOut (g := bo) (i := 1) (u := .slice y8 (lk p os (k + 1)).set.length cy8) (by omega)).setOut (g := bo) (i := 2) (u := .slice z8 (lk p os (k + 1)).taken.length cz8) (by omega)
        replace oc := own_set (b := bo) (i := 2) (u := .slice z8 (lk p os (k + 1)).taken.length cz8) (own_set (b := bo) (i := 1) (u := .slice y8 (lk p os (k + 1)).set.length cy8) (own_set (b := bo) (i := 0) (u := .slice x8 (lk p os (k + 1)).pos.length cx8) oc (fun j e => by have := hcl j e; omega)) (fun j e => by have := hcl j e; omega)) (fun j e => by have := hcl j e; omega)
        replace ko := blk_set (i := 2) (v := .slice z8 (lk p os (k + 1)).taken.length cz8) (blk_set (i := 1) (v := .slice y8 (lk p os (k + 1)).set.length cy8) (blk_set (i := 0) (v := .slice x8 (lk p os (k + 1)).pos.length cx8) ko))
        simp only [List.setIfInBounds_toArray, List.set_cons_zero, List.set_cons_succ] at ko
        replace q1 := ble HB qw
        have t3 : wd.heap.size ≤ (((wd.setCell ⟨bo, 0, none⟩ (.slice x8 (lk p os (k + 1)).pos.length cx8)).setCell ⟨bo, 1, none⟩ (.slice y8 (lk p os (k + 1)).set.length cy8)).setCell ⟨bo, 2, none⟩ (.slice z8 (lk p os (k + 1)).taken.length cz8)).heap.size := by simp only [World.size_setCell]; exact Nat.le_refl _
        clear z0 z1 z2 yy0 yy1 yy2 hHeld
        refine hK.out _ _ (by obtain ⟨⟨k0, k1, k2⟩, -⟩ := blk3 k0; obtain ⟨⟨k3, k4, k5⟩, -⟩ := blk3 kl; exact ⟨k0, k1, k2, k3, k4, k5, q1⟩) (fun hHeld => ?_)
        clear hK K
        change wpAnyH _ _ _ _ _ _ _ { tmps := #[_, _, _, _, _, _, _, _, _, _, _, _, _, _, _, _, _, _, _, _, _, _, _, _, _, _, _, _, _, _, _, _, _, _, _, _, _, _, _, _, _, _, _, _, _, _, _, _, _, _, _, _, _, _, _, _, _, _, _, _, _, _, _, _, _, _, _, _, _, _, _, _, _, _, _, _, .tuple #[.agg #[.slice x8 (lk p os (k + 1)).pos.length cx8, .slice y8 (lk p os (k + 1)).set.length cy8, .slice z8 (lk p os (k + 1)).taken.length cz8], .int .i64 (cd p os k)], .agg #[.slice a p.under.length ca, .int .i64 p.blocks, .slice b p.routes.length cb], .agg #[.slice x (lk p os k).pos.length cx, .slice y (lk p os k).set.length cy, .slice z (lk p os k).taken.length cz], .slice (some ⟨bq, off, none⟩) os.length cq, .int .i64 (k : Int), .pointer (some ⟨bq, off + k * 2, none⟩), .pointer (some ⟨bq, off + k * 2 + 1, none⟩), .int .i64 ew, .tuple #[.agg #[.slice x8 (lk p os (k + 1)).pos.length cx8, .slice y8 (lk p os (k + 1)).set.length cy8, .slice z8 (lk p os (k + 1)).taken.length cz8], .int .i64 (cd p os k)], .agg #[.slice x8 (lk p os (k + 1)).pos.length cx8, .slice y8 (lk p os (k + 1)).set.length cy8, .slice z8 (lk p os (k + 1)).taken.length cz8], .int .i64 (cd p os k), _, _, _, _, _, _, _], defers := [] } (((wd.setCell ⟨bo, 0, none⟩ (.slice x8 (lk p os (k + 1)).pos.length cx8)).setCell ⟨bo, 1, none⟩ (.slice y8 (lk p os (k + 1)).set.length cy8)).setCell ⟨bo, 2, none⟩ (.slice z8 (lk p os (k + 1)).taken.length cz8))
        generalize (((wd.setCell ⟨bo, 0, none⟩ (.slice x8 (lk p os (k + 1)).pos.length cx8)).setCell ⟨bo, 1, none⟩ (.slice y8 (lk p os (k + 1)).set.length cy8)).setCell ⟨bo, 2, none⟩ (.slice z8 (lk p os (k + 1)).taken.length cz8)) = we at *
        refine wpAnyH_take (i := 12) (v := .int .i64 (cd p os k)) rfl (by kernel_rfl) (by kernel_rfl) (by kernel_rfl) (fun _ _ _ h => h) (Or.inl ⟨by kernel_rfl, fun w hS => by (obtain ⟨hS0, hS1, hS2, hS3, hS4, hS5, hS6⟩ := hS; go_simp)⟩) hHeld ?_
        change wpAnyH _ _ _ _ _ _ _ { tmps := #[_, _, _, _, _, _, _, _, _, .int .i64 (cd p os k), _, _, _, _, _, _, _, _, _, _, _, _, _, _, _, _, _, _, _, _, _, _, _, _, _, _, _, _, _, _, _, _, _, _, _, _, _, _, _, _, _, _, _, _, _, _, _, _, _, _, _, _, _, _, _, _, _, _, _, _, _, _, _, _, _, _, .tuple #[.agg #[.slice x8 (lk p os (k + 1)).pos.length cx8, .slice y8 (lk p os (k + 1)).set.length cy8, .slice z8 (lk p os (k + 1)).taken.length cz8], .int .i64 (cd p os k)], .agg #[.slice a p.under.length ca, .int .i64 p.blocks, .slice b p.routes.length cb], .agg #[.slice x (lk p os k).pos.length cx, .slice y (lk p os k).set.length cy, .slice z (lk p os k).taken.length cz], .slice (some ⟨bq, off, none⟩) os.length cq, .int .i64 (k : Int), .pointer (some ⟨bq, off + k * 2, none⟩), .pointer (some ⟨bq, off + k * 2 + 1, none⟩), .int .i64 ew, .tuple #[.agg #[.slice x8 (lk p os (k + 1)).pos.length cx8, .slice y8 (lk p os (k + 1)).set.length cy8, .slice z8 (lk p os (k + 1)).taken.length cz8], .int .i64 (cd p os k)], .agg #[.slice x8 (lk p os (k + 1)).pos.length cx8, .slice y8 (lk p os (k + 1)).set.length cy8, .slice z8 (lk p os (k + 1)).taken.length cz8], .int .i64 (cd p os k), _, _, _, _, _, _, _], defers := [] } _
        refine wpAnyH_done (by kernel_rfl) ?_ _
        have hcb : ∀ j, (Value.slice gv k cgv).ownBlock = some j → bl < j ∧ (j < wo.heap.size ∨ wd.heap.size ≤ j) := fun j e => ⟨(hcb j e).1, by have := hcl j e; omega⟩
        have hC := hide (cl_step (p := p) hlt)
        clear hHeld q1
        have s10 := lt_of_block ko
        obtain ⟨⟨n0, n1, n2⟩, -⟩ := blk3 ko
        obtain ⟨⟨l0, l1, l2⟩, f0, f1, f2⟩ := blk3 kl
        have HX : Below w.heap.size w (((we.setCell ⟨bl, 0, none⟩ (.slice x8 (lk p os (k + 1)).pos.length cx8)).setCell ⟨bl, 1, none⟩ (.slice y8 (lk p os (k + 1)).set.length cy8)).setCell ⟨bl, 2, none⟩ (.slice z8 (lk p os (k + 1)).taken.length cz8)) := stB HB (by omega)
        have Xk0 := blk_other (b := bl) (i := 2) (v := .slice z8 (lk p os (k + 1)).taken.length cz8) (blk_other (b := bl) (i := 1) (v := .slice y8 (lk p os (k + 1)).set.length cy8) (blk_other (b := bl) (i := 0) (v := .slice x8 (lk p os (k + 1)).pos.length cx8) k0 (by omega)) (by omega)) (by omega)
        have Xk1 := blk_other (b := bl) (i := 2) (v := .slice z8 (lk p os (k + 1)).taken.length cz8) (blk_other (b := bl) (i := 1) (v := .slice y8 (lk p os (k + 1)).set.length cy8) (blk_other (b := bl) (i := 0) (v := .slice x8 (lk p os (k + 1)).pos.length cx8) k1 (by omega)) (by omega)) (by omega)
        have XO := ((O8.setOut (g := bl) (i := 0) (u := .slice x8 (lk p os (k + 1)).pos.length cx8) (by omega)).setOut (g := bl) (i := 1) (u := .slice y8 (lk p os (k + 1)).set.length cy8) (by omega)).setOut (g := bl) (i := 2) (u := .slice z8 (lk p os (k + 1)).taken.length cz8) (by omega)
        have Xc := own_set (b := bl) (i := 2) (u := .slice z8 (lk p os (k + 1)).taken.length cz8) (own_set (b := bl) (i := 1) (u := .slice y8 (lk p os (k + 1)).set.length cy8) (own_set (b := bl) (i := 0) (u := .slice x8 (lk p os (k + 1)).pos.length cx8) oc (fun j e => by have := hcb j e; omega)) (fun j e => by have := hcb j e; omega)) (fun j e => by have := hcb j e; omega)
        have Xl := blk_set (i := 2) (v := .slice z8 (lk p os (k + 1)).taken.length cz8) (blk_set (i := 1) (v := .slice y8 (lk p os (k + 1)).set.length cy8) (blk_set (i := 0) (v := .slice x8 (lk p os (k + 1)).pos.length cx8) kl))
        simp only [List.setIfInBounds_toArray, List.set_cons_zero, List.set_cons_succ] at Xl
        have Xs : we.heap.size ≤ (((we.setCell ⟨bl, 0, none⟩ (.slice x8 (lk p os (k + 1)).pos.length cx8)).setCell ⟨bl, 1, none⟩ (.slice y8 (lk p os (k + 1)).set.length cy8)).setCell ⟨bl, 2, none⟩ (.slice z8 (lk p os (k + 1)).taken.length cz8)).heap.size := by simp only [World.size_setCell]; exact Nat.le_refl _
        clear HB k0 k1 kl O8 oc
        go_upto_region 20 with fail
        clear n0 n1 n2 l0 l1 l2 f0 f1 f2 ko
        generalize (((we.setCell ⟨bl, 0, none⟩ (.slice x8 (lk p os (k + 1)).pos.length cx8)).setCell ⟨bl, 1, none⟩ (.slice y8 (lk p os (k + 1)).set.length cy8)).setCell ⟨bl, 2, none⟩ (.slice z8 (lk p os (k + 1)).taken.length cz8)) = wg at *
        have hba := balloc wg (.cells #[.int .i64 (cd p os k)] 3)
        have sba := Nat.le_of_eq (sz1 wg (.cells #[.int .i64 (cd p os k)] 3)).symm
        go_wp2_with (at_builtin; refine wpList_append_own_at _ rfl _ _ 24 rfl (bl + 1) 3 i0 (.int .i64 0) 1 8 Try.underlying24 hi hz0 hz1 hz2 rfl (by decide) _ _ _ rfl (Xc.alloc _) ⟨wg.heap.size, 0, none⟩ 1 1 [.int .i64 (cd p os k)] rfl rfl ?c1 ?c2 ?c3 ?c4 ?c5 ?_)
        case c1 =>
          intro j u hj
          match j, hj with
          | 0, hj => simp at hj; subst hj; simp [Addr.add]
        case c2 => intro u hu; simp at hu; subst hu; rfl
        case c3 => unfold maxLen; omega
        case c4 => omega
        case c5 => omega
        intro v' w5 hown' hgrow _ hown''
        have ZB : Below w.heap.size w w5 := (btrans HX hba).grown hgrow (by omega) (fun j e => by have := hcb j e; omega)
        have Z0 := blk_grown hgrow (blk_keep hba Xk0) (fun j e => by have := hcb j e; omega)
        have Z1 := blk_grown hgrow (blk_keep hba Xk1) (fun j e => by have := hcb j e; omega)
        have Zl := blk_grown hgrow (blk_keep hba Xl) (fun j e => by have := hcb j e; omega)
        have ZO := (XO.below hba).grown hgrow (fun j e => by have := hcb j e; omega)
        have Zc : w5.ownsRow (bl + 1) 3 1 v' (k + 1) ((cl p os (k + 1)).map (.int .i64)) := by
          rw [hC.out, List.map_append]; exact hown'
        have Zs := hgrow.size
        have Zd : ∀ j, v'.ownBlock = some j → bl < j ∧ (j < wo.heap.size ∨ wd.heap.size ≤ j) := by
          intro j e
          rcases hown'' with h | h
          · exact hcb j (h ▸ e)
          · rw [h] at e
            cases e
            exact ⟨by omega, by omega⟩
        clear hown' hgrow hba hown'' Xc XO Xl Xk0 Xk1 HX hcb
        go_wp2
        go_roundw
        case rel => exact ⟨k + 1, _, _, _, _, _, _, _, _, by omega, by go_num, Z0, Z1, Zl, Zc, ZO, ⟨by omega, by omega, by omega⟩, Zd, ZB⟩
        case measure => simp [intOf]; omega
      have hkn := hek.out.trans (show kindOf ek = .none by unfold kindOf; rw [if_neg hk0, if_neg hk1, if_neg hk2, if_neg hk3])
      have hll : lk p os (k + 1) = lk p os k := by rw [← lk_step hlt, hkn]; rfl
      have hC : Hid (cl p os (k + 1) = cl p os k ++ [1]) := by
        refine hide ?_
        rw [cl_step hlt]; unfold cd; rw [hkn]; rfl
      rw [← hll] at ko O
      replace hll := hide hll
      have s10 := lt_of_block ko
      obtain ⟨⟨n0, n1, n2⟩, -⟩ := blk3 ko
      obtain ⟨⟨l0, l1, l2⟩, f0, f1, f2⟩ := blk3 kl
      have HX : Below w.heap.size w (((wo.setCell ⟨bl, 0, none⟩ (.slice x (lk p os (k + 1)).pos.length cx)).setCell ⟨bl, 1, none⟩ (.slice y (lk p os (k + 1)).set.length cy)).setCell ⟨bl, 2, none⟩ (.slice z (lk p os (k + 1)).taken.length cz)) := stB HB (by omega)
      have Xk0 := blk_other (b := bl) (i := 2) (v := .slice z (lk p os (k + 1)).taken.length cz) (blk_other (b := bl) (i := 1) (v := .slice y (lk p os (k + 1)).set.length cy) (blk_other (b := bl) (i := 0) (v := .slice x (lk p os (k + 1)).pos.length cx) k0 (by omega)) (by omega)) (by omega)
      have Xk1 := blk_other (b := bl) (i := 2) (v := .slice z (lk p os (k + 1)).taken.length cz) (blk_other (b := bl) (i := 1) (v := .slice y (lk p os (k + 1)).set.length cy) (blk_other (b := bl) (i := 0) (v := .slice x (lk p os (k + 1)).pos.length cx) k1 (by omega)) (by omega)) (by omega)
      have XO := ((O.setOut (g := bl) (i := 0) (u := .slice x (lk p os (k + 1)).pos.length cx) (by omega)).setOut (g := bl) (i := 1) (u := .slice y (lk p os (k + 1)).set.length cy) (by omega)).setOut (g := bl) (i := 2) (u := .slice z (lk p os (k + 1)).taken.length cz) (by omega)
      have Xc := own_set (b := bl) (i := 2) (u := .slice z (lk p os (k + 1)).taken.length cz) (own_set (b := bl) (i := 1) (u := .slice y (lk p os (k + 1)).set.length cy) (own_set (b := bl) (i := 0) (u := .slice x (lk p os (k + 1)).pos.length cx) oc (fun j e => by have := hcb j e; omega)) (fun j e => by have := hcb j e; omega)) (fun j e => by have := hcb j e; omega)
      have Xl := blk_set (i := 2) (v := .slice z (lk p os (k + 1)).taken.length cz) (blk_set (i := 1) (v := .slice y (lk p os (k + 1)).set.length cy) (blk_set (i := 0) (v := .slice x (lk p os (k + 1)).pos.length cx) kl))
      simp only [List.setIfInBounds_toArray, List.set_cons_zero, List.set_cons_succ] at Xl
      have Xs : wo.heap.size ≤ (((wo.setCell ⟨bl, 0, none⟩ (.slice x (lk p os (k + 1)).pos.length cx)).setCell ⟨bl, 1, none⟩ (.slice y (lk p os (k + 1)).set.length cy)).setCell ⟨bl, 2, none⟩ (.slice z (lk p os (k + 1)).taken.length cz)).heap.size := by simp only [World.size_setCell]; exact Nat.le_refl _
      clear HB k0 k1 kl O oc
      go_upto_region 20 with fail
      clear n0 n1 n2 l0 l1 l2 f0 f1 f2 ko
      generalize (((wo.setCell ⟨bl, 0, none⟩ (.slice x (lk p os (k + 1)).pos.length cx)).setCell ⟨bl, 1, none⟩ (.slice y (lk p os (k + 1)).set.length cy)).setCell ⟨bl, 2, none⟩ (.slice z (lk p os (k + 1)).taken.length cz)) = wg at *
      have hba := balloc wg (.cells #[.int .i64 1] 3)
      have sba := Nat.le_of_eq (sz1 wg (.cells #[.int .i64 1] 3)).symm
      go_wp2_with (at_builtin; refine wpList_append_own_at _ rfl _ _ 24 rfl (bl + 1) 3 i0 (.int .i64 0) 1 8 Try.underlying24 hi hz0 hz1 hz2 rfl (by decide) _ _ _ rfl (Xc.alloc _) ⟨wg.heap.size, 0, none⟩ 1 1 [.int .i64 1] rfl rfl ?c1 ?c2 ?c3 ?c4 ?c5 ?_)
      case c1 =>
        intro j u hj
        match j, hj with
        | 0, hj => simp at hj; subst hj; simp [Addr.add]
      case c2 => intro u hu; simp at hu; subst hu; rfl
      case c3 => unfold maxLen; omega
      case c4 => omega
      case c5 => omega
      intro v' w5 hown' hgrow _ hown''
      have ZB : Below w.heap.size w w5 := (btrans HX hba).grown hgrow (by omega) (fun j e => by have := hcb j e; omega)
      have Z0 := blk_grown hgrow (blk_keep hba Xk0) (fun j e => by have := hcb j e; omega)
      have Z1 := blk_grown hgrow (blk_keep hba Xk1) (fun j e => by have := hcb j e; omega)
      have Zl := blk_grown hgrow (blk_keep hba Xl) (fun j e => by have := hcb j e; omega)
      have ZO := (XO.below hba).grown hgrow (fun j e => by have := hcb j e; omega)
      have Zc : w5.ownsRow (bl + 1) 3 1 v' (k + 1) ((cl p os (k + 1)).map (.int .i64)) := by
        rw [hC.out, List.map_append]; exact hown'
      have Zs := hgrow.size
      have Zd : ∀ j, v'.ownBlock = some j → bl < j ∧ (j < lo ∨ hi' ≤ j) := by
        intro j e
        rcases hown'' with h | h
        · exact hcb j (h ▸ e)
        · rw [h] at e
          cases e
          exact ⟨by omega, by omega⟩
      clear hown' hgrow hba hown'' Xc XO Xl Xk0 Xk1 HX hcb
      go_wp2
      go_roundw
      case rel => exact ⟨k + 1, _, _, _, _, _, _, _, _, by omega, by go_num, Z0, Z1, Zl, Zc, ZO, ⟨by omega, by omega, by omega⟩, Zd, ZB⟩
      case measure => simp [intOf]; omega
    obtain rfl : k = os.length := by omega
    obtain ⟨⟨l0, l1, l2⟩, -⟩ := blk3 kl
    obtain ⟨⟨z0, z1, z2⟩, yy0, yy1, yy2⟩ := blk3 k1
    have mO := ((O.setOut (g := w.heap.size + 1) (i := 0) (u := .slice x (lk p os os.length).pos.length cx) (by omega)).setOut (g := w.heap.size + 1) (i := 1) (u := .slice y (lk p os os.length).set.length cy) (by omega)).setOut (g := w.heap.size + 1) (i := 2) (u := .slice z (lk p os os.length).taken.length cz) (by omega)
    have mB := below_set (o := 2) (v := .slice z (lk p os os.length).taken.length cz) (b := w.heap.size + 1) (by omega) (below_set (o := 1) (v := .slice y (lk p os os.length).set.length cy) (b := w.heap.size + 1) (by omega) (below_set (o := 0) (v := .slice x (lk p os os.length).pos.length cx) (b := w.heap.size + 1) (by omega) HB))
    have mC := own_set (b := w.heap.size + 1) (i := 2) (u := .slice z (lk p os os.length).taken.length cz) (own_set (b := w.heap.size + 1) (i := 1) (u := .slice y (lk p os os.length).set.length cy) (own_set (b := w.heap.size + 1) (i := 0) (u := .slice x (lk p os os.length).pos.length cx) oc (fun j e => by have := hcb j e; omega)) (fun j e => by have := hcb j e; omega)) (fun j e => by have := hcb j e; omega)
    have hlt2 := own_blk_lt oc
    have mR := RowZ.of (hi := wr.heap.size) mC hlt2
    have hcn : (cl p os os.length).length = os.length := cl_len (Nat.le_refl _)
    have s1 := HB.size
    clear k0 k1 kl oc O HB hO mC
    replace hcn := hide hcn
    go_wp2_with fail
    refine bodyPost_ret (v := .tuple #[.agg #[.slice x (lk p os os.length).pos.length cx, .slice y (lk p os os.length).set.length cy, .slice z (lk p os os.length).taken.length cz], .slice gv os.length cgv]) (by simp [results, Try.results15, go_sem, z0, z1, z2]) rfl ?_
    refine ⟨x, cx, y, cy, z, cz, gv, cgv, by rw [hQ.out.1, hQ.out.2, hcn.out], by rw [hQ.out.1]; exact mO.wider (by omega) (by simp only [World.size_setCell]; omega), by rw [hQ.out.2, hcn.out]; exact mR.wider (by omega) (by simp only [World.size_setCell]; exact Nat.le_refl _), mB⟩
end Go.Proofs.Ytpgjllefhlanpaa
