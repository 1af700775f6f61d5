/- The program's Bare. -/
import Derived.Test.YtpgjllefhlanpaaLS
import Derived.Test.YtpgjllefhlanpaaIQ
namespace Go.Proofs.Ytpgjllefhlanpaa
open Go.RowKit

theorem ownMade (w : World) (M : Array Value) (T n base : Nat) (hb : base ≤ w.heap.size) (hn : n ≤ maxLen) (hs : M.size = n) : (w.alloc (.cells M T)).ownsRow base T 1 (.slice (some ⟨w.heap.size, 0, none⟩) n n) n M.toList :=
  ⟨by simp [hs], .inr ⟨w.heap.size, n, M, rfl, hb, new1, Nat.le_refl _, hn, by simp [hs], by rw [Nat.mul_one]; exact List.take_of_length_le (by simp [hs])⟩⟩
theorem plainS {b c : Nat} : Plain (some ⟨b, 0, none⟩) c := ⟨(fun h => by cases h), (fun x h => by cases h; rfl)⟩

theorem made3pst (w : World) (M1 M2 M3 : Array Value) {n1 n2 n3 : Nat} (m1 : M1.size = n1 ∧ M1.toList = (List.replicate n1 (0 : Int)).map (.int .i64)) (m2 : M2.size = n2 ∧ M2.toList = (List.replicate n2 false).map .bool) (m3 : M3.size = n3 ∧ M3.toList = (List.replicate n3 false).map .bool) (l1 : n1 ≤ maxLen) (l2 : n2 ≤ maxLen) (l3 : n3 ≤ maxLen) :
    LockOwn (((w.alloc (.cells M1 3)).alloc (.cells M2 4)).alloc (.cells M3 4)) w.heap.size (w.heap.size + 1 + 1 + 1) (some ⟨w.heap.size, 0, none⟩) n1 (some ⟨w.heap.size + 1, 0, none⟩) n2 (some ⟨w.heap.size + 1 + 1, 0, none⟩) n3 ⟨List.replicate n1 0, List.replicate n2 false, List.replicate n3 false⟩ := by
  have rp := ownMade w M1 3 n1 w.heap.size (by exact Nat.le_refl _) l1 m1.1
  replace rp := own_keep rp (balloc (w.alloc (.cells M1 3)) (.cells M2 4))
  replace rp := own_keep rp (balloc ((w.alloc (.cells M1 3)).alloc (.cells M2 4)) (.cells M3 4))
  rw [m1.2] at rp
  have rs := ownMade (w.alloc (.cells M1 3)) M2 4 n2 w.heap.size (by simp; try omega) l2 m2.1
  replace rs := own_keep rs (balloc ((w.alloc (.cells M1 3)).alloc (.cells M2 4)) (.cells M3 4))
  rw [m2.2] at rs
  simp only [sz1] at rs
  have rt := ownMade ((w.alloc (.cells M1 3)).alloc (.cells M2 4)) M3 4 n3 w.heap.size (by simp; try omega) l3 m3.1
  rw [m3.2] at rt
  simp only [sz1] at rt
  refine ⟨?_, ?_, ?_, ?_, ?_, ?_⟩
  · simpa using RowZ.of (hi := w.heap.size + 1 + 1 + 1) rp (fun k hk => by simp [Value.ownBlock] at hk; omega)
  · simpa using RowZ.of (hi := w.heap.size + 1 + 1 + 1) rs (fun k hk => by simp [Value.ownBlock] at hk; omega)
  · simpa using RowZ.of (hi := w.heap.size + 1 + 1 + 1) rt (fun k hk => by simp [Value.ownBlock] at hk; omega)
  · intro _ _ k hk e; simp [Value.ownBlock] at hk e; omega
  · intro _ _ k hk e; simp [Value.ownBlock] at hk e; omega
  · intro _ _ k hk e; simp [Value.ownBlock] at hk e; omega

theorem made3pts (w : World) (M1 M2 M3 : Array Value) {n1 n2 n3 : Nat} (m1 : M1.size = n1 ∧ M1.toList = (List.replicate n1 (0 : Int)).map (.int .i64)) (m2 : M2.size = n2 ∧ M2.toList = (List.replicate n2 false).map .bool) (m3 : M3.size = n3 ∧ M3.toList = (List.replicate n3 false).map .bool) (l1 : n1 ≤ maxLen) (l2 : n2 ≤ maxLen) (l3 : n3 ≤ maxLen) :
    LockOwn (((w.alloc (.cells M1 3)).alloc (.cells M3 4)).alloc (.cells M2 4)) w.heap.size (w.heap.size + 1 + 1 + 1) (some ⟨w.heap.size, 0, none⟩) n1 (some ⟨w.heap.size + 1 + 1, 0, none⟩) n2 (some ⟨w.heap.size + 1, 0, none⟩) n3 ⟨List.replicate n1 0, List.replicate n2 false, List.replicate n3 false⟩ := by
  have rp := ownMade w M1 3 n1 w.heap.size (by exact Nat.le_refl _) l1 m1.1
  replace rp := own_keep rp (balloc (w.alloc (.cells M1 3)) (.cells M3 4))
  replace rp := own_keep rp (balloc ((w.alloc (.cells M1 3)).alloc (.cells M3 4)) (.cells M2 4))
  rw [m1.2] at rp
  have rt := ownMade (w.alloc (.cells M1 3)) M3 4 n3 w.heap.size (by simp; try omega) l3 m3.1
  replace rt := own_keep rt (balloc ((w.alloc (.cells M1 3)).alloc (.cells M3 4)) (.cells M2 4))
  rw [m3.2] at rt
  simp only [sz1] at rt
  have rs := ownMade ((w.alloc (.cells M1 3)).alloc (.cells M3 4)) M2 4 n2 w.heap.size (by simp; try omega) l2 m2.1
  rw [m2.2] at rs
  simp only [sz1] at rs
  refine ⟨?_, ?_, ?_, ?_, ?_, ?_⟩
  · simpa using RowZ.of (hi := w.heap.size + 1 + 1 + 1) rp (fun k hk => by simp [Value.ownBlock] at hk; omega)
  · simpa using RowZ.of (hi := w.heap.size + 1 + 1 + 1) rs (fun k hk => by simp [Value.ownBlock] at hk; omega)
  · simpa using RowZ.of (hi := w.heap.size + 1 + 1 + 1) rt (fun k hk => by simp [Value.ownBlock] at hk; omega)
  · intro _ _ k hk e; simp [Value.ownBlock] at hk e; omega
  · intro _ _ k hk e; simp [Value.ownBlock] at hk e; omega
  · intro _ _ k hk e; simp [Value.ownBlock] at hk e; omega

theorem made3spt (w : World) (M1 M2 M3 : Array Value) {n1 n2 n3 : Nat} (m1 : M1.size = n1 ∧ M1.toList = (List.replicate n1 (0 : Int)).map (.int .i64)) (m2 : M2.size = n2 ∧ M2.toList = (List.replicate n2 false).map .bool) (m3 : M3.size = n3 ∧ M3.toList = (List.replicate n3 false).map .bool) (l1 : n1 ≤ maxLen) (l2 : n2 ≤ maxLen) (l3 : n3 ≤ maxLen) :
    LockOwn (((w.alloc (.cells M2 4)).alloc (.cells M1 3)).alloc (.cells M3 4)) w.heap.size (w.heap.size + 1 + 1 + 1) (some ⟨w.heap.size + 1, 0, none⟩) n1 (some ⟨w.heap.size, 0, none⟩) n2 (some ⟨w.heap.size + 1 + 1, 0, none⟩) n3 ⟨List.replicate n1 0, List.replicate n2 false, List.replicate n3 false⟩ := by
  have rs := ownMade w M2 4 n2 w.heap.size (by exact Nat.le_refl _) l2 m2.1
  replace rs := own_keep rs (balloc (w.alloc (.cells M2 4)) (.cells M1 3))
  replace rs := own_keep rs (balloc ((w.alloc (.cells M2 4)).alloc (.cells M1 3)) (.cells M3 4))
  rw [m2.2] at rs
  have rp := ownMade (w.alloc (.cells M2 4)) M1 3 n1 w.heap.size (by simp; try omega) l1 m1.1
  replace rp := own_keep rp (balloc ((w.alloc (.cells M2 4)).alloc (.cells M1 3)) (.cells M3 4))
  rw [m1.2] at rp
  simp only [sz1] at rp
  have rt := ownMade ((w.alloc (.cells M2 4)).alloc (.cells M1 3)) M3 4 n3 w.heap.size (by simp; try omega) l3 m3.1
  rw [m3.2] at rt
  simp only [sz1] at rt
  refine ⟨?_, ?_, ?_, ?_, ?_, ?_⟩
  · simpa using RowZ.of (hi := w.heap.size + 1 + 1 + 1) rp (fun k hk => by simp [Value.ownBlock] at hk; omega)
  · simpa using RowZ.of (hi := w.heap.size + 1 + 1 + 1) rs (fun k hk => by simp [Value.ownBlock] at hk; omega)
  · simpa using RowZ.of (hi := w.heap.size + 1 + 1 + 1) rt (fun k hk => by simp [Value.ownBlock] at hk; omega)
  · intro _ _ k hk e; simp [Value.ownBlock] at hk e; omega
  · intro _ _ k hk e; simp [Value.ownBlock] at hk e; omega
  · intro _ _ k hk e; simp [Value.ownBlock] at hk e; omega

theorem made3stp (w : World) (M1 M2 M3 : Array Value) {n1 n2 n3 : Nat} (m1 : M1.size = n1 ∧ M1.toList = (List.replicate n1 (0 : Int)).map (.int .i64)) (m2 : M2.size = n2 ∧ M2.toList = (List.replicate n2 false).map .bool) (m3 : M3.size = n3 ∧ M3.toList = (List.replicate n3 false).map .bool) (l1 : n1 ≤ maxLen) (l2 : n2 ≤ maxLen) (l3 : n3 ≤ maxLen) :
    LockOwn (((w.alloc (.cells M2 4)).alloc (.cells M3 4)).alloc (.cells M1 3)) w.heap.size (w.heap.size + 1 + 1 + 1) (some ⟨w.heap.size + 1 + 1, 0, none⟩) n1 (some ⟨w.heap.size, 0, none⟩) n2 (some ⟨w.heap.size + 1, 0, none⟩) n3 ⟨List.replicate n1 0, List.replicate n2 false, List.replicate n3 false⟩ := by
  have rs := ownMade w M2 4 n2 w.heap.size (by exact Nat.le_refl _) l2 m2.1
  replace rs := own_keep rs (balloc (w.alloc (.cells M2 4)) (.cells M3 4))
  replace rs := own_keep rs (balloc ((w.alloc (.cells M2 4)).alloc (.cells M3 4)) (.cells M1 3))
  rw [m2.2] at rs
  have rt := ownMade (w.alloc (.cells M2 4)) M3 4 n3 w.heap.size (by simp; try omega) l3 m3.1
  replace rt := own_keep rt (balloc ((w.alloc (.cells M2 4)).alloc (.cells M3 4)) (.cells M1 3))
  rw [m3.2] at rt
  simp only [sz1] at rt
  have rp := ownMade ((w.alloc (.cells M2 4)).alloc (.cells M3 4)) M1 3 n1 w.heap.size (by simp; try omega) l1 m1.1
  rw [m1.2] at rp
  simp only [sz1] at rp
  refine ⟨?_, ?_, ?_, ?_, ?_, ?_⟩
  · simpa using RowZ.of (hi := w.heap.size + 1 + 1 + 1) rp (fun k hk => by simp [Value.ownBlock] at hk; omega)
  · simpa using RowZ.of (hi := w.heap.size + 1 + 1 + 1) rs (fun k hk => by simp [Value.ownBlock] at hk; omega)
  · simpa using RowZ.of (hi := w.heap.size + 1 + 1 + 1) rt (fun k hk => by simp [Value.ownBlock] at hk; omega)
  · intro _ _ k hk e; simp [Value.ownBlock] at hk e; omega
  · intro _ _ k hk e; simp [Value.ownBlock] at hk e; omega
  · intro _ _ k hk e; simp [Value.ownBlock] at hk e; omega

theorem made3tps (w : World) (M1 M2 M3 : Array Value) {n1 n2 n3 : Nat} (m1 : M1.size = n1 ∧ M1.toList = (List.replicate n1 (0 : Int)).map (.int .i64)) (m2 : M2.size = n2 ∧ M2.toList = (List.replicate n2 false).map .bool) (m3 : M3.size = n3 ∧ M3.toList = (List.replicate n3 false).map .bool) (l1 : n1 ≤ maxLen) (l2 : n2 ≤ maxLen) (l3 : n3 ≤ maxLen) :
    LockOwn (((w.alloc (.cells M3 4)).alloc (.cells M1 3)).alloc (.cells M2 4)) w.heap.size (w.heap.size + 1 + 1 + 1) (some ⟨w.heap.size + 1, 0, none⟩) n1 (some ⟨w.heap.size + 1 + 1, 0, none⟩) n2 (some ⟨w.heap.size, 0, none⟩) n3 ⟨List.replicate n1 0, List.replicate n2 false, List.replicate n3 false⟩ := by
  have rt := ownMade w M3 4 n3 w.heap.size (by exact Nat.le_refl _) l3 m3.1
  replace rt := own_keep rt (balloc (w.alloc (.cells M3 4)) (.cells M1 3))
  replace rt := own_keep rt (balloc ((w.alloc (.cells M3 4)).alloc (.cells M1 3)) (.cells M2 4))
  rw [m3.2] at rt
  have rp := ownMade (w.alloc (.cells M3 4)) M1 3 n1 w.heap.size (by simp; try omega) l1 m1.1
  replace rp := own_keep rp (balloc ((w.alloc (.cells M3 4)).alloc (.cells M1 3)) (.cells M2 4))
  rw [m1.2] at rp
  simp only [sz1] at rp
  have rs := ownMade ((w.alloc (.cells M3 4)).alloc (.cells M1 3)) M2 4 n2 w.heap.size (by simp; try omega) l2 m2.1
  rw [m2.2] at rs
  simp only [sz1] at rs
  refine ⟨?_, ?_, ?_, ?_, ?_, ?_⟩
  · simpa using RowZ.of (hi := w.heap.size + 1 + 1 + 1) rp (fun k hk => by simp [Value.ownBlock] at hk; omega)
  · simpa using RowZ.of (hi := w.heap.size + 1 + 1 + 1) rs (fun k hk => by simp [Value.ownBlock] at hk; omega)
  · simpa using RowZ.of (hi := w.heap.size + 1 + 1 + 1) rt (fun k hk => by simp [Value.ownBlock] at hk; omega)
  · intro _ _ k hk e; simp [Value.ownBlock] at hk e; omega
  · intro _ _ k hk e; simp [Value.ownBlock] at hk e; omega
  · intro _ _ k hk e; simp [Value.ownBlock] at hk e; omega

theorem made3tsp (w : World) (M1 M2 M3 : Array Value) {n1 n2 n3 : Nat} (m1 : M1.size = n1 ∧ M1.toList = (List.replicate n1 (0 : Int)).map (.int .i64)) (m2 : M2.size = n2 ∧ M2.toList = (List.replicate n2 false).map .bool) (m3 : M3.size = n3 ∧ M3.toList = (List.replicate n3 false).map .bool) (l1 : n1 ≤ maxLen) (l2 : n2 ≤ maxLen) (l3 : n3 ≤ maxLen) :
    LockOwn (((w.alloc (.cells M3 4)).alloc (.cells M2 4)).alloc (.cells M1 3)) w.heap.size (w.heap.size + 1 + 1 + 1) (some ⟨w.heap.size + 1 + 1, 0, none⟩) n1 (some ⟨w.heap.size + 1, 0, none⟩) n2 (some ⟨w.heap.size, 0, none⟩) n3 ⟨List.replicate n1 0, List.replicate n2 false, List.replicate n3 false⟩ := by
  have rt := ownMade w M3 4 n3 w.heap.size (by exact Nat.le_refl _) l3 m3.1
  replace rt := own_keep rt (balloc (w.alloc (.cells M3 4)) (.cells M2 4))
  replace rt := own_keep rt (balloc ((w.alloc (.cells M3 4)).alloc (.cells M2 4)) (.cells M1 3))
  rw [m3.2] at rt
  have rs := ownMade (w.alloc (.cells M3 4)) M2 4 n2 w.heap.size (by simp; try omega) l2 m2.1
  replace rs := own_keep rs (balloc ((w.alloc (.cells M3 4)).alloc (.cells M2 4)) (.cells M1 3))
  rw [m2.2] at rs
  simp only [sz1] at rs
  have rp := ownMade ((w.alloc (.cells M3 4)).alloc (.cells M2 4)) M1 3 n1 w.heap.size (by simp; try omega) l1 m1.1
  rw [m1.2] at rp
  simp only [sz1] at rp
  refine ⟨?_, ?_, ?_, ?_, ?_, ?_⟩
  · simpa using RowZ.of (hi := w.heap.size + 1 + 1 + 1) rp (fun k hk => by simp [Value.ownBlock] at hk; omega)
  · simpa using RowZ.of (hi := w.heap.size + 1 + 1 + 1) rs (fun k hk => by simp [Value.ownBlock] at hk; omega)
  · simpa using RowZ.of (hi := w.heap.size + 1 + 1 + 1) rt (fun k hk => by simp [Value.ownBlock] at hk; omega)
  · intro _ _ k hk e; simp [Value.ownBlock] at hk e; omega
  · intro _ _ k hk e; simp [Value.ownBlock] at hk e; omega
  · intro _ _ k hk e; simp [Value.ownBlock] at hk e; omega

set_option maxRecDepth 20000 in
set_option maxHeartbeats 6400000 in
theorem cBareI (a b : Option Addr) (ca cb : Nat) (p : PlantV) (w : World) (hP : PlantIn w a b p) (hS : Small p) :
    Calls Try.prog 7 #[plantVal a ca b cb p] w fun e w' => ∃ x' cx' y' cy' z' cz', e = .returned (lockVal x' cx' y' cy' z' cz' (bareL p)) ∧ LockOwn w' w.heap.size w'.heap.size x' cx' y' cy' z' cz' (bareL p) ∧ Plain x' cx' ∧ Plain y' cy' ∧ Plain z' cz' ∧ Below w.heap.size w w' := by
  have CP := fun w hP => cPlantOkI a b ca cb p w hP hS
  have hQ0 : ∀ v, plantOk p = v → Hid (bareL p = bif v then ⟨List.replicate p.under.length 0, List.replicate p.routes.length false, List.replicate p.blocks.toNat false⟩ else ⟨[], [], []⟩) := fun v h => by
    refine hide ?_
    unfold bareL bareOf; rw [h]
  have hR := fun (h : plantOk p = true) => right_of h
  generalize bareL p = L at *
  obtain ⟨U, B, R⟩ := p
  have s1 := hS.under
  have s2 := hS.routes
  unfold plantVal at *
  dsimp only at *
  have HB := btrans (balloc w (.cells #[.slice a U.length ca, .int .i64 B, .slice b R.length cb] 27)) (balloc _ (.cells #[.slice none 0 0, .slice none 0 0, .slice none 0 0] 33))
  have K0 : ((w.alloc (.cells #[.slice a U.length ca, .int .i64 B, .slice b R.length cb] 27)).alloc (.cells #[.slice none 0 0, .slice none 0 0, .slice none 0 0] 33)).heap[w.heap.size]? = some (.cells #[.slice a U.length ca, .int .i64 B, .slice b R.length cb] 27 (0, 0)) := two_blocks1 _ _ _
  have K1 : ((w.alloc (.cells #[.slice a U.length ca, .int .i64 B, .slice b R.length cb] 27)).alloc (.cells #[.slice none 0 0, .slice none 0 0, .slice none 0 0] 33)).heap[w.heap.size + 1]? = some (.cells #[.slice none 0 0, .slice none 0 0, .slice none 0 0] 33 (0, 0)) := two_blocks2 _ _ _
  go_enter Try.func7, Try.ntmps7
  go_wp2_with fail
  refine (CP _ (hP.below HB)).mono ?_
  rintro e w1 ⟨rfl, hb⟩
  replace K0 := blk_keep hb K0
  replace K1 := blk_keep hb K1
  replace HB := btrans HB hb
  clear hb CP
  cases hok : plantOk ⟨U, B, R⟩
  · have hQ := hide (show L = ⟨[], [], []⟩ from (hQ0 false hok).out)
    obtain ⟨⟨z0, z1, z2⟩, y0, y1, y2⟩ := blk3 K1
    replace hok := hide hok
    clear hQ0 hR
    have mB := below_set (o := 2) (v := .slice none 0 0) (b := w.heap.size + 1) (by omega) (below_set (o := 1) (v := .slice none 0 0) (b := w.heap.size + 1) (by omega) (below_set (o := 0) (v := .slice none 0 0) (b := w.heap.size + 1) (by omega) HB))
    go_wp2_with fail
    refine bodyPost_ret (v := .agg #[.slice none 0 0, .slice none 0 0, .slice none 0 0]) (by simp [results, Try.results7, go_sem, z0, z1, z2]) rfl ⟨none, 0, none, 0, none, 0, by rw [hQ.out]; rfl, by rw [hQ.out]; exact ⟨.inl ⟨rfl, _, _, rfl⟩, .inl ⟨rfl, _, _, rfl⟩, .inl ⟨rfl, _, _, rfl⟩, (fun h => absurd rfl h), (fun h => absurd rfl h), (fun h => absurd rfl h)⟩, ⟨fun _ => rfl, (fun x h => by cases h)⟩, ⟨fun _ => rfl, (fun x h => by cases h)⟩, ⟨fun _ => rfl, (fun x h => by cases h)⟩, mB⟩
  have hRt := hR hok
  obtain ⟨b1, b24⟩ : 1 ≤ B ∧ B ≤ 24 := ⟨hRt.b1, hRt.b24⟩
  have hQ := hide (show L = ⟨List.replicate U.length 0, List.replicate R.length false, List.replicate B.toNat false⟩ from (hQ0 true hok).out)
  replace hok := hide hok
  clear hQ0 hR hRt
  obtain ⟨Bn, rfl⟩ := Int.eq_ofNat_of_zero_le (show 0 ≤ B by omega)
  rw [show ((Bn : Int)).toNat = Bn from rfl] at hQ
  have hK1 := lt_of_block K1
  obtain ⟨i0, hi, hz0, hz1, hz2⟩ := info_parts2 infoInts
  obtain ⟨i0', hi', hz0', hz1', hz2'⟩ := info_parts2 infoBools
  have k1 : ∀ w', (Instr.makeSlice 24 (.int .i64 (U.length : Int)) (.int .i64 (U.length : Int))).run Try.prog w' = .ok (.slice (some ⟨w'.heap.size, 0, none⟩) U.length U.length) (w'.alloc (.cells (madeCells #[.int .i64 0] U.length) 3)) := by
    intro w'
    have := run_make (P := Try.prog) w' 24 3 i0 (.int .i64 0) Try.underlying24 hi hz0 .i64 .i64 (U.length : Int) (U.length : Int) (by omega) (by omega) (by rw [hz2]; omega) (by omega)
    rw [hz1] at this
    simpa [Value.cells] using this
  have k2 : ∀ n : Nat, n ≤ 1048576 → ∀ w', (Instr.makeSlice 31 (.int .i64 (n : Int)) (.int .i64 (n : Int))).run Try.prog w' = .ok (.slice (some ⟨w'.heap.size, 0, none⟩) n n) (w'.alloc (.cells (madeCells #[.bool false] n) 4)) := by
    intro n hn w'
    have := run_make (P := Try.prog) w' 31 4 i0' (.bool false) Try.underlying31 hi' hz0' .i64 .i64 (n : Int) (n : Int) (by omega) (by omega) (by rw [hz2']; omega) (by omega)
    rw [hz1'] at this
    simpa [Value.cells] using this
  have k3 := k2 R.length s2
  have k4 := k2 Bn (by omega)
  have m1 : (madeCells #[.int .i64 0] U.length).size = U.length ∧ (madeCells #[.int .i64 0] U.length).toList = (List.replicate U.length (0 : Int)).map (.int .i64) := ⟨size_madeCells _ _, by rw [toList_madeCells_one]; simp⟩
  have m2 : (madeCells #[.bool false] R.length).size = R.length ∧ (madeCells #[.bool false] R.length).toList = (List.replicate R.length false).map .bool := ⟨size_madeCells _ _, by rw [toList_madeCells_one]; simp⟩
  have m3 : (madeCells #[.bool false] Bn).size = Bn ∧ (madeCells #[.bool false] Bn).toList = (List.replicate Bn false).map .bool := ⟨size_madeCells _ _, by rw [toList_madeCells_one]; simp⟩
  have l1 : U.length ≤ maxLen := by unfold maxLen; omega
  have l2 : R.length ≤ maxLen := by unfold maxLen; omega
  have l3 : Bn ≤ maxLen := by unfold maxLen; omega
  generalize madeCells #[.int .i64 0] U.length = M1 at *
  generalize madeCells #[.bool false] R.length = M2 at *
  generalize madeCells #[.bool false] Bn = M3 at *
  clear k2 hi hz0 hz1 hz2 hi' hz0' hz1' hz2'
  replace m1 := hide m1
  replace m2 := hide m2
  replace m3 := hide m3
  obtain ⟨⟨z0, z1, z2⟩, -⟩ := blk3 K0
  go_wp2_with fail
  refine wp_region_held_drew (S := (fun w' => w'.cell? ⟨w.heap.size, 0, none⟩ = some (.slice a U.length ca) ∧ w'.cell? ⟨w.heap.size, 1, none⟩ = some (.int .i64 (Bn : Int)) ∧ w'.cell? ⟨w.heap.size, 2, none⟩ = some (.slice b R.length cb))) (by kernel_rfl) ?_ (fun hHeld => ?_)
  · go_keep
  refine wpAnyH_take (i := 0) (v := .pointer (some ⟨w.heap.size, 0, none⟩)) rfl (by kernel_rfl) (by kernel_rfl) (by kernel_rfl) (fun _ _ _ h => h) (Or.inl ⟨by kernel_rfl, fun w hS => by (obtain ⟨hS0, hS1, hS2⟩ := hS; go_simp)⟩) hHeld ?_
  change wpAnyH _ _ _ _ _ _ _ { tmps := #[_, _, _, _, _, _, _, .pointer (some ⟨w.heap.size, 0, none⟩), _, _, _, _, _, _, _, _, _, _, _], defers := [] } _
  refine wpAnyH_take (i := 1) (v := .slice a U.length ca) rfl (by kernel_rfl) (by kernel_rfl) (by kernel_rfl) (fun _ _ _ h => h) (Or.inl ⟨by kernel_rfl, fun w hS => by (obtain ⟨hS0, hS1, hS2⟩ := hS; go_simp)⟩) hHeld ?_
  change wpAnyH _ _ _ _ _ _ _ { tmps := #[_, _, _, _, _, _, _, .pointer (some ⟨w.heap.size, 0, none⟩), .slice a U.length ca, _, _, _, _, _, _, _, _, _, _], defers := [] } _
  refine wpAnyH_take (i := 2) (v := .int .i64 (U.length : Int)) rfl (by kernel_rfl) (by kernel_rfl) (by kernel_rfl) (fun _ _ _ h => h) (Or.inl ⟨by kernel_rfl, fun w hS => by (obtain ⟨hS0, hS1, hS2⟩ := hS; go_simp)⟩) hHeld ?_
  change wpAnyH _ _ _ _ _ _ _ { tmps := #[_, _, _, _, _, _, _, .pointer (some ⟨w.heap.size, 0, none⟩), .slice a U.length ca, .int .i64 (U.length : Int), _, _, _, _, _, _, _, _, _], defers := [] } _
  refine wpAnyH_take (i := 4) (v := .pointer (some ⟨w.heap.size, 2, none⟩)) rfl (by kernel_rfl) (by kernel_rfl) (by kernel_rfl) (fun _ _ _ h => h) (Or.inl ⟨by kernel_rfl, fun w hS => by (obtain ⟨hS0, hS1, hS2⟩ := hS; go_simp)⟩) hHeld ?_
  change wpAnyH _ _ _ _ _ _ _ { tmps := #[_, _, _, _, _, _, _, .pointer (some ⟨w.heap.size, 0, none⟩), .slice a U.length ca, .int .i64 (U.length : Int), _, .pointer (some ⟨w.heap.size, 2, none⟩), _, _, _, _, _, _, _], defers := [] } _
  refine wpAnyH_take (i := 5) (v := .slice b R.length cb) rfl (by kernel_rfl) (by kernel_rfl) (by kernel_rfl) (fun _ _ _ h => h) (Or.inl ⟨by kernel_rfl, fun w hS => by (obtain ⟨hS0, hS1, hS2⟩ := hS; go_simp)⟩) hHeld ?_
  change wpAnyH _ _ _ _ _ _ _ { tmps := #[_, _, _, _, _, _, _, .pointer (some ⟨w.heap.size, 0, none⟩), .slice a U.length ca, .int .i64 (U.length : Int), _, .pointer (some ⟨w.heap.size, 2, none⟩), .slice b R.length cb, _, _, _, _, _, _], defers := [] } _
  refine wpAnyH_take (i := 6) (v := .int .i64 (R.length : Int)) rfl (by kernel_rfl) (by kernel_rfl) (by kernel_rfl) (fun _ _ _ h => h) (Or.inl ⟨by kernel_rfl, fun w hS => by (obtain ⟨hS0, hS1, hS2⟩ := hS; go_simp)⟩) hHeld ?_
  change wpAnyH _ _ _ _ _ _ _ { tmps := #[_, _, _, _, _, _, _, .pointer (some ⟨w.heap.size, 0, none⟩), .slice a U.length ca, .int .i64 (U.length : Int), _, .pointer (some ⟨w.heap.size, 2, none⟩), .slice b R.length cb, .int .i64 (R.length : Int), _, _, _, _, _], defers := [] } _
  refine wpAnyH_take (i := 8) (v := .pointer (some ⟨w.heap.size, 1, none⟩)) rfl (by kernel_rfl) (by kernel_rfl) (by kernel_rfl) (fun _ _ _ h => h) (Or.inl ⟨by kernel_rfl, fun w hS => by (obtain ⟨hS0, hS1, hS2⟩ := hS; go_simp)⟩) hHeld ?_
  change wpAnyH _ _ _ _ _ _ _ { tmps := #[_, _, _, _, _, _, _, .pointer (some ⟨w.heap.size, 0, none⟩), .slice a U.length ca, .int .i64 (U.length : Int), _, .pointer (some ⟨w.heap.size, 2, none⟩), .slice b R.length cb, .int .i64 (R.length : Int), _, .pointer (some ⟨w.heap.size, 1, none⟩), _, _, _], defers := [] } _
  refine wpAnyH_take (i := 9) (v := .int .i64 (Bn : Int)) rfl (by kernel_rfl) (by kernel_rfl) (by kernel_rfl) (fun _ _ _ h => h) (Or.inl ⟨by kernel_rfl, fun w hS => by (obtain ⟨hS0, hS1, hS2⟩ := hS; go_simp)⟩) hHeld ?_
  change wpAnyH _ _ _ _ _ _ _ { tmps := #[_, _, _, _, _, _, _, .pointer (some ⟨w.heap.size, 0, none⟩), .slice a U.length ca, .int .i64 (U.length : Int), _, .pointer (some ⟨w.heap.size, 2, none⟩), .slice b R.length cb, .int .i64 (R.length : Int), _, .pointer (some ⟨w.heap.size, 1, none⟩), .int .i64 (Bn : Int), _, _], defers := [] } _
  refine wpAnyH_ready (rs := [3, 7, 10]) (by kernel_rfl) (by simp) ?_
  refine (AllReadyH.cons rfl (fun K hK => ?_) (AllReadyH.cons rfl (fun K hK => ?_) (AllReadyH.cons rfl (fun K hK => ?_) AllReadyH.nil)))
  · skip
    go_simp
    have b0 := balloc w1.drew (.cells M1 3)
    have B1 := btrans (bdraw (Below.refl w1.heap.size w1) 1) b0
    clear hHeld
    refine hK.out _ _ (by obtain ⟨⟨k0, k1, k2⟩, -⟩ := blk3 (blk_keep B1 K0); exact ⟨k0, k1, k2⟩) (fun hHeld => ?_)
    clear hK K
    change wpAnyH _ _ _ _ _ _ _ { tmps := #[_, _, _, _, _, _, _, .pointer (some ⟨w.heap.size, 0, none⟩), .slice a U.length ca, .int .i64 (U.length : Int), .slice (some ⟨w1.heap.size, 0, none⟩) U.length U.length, .pointer (some ⟨w.heap.size, 2, none⟩), .slice b R.length cb, .int .i64 (R.length : Int), _, .pointer (some ⟨w.heap.size, 1, none⟩), .int .i64 (Bn : Int), _, _], defers := [] } _
    refine wpAnyH_ready (rs := [7, 10]) (by kernel_rfl) (by simp) ?_
    refine (AllReadyH.cons rfl (fun K hK => ?_) (AllReadyH.cons rfl (fun K hK => ?_) AllReadyH.nil))
    · skip
      go_simp
      have b1 := balloc (w1.drew.alloc (.cells M1 3)) (.cells M2 4)
      have B2 := btrans B1 b1
      clear hHeld
      refine hK.out _ _ (by obtain ⟨⟨k0, k1, k2⟩, -⟩ := blk3 (blk_keep B2 K0); exact ⟨k0, k1, k2⟩) (fun hHeld => ?_)
      clear hK K
      change wpAnyH _ _ _ _ _ _ _ { tmps := #[_, _, _, _, _, _, _, .pointer (some ⟨w.heap.size, 0, none⟩), .slice a U.length ca, .int .i64 (U.length : Int), .slice (some ⟨w1.heap.size, 0, none⟩) U.length U.length, .pointer (some ⟨w.heap.size, 2, none⟩), .slice b R.length cb, .int .i64 (R.length : Int), .slice (some ⟨w1.heap.size + 1, 0, none⟩) R.length R.length, .pointer (some ⟨w.heap.size, 1, none⟩), .int .i64 (Bn : Int), _, _], defers := [] } _
      refine wpAnyH_ready (rs := [10]) (by kernel_rfl) (by simp) ?_
      refine (AllReadyH.cons rfl (fun K hK => ?_) AllReadyH.nil)
      · skip
        go_simp
        have b2 := balloc ((w1.drew.alloc (.cells M1 3)).alloc (.cells M2 4)) (.cells M3 4)
        have B3 := btrans B2 b2
        clear hHeld
        refine hK.out _ _ (by obtain ⟨⟨k0, k1, k2⟩, -⟩ := blk3 (blk_keep B3 K0); exact ⟨k0, k1, k2⟩) (fun hHeld => ?_)
        clear hK K
        change wpAnyH _ _ _ _ _ _ _ { tmps := #[_, _, _, _, _, _, _, .pointer (some ⟨w.heap.size, 0, none⟩), .slice a U.length ca, .int .i64 (U.length : Int), .slice (some ⟨w1.heap.size, 0, none⟩) U.length U.length, .pointer (some ⟨w.heap.size, 2, none⟩), .slice b R.length cb, .int .i64 (R.length : Int), .slice (some ⟨w1.heap.size + 1, 0, none⟩) R.length R.length, .pointer (some ⟨w.heap.size, 1, none⟩), .int .i64 (Bn : Int), .slice (some ⟨w1.heap.size + 1 + 1, 0, none⟩) Bn Bn, _], defers := [] } _
        refine wpAnyH_take (i := 11) (v := .agg #[.slice (some ⟨w1.heap.size, 0, none⟩) U.length U.length, .slice (some ⟨w1.heap.size + 1, 0, none⟩) R.length R.length, .slice (some ⟨w1.heap.size + 1 + 1, 0, none⟩) Bn Bn]) rfl (by kernel_rfl) (by kernel_rfl) (by kernel_rfl) (fun _ _ _ h => h) (Or.inl ⟨by kernel_rfl, fun w hS => by (obtain ⟨hS0, hS1, hS2⟩ := hS; go_simp)⟩) hHeld ?_
        change wpAnyH _ _ _ _ _ _ _ { tmps := #[_, _, _, _, _, _, _, .pointer (some ⟨w.heap.size, 0, none⟩), .slice a U.length ca, .int .i64 (U.length : Int), .slice (some ⟨w1.heap.size, 0, none⟩) U.length U.length, .pointer (some ⟨w.heap.size, 2, none⟩), .slice b R.length cb, .int .i64 (R.length : Int), .slice (some ⟨w1.heap.size + 1, 0, none⟩) R.length R.length, .pointer (some ⟨w.heap.size, 1, none⟩), .int .i64 (Bn : Int), .slice (some ⟨w1.heap.size + 1 + 1, 0, none⟩) Bn Bn, .agg #[.slice (some ⟨w1.heap.size, 0, none⟩) U.length U.length, .slice (some ⟨w1.heap.size + 1, 0, none⟩) R.length R.length, .slice (some ⟨w1.heap.size + 1 + 1, 0, none⟩) Bn Bn]], defers := [] } _
        have c0 := balloc w1 (.cells M1 3)
        have c1 := balloc (w1.alloc (.cells M1 3)) (.cells M2 4)
        have c2 := balloc ((w1.alloc (.cells M1 3)).alloc (.cells M2 4)) (.cells M3 4)
        have BX := btrans (btrans c0 c1) c2
        have KX := blk_keep BX K1
        have KY := blk_keep BX K0
        have O3 := made3pst w1 M1 M2 M3 m1.out m2.out m3.out l1 l2 l3
        have HX := btrans HB BX
        have hX : w1.heap.size + 1 + 1 + 1 ≤ (((w1.alloc (.cells M1 3)).alloc (.cells M2 4)).alloc (.cells M3 4)).heap.size := by simp
        clear c0 c1 c2 b0 b1 b2 B1 B2 B3 BX
        generalize (((w1.alloc (.cells M1 3)).alloc (.cells M2 4)).alloc (.cells M3 4)) = X at *
        obtain ⟨⟨z0, z1, z2⟩, y0, y1, y2⟩ := blk3 KX
        refine wpAnyH_ready (rs := [12]) (by kernel_rfl) (by simp) ?_
        refine AllReadyH.cons rfl (fun K hK => ?_) AllReadyH.nil
        go_simp
        clear hHeld
        have e2 := blk_set (i := 2) (v := .slice (some ⟨w1.heap.size + 1 + 1, 0, none⟩) Bn Bn) (blk_set (i := 1) (v := .slice (some ⟨w1.heap.size + 1, 0, none⟩) R.length R.length) (blk_set (i := 0) (v := .slice (some ⟨w1.heap.size, 0, none⟩) U.length U.length) KX))
        simp only [List.setIfInBounds_toArray, List.set_cons_zero, List.set_cons_succ] at e2
        have e0 := blk_other (b := w.heap.size + 1) (i := 2) (v := .slice (some ⟨w1.heap.size + 1 + 1, 0, none⟩) Bn Bn) (blk_other (b := w.heap.size + 1) (i := 1) (v := .slice (some ⟨w1.heap.size + 1, 0, none⟩) R.length R.length) (blk_other (b := w.heap.size + 1) (i := 0) (v := .slice (some ⟨w1.heap.size, 0, none⟩) U.length U.length) KY (by omega)) (by omega)) (by omega)
        refine hK.out _ _ (by obtain ⟨⟨k0, k1, k2⟩, -⟩ := blk3 e0; exact ⟨k0, k1, k2⟩) (fun hHeld => ?_)
        clear hK K
        refine wpAnyH_done (by kernel_rfl) ?_ _
        obtain ⟨⟨r0, r1, r2⟩, -⟩ := blk3 e2
        have mO := ((O3.setFar (g := w.heap.size + 1) (i := 0) (u := .slice (some ⟨w1.heap.size, 0, none⟩) U.length U.length) (by show _ < w1.heap.size; omega)).setFar (g := w.heap.size + 1) (i := 1) (u := .slice (some ⟨w1.heap.size + 1, 0, none⟩) R.length R.length) (by show _ < w1.heap.size; omega)).setFar (g := w.heap.size + 1) (i := 2) (u := .slice (some ⟨w1.heap.size + 1 + 1, 0, none⟩) Bn Bn) (by show _ < w1.heap.size; omega)
        have mB := below_set (o := 2) (v := .slice (some ⟨w1.heap.size + 1 + 1, 0, none⟩) Bn Bn) (b := w.heap.size + 1) (by omega) (below_set (o := 1) (v := .slice (some ⟨w1.heap.size + 1, 0, none⟩) R.length R.length) (b := w.heap.size + 1) (by omega) (below_set (o := 0) (v := .slice (some ⟨w1.heap.size, 0, none⟩) U.length U.length) (b := w.heap.size + 1) (by omega) HX))
        have dr := (Below.refl (((X.setCell ⟨w.heap.size + 1, 0, none⟩ (.slice (some ⟨w1.heap.size, 0, none⟩) U.length U.length)).setCell ⟨w.heap.size + 1, 1, none⟩ (.slice (some ⟨w1.heap.size + 1, 0, none⟩) R.length R.length)).setCell ⟨w.heap.size + 1, 2, none⟩ (.slice (some ⟨w1.heap.size + 1 + 1, 0, none⟩) Bn Bn)).heap.size (((X.setCell ⟨w.heap.size + 1, 0, none⟩ (.slice (some ⟨w1.heap.size, 0, none⟩) U.length U.length)).setCell ⟨w.heap.size + 1, 1, none⟩ (.slice (some ⟨w1.heap.size + 1, 0, none⟩) R.length R.length)).setCell ⟨w.heap.size + 1, 2, none⟩ (.slice (some ⟨w1.heap.size + 1 + 1, 0, none⟩) Bn Bn))).drew
        have mO2 := (mO.wider (lo' := w.heap.size) (hi' := (((X.setCell ⟨w.heap.size + 1, 0, none⟩ (.slice (some ⟨w1.heap.size, 0, none⟩) U.length U.length)).setCell ⟨w.heap.size + 1, 1, none⟩ (.slice (some ⟨w1.heap.size + 1, 0, none⟩) R.length R.length)).setCell ⟨w.heap.size + 1, 2, none⟩ (.slice (some ⟨w1.heap.size + 1 + 1, 0, none⟩) Bn Bn)).heap.size) (by omega) (by simpa using hX)).below dr
        have mB2 := btrans mB dr
        go_wp2_with fail
        refine bodyPost_ret (v := .agg #[.slice (some ⟨w1.heap.size, 0, none⟩) U.length U.length, .slice (some ⟨w1.heap.size + 1, 0, none⟩) R.length R.length, .slice (some ⟨w1.heap.size + 1 + 1, 0, none⟩) Bn Bn]) (by simp [results, Try.results7, go_sem, r0, r1, r2]) rfl ⟨some ⟨w1.heap.size, 0, none⟩, U.length, some ⟨w1.heap.size + 1, 0, none⟩, R.length, some ⟨w1.heap.size + 1 + 1, 0, none⟩, Bn, by rw [hQ.out]; simp [lockVal], by rw [hQ.out]; exact mO2, plainS, plainS, plainS, mB2⟩
    · skip
      go_simp
      have b1 := balloc (w1.drew.alloc (.cells M1 3)) (.cells M3 4)
      have B2 := btrans B1 b1
      clear hHeld
      refine hK.out _ _ (by obtain ⟨⟨k0, k1, k2⟩, -⟩ := blk3 (blk_keep B2 K0); exact ⟨k0, k1, k2⟩) (fun hHeld => ?_)
      clear hK K
      change wpAnyH _ _ _ _ _ _ _ { tmps := #[_, _, _, _, _, _, _, .pointer (some ⟨w.heap.size, 0, none⟩), .slice a U.length ca, .int .i64 (U.length : Int), .slice (some ⟨w1.heap.size, 0, none⟩) U.length U.length, .pointer (some ⟨w.heap.size, 2, none⟩), .slice b R.length cb, .int .i64 (R.length : Int), _, .pointer (some ⟨w.heap.size, 1, none⟩), .int .i64 (Bn : Int), .slice (some ⟨w1.heap.size + 1, 0, none⟩) Bn Bn, _], defers := [] } _
      refine wpAnyH_ready (rs := [7]) (by kernel_rfl) (by simp) ?_
      refine (AllReadyH.cons rfl (fun K hK => ?_) AllReadyH.nil)
      · skip
        go_simp
        have b2 := balloc ((w1.drew.alloc (.cells M1 3)).alloc (.cells M3 4)) (.cells M2 4)
        have B3 := btrans B2 b2
        clear hHeld
        refine hK.out _ _ (by obtain ⟨⟨k0, k1, k2⟩, -⟩ := blk3 (blk_keep B3 K0); exact ⟨k0, k1, k2⟩) (fun hHeld => ?_)
        clear hK K
        change wpAnyH _ _ _ _ _ _ _ { tmps := #[_, _, _, _, _, _, _, .pointer (some ⟨w.heap.size, 0, none⟩), .slice a U.length ca, .int .i64 (U.length : Int), .slice (some ⟨w1.heap.size, 0, none⟩) U.length U.length, .pointer (some ⟨w.heap.size, 2, none⟩), .slice b R.length cb, .int .i64 (R.length : Int), .slice (some ⟨w1.heap.size + 1 + 1, 0, none⟩) R.length R.length, .pointer (some ⟨w.heap.size, 1, none⟩), .int .i64 (Bn : Int), .slice (some ⟨w1.heap.size + 1, 0, none⟩) Bn Bn, _], defers := [] } _
        refine wpAnyH_take (i := 11) (v := .agg #[.slice (some ⟨w1.heap.size, 0, none⟩) U.length U.length, .slice (some ⟨w1.heap.size + 1 + 1, 0, none⟩) R.length R.length, .slice (some ⟨w1.heap.size + 1, 0, none⟩) Bn Bn]) rfl (by kernel_rfl) (by kernel_rfl) (by kernel_rfl) (fun _ _ _ h => h) (Or.inl ⟨by kernel_rfl, fun w hS => by (obtain ⟨hS0, hS1, hS2⟩ := hS; go_simp)⟩) hHeld ?_
        change wpAnyH _ _ _ _ _ _ _ { tmps := #[_, _, _, _, _, _, _, .pointer (some ⟨w.heap.size, 0, none⟩), .slice a U.length ca, .int .i64 (U.length : Int), .slice (some ⟨w1.heap.size, 0, none⟩) U.length U.length, .pointer (some ⟨w.heap.size, 2, none⟩), .slice b R.length cb, .int .i64 (R.length : Int), .slice (some ⟨w1.heap.size + 1 + 1, 0, none⟩) R.length R.length, .pointer (some ⟨w.heap.size, 1, none⟩), .int .i64 (Bn : Int), .slice (some ⟨w1.heap.size + 1, 0, none⟩) Bn Bn, .agg #[.slice (some ⟨w1.heap.size, 0, none⟩) U.length U.length, .slice (some ⟨w1.heap.size + 1 + 1, 0, none⟩) R.length R.length, .slice (some ⟨w1.heap.size + 1, 0, none⟩) Bn Bn]], defers := [] } _
        have c0 := balloc w1 (.cells M1 3)
        have c1 := balloc (w1.alloc (.cells M1 3)) (.cells M3 4)
        have c2 := balloc ((w1.alloc (.cells M1 3)).alloc (.cells M3 4)) (.cells M2 4)
        have BX := btrans (btrans c0 c1) c2
        have KX := blk_keep BX K1
        have KY := blk_keep BX K0
        have O3 := made3pts w1 M1 M2 M3 m1.out m2.out m3.out l1 l2 l3
        have HX := btrans HB BX
        have hX : w1.heap.size + 1 + 1 + 1 ≤ (((w1.alloc (.cells M1 3)).alloc (.cells M3 4)).alloc (.cells M2 4)).heap.size := by simp
        clear c0 c1 c2 b0 b1 b2 B1 B2 B3 BX
        generalize (((w1.alloc (.cells M1 3)).alloc (.cells M3 4)).alloc (.cells M2 4)) = X at *
        obtain ⟨⟨z0, z1, z2⟩, y0, y1, y2⟩ := blk3 KX
        refine wpAnyH_ready (rs := [12]) (by kernel_rfl) (by simp) ?_
        refine AllReadyH.cons rfl (fun K hK => ?_) AllReadyH.nil
        go_simp
        clear hHeld
        have e2 := blk_set (i := 2) (v := .slice (some ⟨w1.heap.size + 1, 0, none⟩) Bn Bn) (blk_set (i := 1) (v := .slice (some ⟨w1.heap.size + 1 + 1, 0, none⟩) R.length R.length) (blk_set (i := 0) (v := .slice (some ⟨w1.heap.size, 0, none⟩) U.length U.length) KX))
        simp only [List.setIfInBounds_toArray, List.set_cons_zero, List.set_cons_succ] at e2
        have e0 := blk_other (b := w.heap.size + 1) (i := 2) (v := .slice (some ⟨w1.heap.size + 1, 0, none⟩) Bn Bn) (blk_other (b := w.heap.size + 1) (i := 1) (v := .slice (some ⟨w1.heap.size + 1 + 1, 0, none⟩) R.length R.length) (blk_other (b := w.heap.size + 1) (i := 0) (v := .slice (some ⟨w1.heap.size, 0, none⟩) U.length U.length) KY (by omega)) (by omega)) (by omega)
        refine hK.out _ _ (by obtain ⟨⟨k0, k1, k2⟩, -⟩ := blk3 e0; exact ⟨k0, k1, k2⟩) (fun hHeld => ?_)
        clear hK K
        refine wpAnyH_done (by kernel_rfl) ?_ _
        obtain ⟨⟨r0, r1, r2⟩, -⟩ := blk3 e2
        have mO := ((O3.setFar (g := w.heap.size + 1) (i := 0) (u := .slice (some ⟨w1.heap.size, 0, none⟩) U.length U.length) (by show _ < w1.heap.size; omega)).setFar (g := w.heap.size + 1) (i := 1) (u := .slice (some ⟨w1.heap.size + 1 + 1, 0, none⟩) R.length R.length) (by show _ < w1.heap.size; omega)).setFar (g := w.heap.size + 1) (i := 2) (u := .slice (some ⟨w1.heap.size + 1, 0, none⟩) Bn Bn) (by show _ < w1.heap.size; omega)
        have mB := below_set (o := 2) (v := .slice (some ⟨w1.heap.size + 1, 0, none⟩) Bn Bn) (b := w.heap.size + 1) (by omega) (below_set (o := 1) (v := .slice (some ⟨w1.heap.size + 1 + 1, 0, none⟩) R.length R.length) (b := w.heap.size + 1) (by omega) (below_set (o := 0) (v := .slice (some ⟨w1.heap.size, 0, none⟩) U.length U.length) (b := w.heap.size + 1) (by omega) HX))
        have dr := (Below.refl (((X.setCell ⟨w.heap.size + 1, 0, none⟩ (.slice (some ⟨w1.heap.size, 0, none⟩) U.length U.length)).setCell ⟨w.heap.size + 1, 1, none⟩ (.slice (some ⟨w1.heap.size + 1 + 1, 0, none⟩) R.length R.length)).setCell ⟨w.heap.size + 1, 2, none⟩ (.slice (some ⟨w1.heap.size + 1, 0, none⟩) Bn Bn)).heap.size (((X.setCell ⟨w.heap.size + 1, 0, none⟩ (.slice (some ⟨w1.heap.size, 0, none⟩) U.length U.length)).setCell ⟨w.heap.size + 1, 1, none⟩ (.slice (some ⟨w1.heap.size + 1 + 1, 0, none⟩) R.length R.length)).setCell ⟨w.heap.size + 1, 2, none⟩ (.slice (some ⟨w1.heap.size + 1, 0, none⟩) Bn Bn))).drew
        have mO2 := (mO.wider (lo' := w.heap.size) (hi' := (((X.setCell ⟨w.heap.size + 1, 0, none⟩ (.slice (some ⟨w1.heap.size, 0, none⟩) U.length U.length)).setCell ⟨w.heap.size + 1, 1, none⟩ (.slice (some ⟨w1.heap.size + 1 + 1, 0, none⟩) R.length R.length)).setCell ⟨w.heap.size + 1, 2, none⟩ (.slice (some ⟨w1.heap.size + 1, 0, none⟩) Bn Bn)).heap.size) (by omega) (by simpa using hX)).below dr
        have mB2 := btrans mB dr
        go_wp2_with fail
        refine bodyPost_ret (v := .agg #[.slice (some ⟨w1.heap.size, 0, none⟩) U.length U.length, .slice (some ⟨w1.heap.size + 1 + 1, 0, none⟩) R.length R.length, .slice (some ⟨w1.heap.size + 1, 0, none⟩) Bn Bn]) (by simp [results, Try.results7, go_sem, r0, r1, r2]) rfl ⟨some ⟨w1.heap.size, 0, none⟩, U.length, some ⟨w1.heap.size + 1 + 1, 0, none⟩, R.length, some ⟨w1.heap.size + 1, 0, none⟩, Bn, by rw [hQ.out]; simp [lockVal], by rw [hQ.out]; exact mO2, plainS, plainS, plainS, mB2⟩
  · skip
    go_simp
    have b0 := balloc w1.drew (.cells M2 4)
    have B1 := btrans (bdraw (Below.refl w1.heap.size w1) 1) b0
    clear hHeld
    refine hK.out _ _ (by obtain ⟨⟨k0, k1, k2⟩, -⟩ := blk3 (blk_keep B1 K0); exact ⟨k0, k1, k2⟩) (fun hHeld => ?_)
    clear hK K
    change wpAnyH _ _ _ _ _ _ _ { tmps := #[_, _, _, _, _, _, _, .pointer (some ⟨w.heap.size, 0, none⟩), .slice a U.length ca, .int .i64 (U.length : Int), _, .pointer (some ⟨w.heap.size, 2, none⟩), .slice b R.length cb, .int .i64 (R.length : Int), .slice (some ⟨w1.heap.size, 0, none⟩) R.length R.length, .pointer (some ⟨w.heap.size, 1, none⟩), .int .i64 (Bn : Int), _, _], defers := [] } _
    refine wpAnyH_ready (rs := [3, 10]) (by kernel_rfl) (by simp) ?_
    refine (AllReadyH.cons rfl (fun K hK => ?_) (AllReadyH.cons rfl (fun K hK => ?_) AllReadyH.nil))
    · skip
      go_simp
      have b1 := balloc (w1.drew.alloc (.cells M2 4)) (.cells M1 3)
      have B2 := btrans B1 b1
      clear hHeld
      refine hK.out _ _ (by obtain ⟨⟨k0, k1, k2⟩, -⟩ := blk3 (blk_keep B2 K0); exact ⟨k0, k1, k2⟩) (fun hHeld => ?_)
      clear hK K
      change wpAnyH _ _ _ _ _ _ _ { tmps := #[_, _, _, _, _, _, _, .pointer (some ⟨w.heap.size, 0, none⟩), .slice a U.length ca, .int .i64 (U.length : Int), .slice (some ⟨w1.heap.size + 1, 0, none⟩) U.length U.length, .pointer (some ⟨w.heap.size, 2, none⟩), .slice b R.length cb, .int .i64 (R.length : Int), .slice (some ⟨w1.heap.size, 0, none⟩) R.length R.length, .pointer (some ⟨w.heap.size, 1, none⟩), .int .i64 (Bn : Int), _, _], defers := [] } _
      refine wpAnyH_ready (rs := [10]) (by kernel_rfl) (by simp) ?_
      refine (AllReadyH.cons rfl (fun K hK => ?_) AllReadyH.nil)
      · skip
        go_simp
        have b2 := balloc ((w1.drew.alloc (.cells M2 4)).alloc (.cells M1 3)) (.cells M3 4)
        have B3 := btrans B2 b2
        clear hHeld
        refine hK.out _ _ (by obtain ⟨⟨k0, k1, k2⟩, -⟩ := blk3 (blk_keep B3 K0); exact ⟨k0, k1, k2⟩) (fun hHeld => ?_)
        clear hK K
        change wpAnyH _ _ _ _ _ _ _ { tmps := #[_, _, _, _, _, _, _, .pointer (some ⟨w.heap.size, 0, none⟩), .slice a U.length ca, .int .i64 (U.length : Int), .slice (some ⟨w1.heap.size + 1, 0, none⟩) U.length U.length, .pointer (some ⟨w.heap.size, 2, none⟩), .slice b R.length cb, .int .i64 (R.length : Int), .slice (some ⟨w1.heap.size, 0, none⟩) R.length R.length, .pointer (some ⟨w.heap.size, 1, none⟩), .int .i64 (Bn : Int), .slice (some ⟨w1.heap.size + 1 + 1, 0, none⟩) Bn Bn, _], defers := [] } _
        refine wpAnyH_take (i := 11) (v := .agg #[.slice (some ⟨w1.heap.size + 1, 0, none⟩) U.length U.length, .slice (some ⟨w1.heap.size, 0, none⟩) R.length R.length, .slice (some ⟨w1.heap.size + 1 + 1, 0, none⟩) Bn Bn]) rfl (by kernel_rfl) (by kernel_rfl) (by kernel_rfl) (fun _ _ _ h => h) (Or.inl ⟨by kernel_rfl, fun w hS => by (obtain ⟨hS0, hS1, hS2⟩ := hS; go_simp)⟩) hHeld ?_
        change wpAnyH _ _ _ _ _ _ _ { tmps := #[_, _, _, _, _, _, _, .pointer (some ⟨w.heap.size, 0, none⟩), .slice a U.length ca, .int .i64 (U.length : Int), .slice (some ⟨w1.heap.size + 1, 0, none⟩) U.length U.length, .pointer (some ⟨w.heap.size, 2, none⟩), .slice b R.length cb, .int .i64 (R.length : Int), .slice (some ⟨w1.heap.size, 0, none⟩) R.length R.length, .pointer (some ⟨w.heap.size, 1, none⟩), .int .i64 (Bn : Int), .slice (some ⟨w1.heap.size + 1 + 1, 0, none⟩) Bn Bn, .agg #[.slice (some ⟨w1.heap.size + 1, 0, none⟩) U.length U.length, .slice (some ⟨w1.heap.size, 0, none⟩) R.length R.length, .slice (some ⟨w1.heap.size + 1 + 1, 0, none⟩) Bn Bn]], defers := [] } _
        have c0 := balloc w1 (.cells M2 4)
        have c1 := balloc (w1.alloc (.cells M2 4)) (.cells M1 3)
        have c2 := balloc ((w1.alloc (.cells M2 4)).alloc (.cells M1 3)) (.cells M3 4)
        have BX := btrans (btrans c0 c1) c2
        have KX := blk_keep BX K1
        have KY := blk_keep BX K0
        have O3 := made3spt w1 M1 M2 M3 m1.out m2.out m3.out l1 l2 l3
        have HX := btrans HB BX
        have hX : w1.heap.size + 1 + 1 + 1 ≤ (((w1.alloc (.cells M2 4)).alloc (.cells M1 3)).alloc (.cells M3 4)).heap.size := by simp
        clear c0 c1 c2 b0 b1 b2 B1 B2 B3 BX
        generalize (((w1.alloc (.cells M2 4)).alloc (.cells M1 3)).alloc (.cells M3 4)) = X at *
        obtain ⟨⟨z0, z1, z2⟩, y0, y1, y2⟩ := blk3 KX
        refine wpAnyH_ready (rs := [12]) (by kernel_rfl) (by simp) ?_
        refine AllReadyH.cons rfl (fun K hK => ?_) AllReadyH.nil
        go_simp
        clear hHeld
        have e2 := blk_set (i := 2) (v := .slice (some ⟨w1.heap.size + 1 + 1, 0, none⟩) Bn Bn) (blk_set (i := 1) (v := .slice (some ⟨w1.heap.size, 0, none⟩) R.length R.length) (blk_set (i := 0) (v := .slice (some ⟨w1.heap.size + 1, 0, none⟩) U.length U.length) KX))
        simp only [List.setIfInBounds_toArray, List.set_cons_zero, List.set_cons_succ] at e2
        have e0 := blk_other (b := w.heap.size + 1) (i := 2) (v := .slice (some ⟨w1.heap.size + 1 + 1, 0, none⟩) Bn Bn) (blk_other (b := w.heap.size + 1) (i := 1) (v := .slice (some ⟨w1.heap.size, 0, none⟩) R.length R.length) (blk_other (b := w.heap.size + 1) (i := 0) (v := .slice (some ⟨w1.heap.size + 1, 0, none⟩) U.length U.length) KY (by omega)) (by omega)) (by omega)
        refine hK.out _ _ (by obtain ⟨⟨k0, k1, k2⟩, -⟩ := blk3 e0; exact ⟨k0, k1, k2⟩) (fun hHeld => ?_)
        clear hK K
        refine wpAnyH_done (by kernel_rfl) ?_ _
        obtain ⟨⟨r0, r1, r2⟩, -⟩ := blk3 e2
        have mO := ((O3.setFar (g := w.heap.size + 1) (i := 0) (u := .slice (some ⟨w1.heap.size + 1, 0, none⟩) U.length U.length) (by show _ < w1.heap.size; omega)).setFar (g := w.heap.size + 1) (i := 1) (u := .slice (some ⟨w1.heap.size, 0, none⟩) R.length R.length) (by show _ < w1.heap.size; omega)).setFar (g := w.heap.size + 1) (i := 2) (u := .slice (some ⟨w1.heap.size + 1 + 1, 0, none⟩) Bn Bn) (by show _ < w1.heap.size; omega)
        have mB := below_set (o := 2) (v := .slice (some ⟨w1.heap.size + 1 + 1, 0, none⟩) Bn Bn) (b := w.heap.size + 1) (by omega) (below_set (o := 1) (v := .slice (some ⟨w1.heap.size, 0, none⟩) R.length R.length) (b := w.heap.size + 1) (by omega) (below_set (o := 0) (v := .slice (some ⟨w1.heap.size + 1, 0, none⟩) U.length U.length) (b := w.heap.size + 1) (by omega) HX))
        have dr := (Below.refl (((X.setCell ⟨w.heap.size + 1, 0, none⟩ (.slice (some ⟨w1.heap.size + 1, 0, none⟩) U.length U.length)).setCell ⟨w.heap.size + 1, 1, none⟩ (.slice (some ⟨w1.heap.size, 0, none⟩) R.length R.length)).setCell ⟨w.heap.size + 1, 2, none⟩ (.slice (some ⟨w1.heap.size + 1 + 1, 0, none⟩) Bn Bn)).heap.size (((X.setCell ⟨w.heap.size + 1, 0, none⟩ (.slice (some ⟨w1.heap.size + 1, 0, none⟩) U.length U.length)).setCell ⟨w.heap.size + 1, 1, none⟩ (.slice (some ⟨w1.heap.size, 0, none⟩) R.length R.length)).setCell ⟨w.heap.size + 1, 2, none⟩ (.slice (some ⟨w1.heap.size + 1 + 1, 0, none⟩) Bn Bn))).drew
        have mO2 := (mO.wider (lo' := w.heap.size) (hi' := (((X.setCell ⟨w.heap.size + 1, 0, none⟩ (.slice (some ⟨w1.heap.size + 1, 0, none⟩) U.length U.length)).setCell ⟨w.heap.size + 1, 1, none⟩ (.slice (some ⟨w1.heap.size, 0, none⟩) R.length R.length)).setCell ⟨w.heap.size + 1, 2, none⟩ (.slice (some ⟨w1.heap.size + 1 + 1, 0, none⟩) Bn Bn)).heap.size) (by omega) (by simpa using hX)).below dr
        have mB2 := btrans mB dr
        go_wp2_with fail
        refine bodyPost_ret (v := .agg #[.slice (some ⟨w1.heap.size + 1, 0, none⟩) U.length U.length, .slice (some ⟨w1.heap.size, 0, none⟩) R.length R.length, .slice (some ⟨w1.heap.size + 1 + 1, 0, none⟩) Bn Bn]) (by simp [results, Try.results7, go_sem, r0, r1, r2]) rfl ⟨some ⟨w1.heap.size + 1, 0, none⟩, U.length, some ⟨w1.heap.size, 0, none⟩, R.length, some ⟨w1.heap.size + 1 + 1, 0, none⟩, Bn, by rw [hQ.out]; simp [lockVal], by rw [hQ.out]; exact mO2, plainS, plainS, plainS, mB2⟩
    · skip
      go_simp
      have b1 := balloc (w1.drew.alloc (.cells M2 4)) (.cells M3 4)
      have B2 := btrans B1 b1
      clear hHeld
      refine hK.out _ _ (by obtain ⟨⟨k0, k1, k2⟩, -⟩ := blk3 (blk_keep B2 K0); exact ⟨k0, k1, k2⟩) (fun hHeld => ?_)
      clear hK K
      change wpAnyH _ _ _ _ _ _ _ { tmps := #[_, _, _, _, _, _, _, .pointer (some ⟨w.heap.size, 0, none⟩), .slice a U.length ca, .int .i64 (U.length : Int), _, .pointer (some ⟨w.heap.size, 2, none⟩), .slice b R.length cb, .int .i64 (R.length : Int), .slice (some ⟨w1.heap.size, 0, none⟩) R.length R.length, .pointer (some ⟨w.heap.size, 1, none⟩), .int .i64 (Bn : Int), .slice (some ⟨w1.heap.size + 1, 0, none⟩) Bn Bn, _], defers := [] } _
      refine wpAnyH_ready (rs := [3]) (by kernel_rfl) (by simp) ?_
      refine (AllReadyH.cons rfl (fun K hK => ?_) AllReadyH.nil)
      · skip
        go_simp
        have b2 := balloc ((w1.drew.alloc (.cells M2 4)).alloc (.cells M3 4)) (.cells M1 3)
        have B3 := btrans B2 b2
        clear hHeld
        refine hK.out _ _ (by obtain ⟨⟨k0, k1, k2⟩, -⟩ := blk3 (blk_keep B3 K0); exact ⟨k0, k1, k2⟩) (fun hHeld => ?_)
        clear hK K
        change wpAnyH _ _ _ _ _ _ _ { tmps := #[_, _, _, _, _, _, _, .pointer (some ⟨w.heap.size, 0, none⟩), .slice a U.length ca, .int .i64 (U.length : Int), .slice (some ⟨w1.heap.size + 1 + 1, 0, none⟩) U.length U.length, .pointer (some ⟨w.heap.size, 2, none⟩), .slice b R.length cb, .int .i64 (R.length : Int), .slice (some ⟨w1.heap.size, 0, none⟩) R.length R.length, .pointer (some ⟨w.heap.size, 1, none⟩), .int .i64 (Bn : Int), .slice (some ⟨w1.heap.size + 1, 0, none⟩) Bn Bn, _], defers := [] } _
        refine wpAnyH_take (i := 11) (v := .agg #[.slice (some ⟨w1.heap.size + 1 + 1, 0, none⟩) U.length U.length, .slice (some ⟨w1.heap.size, 0, none⟩) R.length R.length, .slice (some ⟨w1.heap.size + 1, 0, none⟩) Bn Bn]) rfl (by kernel_rfl) (by kernel_rfl) (by kernel_rfl) (fun _ _ _ h => h) (Or.inl ⟨by kernel_rfl, fun w hS => by (obtain ⟨hS0, hS1, hS2⟩ := hS; go_simp)⟩) hHeld ?_
        change wpAnyH _ _ _ _ _ _ _ { tmps := #[_, _, _, _, _, _, _, .pointer (some ⟨w.heap.size, 0, none⟩), .slice a U.length ca, .int .i64 (U.length : Int), .slice (some ⟨w1.heap.size + 1 + 1, 0, none⟩) U.length U.length, .pointer (some ⟨w.heap.size, 2, none⟩), .slice b R.length cb, .int .i64 (R.length : Int), .slice (some ⟨w1.heap.size, 0, none⟩) R.length R.length, .pointer (some ⟨w.heap.size, 1, none⟩), .int .i64 (Bn : Int), .slice (some ⟨w1.heap.size + 1, 0, none⟩) Bn Bn, .agg #[.slice (some ⟨w1.heap.size + 1 + 1, 0, none⟩) U.length U.length, .slice (some ⟨w1.heap.size, 0, none⟩) R.length R.length, .slice (some ⟨w1.heap.size + 1, 0, none⟩) Bn Bn]], defers := [] } _
        have c0 := balloc w1 (.cells M2 4)
        have c1 := balloc (w1.alloc (.cells M2 4)) (.cells M3 4)
        have c2 := balloc ((w1.alloc (.cells M2 4)).alloc (.cells M3 4)) (.cells M1 3)
        have BX := btrans (btrans c0 c1) c2
        have KX := blk_keep BX K1
        have KY := blk_keep BX K0
        have O3 := made3stp w1 M1 M2 M3 m1.out m2.out m3.out l1 l2 l3
        have HX := btrans HB BX
        have hX : w1.heap.size + 1 + 1 + 1 ≤ (((w1.alloc (.cells M2 4)).alloc (.cells M3 4)).alloc (.cells M1 3)).heap.size := by simp
        clear c0 c1 c2 b0 b1 b2 B1 B2 B3 BX
        generalize (((w1.alloc (.cells M2 4)).alloc (.cells M3 4)).alloc (.cells M1 3)) = X at *
        obtain ⟨⟨z0, z1, z2⟩, y0, y1, y2⟩ := blk3 KX
        refine wpAnyH_ready (rs := [12]) (by kernel_rfl) (by simp) ?_
        refine AllReadyH.cons rfl (fun K hK => ?_) AllReadyH.nil
        go_simp
        clear hHeld
        have e2 := blk_set (i := 2) (v := .slice (some ⟨w1.heap.size + 1, 0, none⟩) Bn Bn) (blk_set (i := 1) (v := .slice (some ⟨w1.heap.size, 0, none⟩) R.length R.length) (blk_set (i := 0) (v := .slice (some ⟨w1.heap.size + 1 + 1, 0, none⟩) U.length U.length) KX))
        simp only [List.setIfInBounds_toArray, List.set_cons_zero, List.set_cons_succ] at e2
        have e0 := blk_other (b := w.heap.size + 1) (i := 2) (v := .slice (some ⟨w1.heap.size + 1, 0, none⟩) Bn Bn) (blk_other (b := w.heap.size + 1) (i := 1) (v := .slice (some ⟨w1.heap.size, 0, none⟩) R.length R.length) (blk_other (b := w.heap.size + 1) (i := 0) (v := .slice (some ⟨w1.heap.size + 1 + 1, 0, none⟩) U.length U.length) KY (by omega)) (by omega)) (by omega)
        refine hK.out _ _ (by obtain ⟨⟨k0, k1, k2⟩, -⟩ := blk3 e0; exact ⟨k0, k1, k2⟩) (fun hHeld => ?_)
        clear hK K
        refine wpAnyH_done (by kernel_rfl) ?_ _
        obtain ⟨⟨r0, r1, r2⟩, -⟩ := blk3 e2
        have mO := ((O3.setFar (g := w.heap.size + 1) (i := 0) (u := .slice (some ⟨w1.heap.size + 1 + 1, 0, none⟩) U.length U.length) (by show _ < w1.heap.size; omega)).setFar (g := w.heap.size + 1) (i := 1) (u := .slice (some ⟨w1.heap.size, 0, none⟩) R.length R.length) (by show _ < w1.heap.size; omega)).setFar (g := w.heap.size + 1) (i := 2) (u := .slice (some ⟨w1.heap.size + 1, 0, none⟩) Bn Bn) (by show _ < w1.heap.size; omega)
        have mB := below_set (o := 2) (v := .slice (some ⟨w1.heap.size + 1, 0, none⟩) Bn Bn) (b := w.heap.size + 1) (by omega) (below_set (o := 1) (v := .slice (some ⟨w1.heap.size, 0, none⟩) R.length R.length) (b := w.heap.size + 1) (by omega) (below_set (o := 0) (v := .slice (some ⟨w1.heap.size + 1 + 1, 0, none⟩) U.length U.length) (b := w.heap.size + 1) (by omega) HX))
        have dr := (Below.refl (((X.setCell ⟨w.heap.size + 1, 0, none⟩ (.slice (some ⟨w1.heap.size + 1 + 1, 0, none⟩) U.length U.length)).setCell ⟨w.heap.size + 1, 1, none⟩ (.slice (some ⟨w1.heap.size, 0, none⟩) R.length R.length)).setCell ⟨w.heap.size + 1, 2, none⟩ (.slice (some ⟨w1.heap.size + 1, 0, none⟩) Bn Bn)).heap.size (((X.setCell ⟨w.heap.size + 1, 0, none⟩ (.slice (some ⟨w1.heap.size + 1 + 1, 0, none⟩) U.length U.length)).setCell ⟨w.heap.size + 1, 1, none⟩ (.slice (some ⟨w1.heap.size, 0, none⟩) R.length R.length)).setCell ⟨w.heap.size + 1, 2, none⟩ (.slice (some ⟨w1.heap.size + 1, 0, none⟩) Bn Bn))).drew
        have mO2 := (mO.wider (lo' := w.heap.size) (hi' := (((X.setCell ⟨w.heap.size + 1, 0, none⟩ (.slice (some ⟨w1.heap.size + 1 + 1, 0, none⟩) U.length U.length)).setCell ⟨w.heap.size + 1, 1, none⟩ (.slice (some ⟨w1.heap.size, 0, none⟩) R.length R.length)).setCell ⟨w.heap.size + 1, 2, none⟩ (.slice (some ⟨w1.heap.size + 1, 0, none⟩) Bn Bn)).heap.size) (by omega) (by simpa using hX)).below dr
        have mB2 := btrans mB dr
        go_wp2_with fail
        refine bodyPost_ret (v := .agg #[.slice (some ⟨w1.heap.size + 1 + 1, 0, none⟩) U.length U.length, .slice (some ⟨w1.heap.size, 0, none⟩) R.length R.length, .slice (some ⟨w1.heap.size + 1, 0, none⟩) Bn Bn]) (by simp [results, Try.results7, go_sem, r0, r1, r2]) rfl ⟨some ⟨w1.heap.size + 1 + 1, 0, none⟩, U.length, some ⟨w1.heap.size, 0, none⟩, R.length, some ⟨w1.heap.size + 1, 0, none⟩, Bn, by rw [hQ.out]; simp [lockVal], by rw [hQ.out]; exact mO2, plainS, plainS, plainS, mB2⟩
  · skip
    go_simp
    have b0 := balloc w1.drew (.cells M3 4)
    have B1 := btrans (bdraw (Below.refl w1.heap.size w1) 1) b0
    clear hHeld
    refine hK.out _ _ (by obtain ⟨⟨k0, k1, k2⟩, -⟩ := blk3 (blk_keep B1 K0); exact ⟨k0, k1, k2⟩) (fun hHeld => ?_)
    clear hK K
    change wpAnyH _ _ _ _ _ _ _ { tmps := #[_, _, _, _, _, _, _, .pointer (some ⟨w.heap.size, 0, none⟩), .slice a U.length ca, .int .i64 (U.length : Int), _, .pointer (some ⟨w.heap.size, 2, none⟩), .slice b R.length cb, .int .i64 (R.length : Int), _, .pointer (some ⟨w.heap.size, 1, none⟩), .int .i64 (Bn : Int), .slice (some ⟨w1.heap.size, 0, none⟩) Bn Bn, _], defers := [] } _
    refine wpAnyH_ready (rs := [3, 7]) (by kernel_rfl) (by simp) ?_
    refine (AllReadyH.cons rfl (fun K hK => ?_) (AllReadyH.cons rfl (fun K hK => ?_) AllReadyH.nil))
    · skip
      go_simp
      have b1 := balloc (w1.drew.alloc (.cells M3 4)) (.cells M1 3)
      have B2 := btrans B1 b1
      clear hHeld
      refine hK.out _ _ (by obtain ⟨⟨k0, k1, k2⟩, -⟩ := blk3 (blk_keep B2 K0); exact ⟨k0, k1, k2⟩) (fun hHeld => ?_)
      clear hK K
      change wpAnyH _ _ _ _ _ _ _ { tmps := #[_, _, _, _, _, _, _, .pointer (some ⟨w.heap.size, 0, none⟩), .slice a U.length ca, .int .i64 (U.length : Int), .slice (some ⟨w1.heap.size + 1, 0, none⟩) U.length U.length, .pointer (some ⟨w.heap.size, 2, none⟩), .slice b R.length cb, .int .i64 (R.length : Int), _, .pointer (some ⟨w.heap.size, 1, none⟩), .int .i64 (Bn : Int), .slice (some ⟨w1.heap.size, 0, none⟩) Bn Bn, _], defers := [] } _
      refine wpAnyH_ready (rs := [7]) (by kernel_rfl) (by simp) ?_
      refine (AllReadyH.cons rfl (fun K hK => ?_) AllReadyH.nil)
      · skip
        go_simp
        have b2 := balloc ((w1.drew.alloc (.cells M3 4)).alloc (.cells M1 3)) (.cells M2 4)
        have B3 := btrans B2 b2
        clear hHeld
        refine hK.out _ _ (by obtain ⟨⟨k0, k1, k2⟩, -⟩ := blk3 (blk_keep B3 K0); exact ⟨k0, k1, k2⟩) (fun hHeld => ?_)
        clear hK K
        change wpAnyH _ _ _ _ _ _ _ { tmps := #[_, _, _, _, _, _, _, .pointer (some ⟨w.heap.size, 0, none⟩), .slice a U.length ca, .int .i64 (U.length : Int), .slice (some ⟨w1.heap.size + 1, 0, none⟩) U.length U.length, .pointer (some ⟨w.heap.size, 2, none⟩), .slice b R.length cb, .int .i64 (R.length : Int), .slice (some ⟨w1.heap.size + 1 + 1, 0, none⟩) R.length R.length, .pointer (some ⟨w.heap.size, 1, none⟩), .int .i64 (Bn : Int), .slice (some ⟨w1.heap.size, 0, none⟩) Bn Bn, _], defers := [] } _
        refine wpAnyH_take (i := 11) (v := .agg #[.slice (some ⟨w1.heap.size + 1, 0, none⟩) U.length U.length, .slice (some ⟨w1.heap.size + 1 + 1, 0, none⟩) R.length R.length, .slice (some ⟨w1.heap.size, 0, none⟩) Bn Bn]) rfl (by kernel_rfl) (by kernel_rfl) (by kernel_rfl) (fun _ _ _ h => h) (Or.inl ⟨by kernel_rfl, fun w hS => by (obtain ⟨hS0, hS1, hS2⟩ := hS; go_simp)⟩) hHeld ?_
        change wpAnyH _ _ _ _ _ _ _ { tmps := #[_, _, _, _, _, _, _, .pointer (some ⟨w.heap.size, 0, none⟩), .slice a U.length ca, .int .i64 (U.length : Int), .slice (some ⟨w1.heap.size + 1, 0, none⟩) U.length U.length, .pointer (some ⟨w.heap.size, 2, none⟩), .slice b R.length cb, .int .i64 (R.length : Int), .slice (some ⟨w1.heap.size + 1 + 1, 0, none⟩) R.length R.length, .pointer (some ⟨w.heap.size, 1, none⟩), .int .i64 (Bn : Int), .slice (some ⟨w1.heap.size, 0, none⟩) Bn Bn, .agg #[.slice (some ⟨w1.heap.size + 1, 0, none⟩) U.length U.length, .slice (some ⟨w1.heap.size + 1 + 1, 0, none⟩) R.length R.length, .slice (some ⟨w1.heap.size, 0, none⟩) Bn Bn]], defers := [] } _
        have c0 := balloc w1 (.cells M3 4)
        have c1 := balloc (w1.alloc (.cells M3 4)) (.cells M1 3)
        have c2 := balloc ((w1.alloc (.cells M3 4)).alloc (.cells M1 3)) (.cells M2 4)
        have BX := btrans (btrans c0 c1) c2
        have KX := blk_keep BX K1
        have KY := blk_keep BX K0
        have O3 := made3tps w1 M1 M2 M3 m1.out m2.out m3.out l1 l2 l3
        have HX := btrans HB BX
        have hX : w1.heap.size + 1 + 1 + 1 ≤ (((w1.alloc (.cells M3 4)).alloc (.cells M1 3)).alloc (.cells M2 4)).heap.size := by simp
        clear c0 c1 c2 b0 b1 b2 B1 B2 B3 BX
        generalize (((w1.alloc (.cells M3 4)).alloc (.cells M1 3)).alloc (.cells M2 4)) = X at *
        obtain ⟨⟨z0, z1, z2⟩, y0, y1, y2⟩ := blk3 KX
        refine wpAnyH_ready (rs := [12]) (by kernel_rfl) (by simp) ?_
        refine AllReadyH.cons rfl (fun K hK => ?_) AllReadyH.nil
        go_simp
        clear hHeld
        have e2 := blk_set (i := 2) (v := .slice (some ⟨w1.heap.size, 0, none⟩) Bn Bn) (blk_set (i := 1) (v := .slice (some ⟨w1.heap.size + 1 + 1, 0, none⟩) R.length R.length) (blk_set (i := 0) (v := .slice (some ⟨w1.heap.size + 1, 0, none⟩) U.length U.length) KX))
        simp only [List.setIfInBounds_toArray, List.set_cons_zero, List.set_cons_succ] at e2
        have e0 := blk_other (b := w.heap.size + 1) (i := 2) (v := .slice (some ⟨w1.heap.size, 0, none⟩) Bn Bn) (blk_other (b := w.heap.size + 1) (i := 1) (v := .slice (some ⟨w1.heap.size + 1 + 1, 0, none⟩) R.length R.length) (blk_other (b := w.heap.size + 1) (i := 0) (v := .slice (some ⟨w1.heap.size + 1, 0, none⟩) U.length U.length) KY (by omega)) (by omega)) (by omega)
        refine hK.out _ _ (by obtain ⟨⟨k0, k1, k2⟩, -⟩ := blk3 e0; exact ⟨k0, k1, k2⟩) (fun hHeld => ?_)
        clear hK K
        refine wpAnyH_done (by kernel_rfl) ?_ _
        obtain ⟨⟨r0, r1, r2⟩, -⟩ := blk3 e2
        have mO := ((O3.setFar (g := w.heap.size + 1) (i := 0) (u := .slice (some ⟨w1.heap.size + 1, 0, none⟩) U.length U.length) (by show _ < w1.heap.size; omega)).setFar (g := w.heap.size + 1) (i := 1) (u := .slice (some ⟨w1.heap.size + 1 + 1, 0, none⟩) R.length R.length) (by show _ < w1.heap.size; omega)).setFar (g := w.heap.size + 1) (i := 2) (u := .slice (some ⟨w1.heap.size, 0, none⟩) Bn Bn) (by show _ < w1.heap.size; omega)
        have mB := below_set (o := 2) (v := .slice (some ⟨w1.heap.size, 0, none⟩) Bn Bn) (b := w.heap.size + 1) (by omega) (below_set (o := 1) (v := .slice (some ⟨w1.heap.size + 1 + 1, 0, none⟩) R.length R.length) (b := w.heap.size + 1) (by omega) (below_set (o := 0) (v := .slice (some ⟨w1.heap.size + 1, 0, none⟩) U.length U.length) (b := w.heap.size + 1) (by omega) HX))
        have dr := (Below.refl (((X.setCell ⟨w.heap.size + 1, 0, none⟩ (.slice (some ⟨w1.heap.size + 1, 0, none⟩) U.length U.length)).setCell ⟨w.heap.size + 1, 1, none⟩ (.slice (some ⟨w1.heap.size + 1 + 1, 0, none⟩) R.length R.length)).setCell ⟨w.heap.size + 1, 2, none⟩ (.slice (some ⟨w1.heap.size, 0, none⟩) Bn Bn)).heap.size (((X.setCell ⟨w.heap.size + 1, 0, none⟩ (.slice (some ⟨w1.heap.size + 1, 0, none⟩) U.length U.length)).setCell ⟨w.heap.size + 1, 1, none⟩ (.slice (some ⟨w1.heap.size + 1 + 1, 0, none⟩) R.length R.length)).setCell ⟨w.heap.size + 1, 2, none⟩ (.slice (some ⟨w1.heap.size, 0, none⟩) Bn Bn))).drew
        have mO2 := (mO.wider (lo' := w.heap.size) (hi' := (((X.setCell ⟨w.heap.size + 1, 0, none⟩ (.slice (some ⟨w1.heap.size + 1, 0, none⟩) U.length U.length)).setCell ⟨w.heap.size + 1, 1, none⟩ (.slice (some ⟨w1.heap.size + 1 + 1, 0, none⟩) R.length R.length)).setCell ⟨w.heap.size + 1, 2, none⟩ (.slice (some ⟨w1.heap.size, 0, none⟩) Bn Bn)).heap.size) (by omega) (by simpa using hX)).below dr
        have mB2 := btrans mB dr
        go_wp2_with fail
        refine bodyPost_ret (v := .agg #[.slice (some ⟨w1.heap.size + 1, 0, none⟩) U.length U.length, .slice (some ⟨w1.heap.size + 1 + 1, 0, none⟩) R.length R.length, .slice (some ⟨w1.heap.size, 0, none⟩) Bn Bn]) (by simp [results, Try.results7, go_sem, r0, r1, r2]) rfl ⟨some ⟨w1.heap.size + 1, 0, none⟩, U.length, some ⟨w1.heap.size + 1 + 1, 0, none⟩, R.length, some ⟨w1.heap.size, 0, none⟩, Bn, by rw [hQ.out]; simp [lockVal], by rw [hQ.out]; exact mO2, plainS, plainS, plainS, mB2⟩
    · skip
      go_simp
      have b1 := balloc (w1.drew.alloc (.cells M3 4)) (.cells M2 4)
      have B2 := btrans B1 b1
      clear hHeld
      refine hK.out _ _ (by obtain ⟨⟨k0, k1, k2⟩, -⟩ := blk3 (blk_keep B2 K0); exact ⟨k0, k1, k2⟩) (fun hHeld => ?_)
      clear hK K
      change wpAnyH _ _ _ _ _ _ _ { tmps := #[_, _, _, _, _, _, _, .pointer (some ⟨w.heap.size, 0, none⟩), .slice a U.length ca, .int .i64 (U.length : Int), _, .pointer (some ⟨w.heap.size, 2, none⟩), .slice b R.length cb, .int .i64 (R.length : Int), .slice (some ⟨w1.heap.size + 1, 0, none⟩) R.length R.length, .pointer (some ⟨w.heap.size, 1, none⟩), .int .i64 (Bn : Int), .slice (some ⟨w1.heap.size, 0, none⟩) Bn Bn, _], defers := [] } _
      refine wpAnyH_ready (rs := [3]) (by kernel_rfl) (by simp) ?_
      refine (AllReadyH.cons rfl (fun K hK => ?_) AllReadyH.nil)
      · skip
        go_simp
        have b2 := balloc ((w1.drew.alloc (.cells M3 4)).alloc (.cells M2 4)) (.cells M1 3)
        have B3 := btrans B2 b2
        clear hHeld
        refine hK.out _ _ (by obtain ⟨⟨k0, k1, k2⟩, -⟩ := blk3 (blk_keep B3 K0); exact ⟨k0, k1, k2⟩) (fun hHeld => ?_)
        clear hK K
        change wpAnyH _ _ _ _ _ _ _ { tmps := #[_, _, _, _, _, _, _, .pointer (some ⟨w.heap.size, 0, none⟩), .slice a U.length ca, .int .i64 (U.length : Int), .slice (some ⟨w1.heap.size + 1 + 1, 0, none⟩) U.length U.length, .pointer (some ⟨w.heap.size, 2, none⟩), .slice b R.length cb, .int .i64 (R.length : Int), .slice (some ⟨w1.heap.size + 1, 0, none⟩) R.length R.length, .pointer (some ⟨w.heap.size, 1, none⟩), .int .i64 (Bn : Int), .slice (some ⟨w1.heap.size, 0, none⟩) Bn Bn, _], defers := [] } _
        refine wpAnyH_take (i := 11) (v := .agg #[.slice (some ⟨w1.heap.size + 1 + 1, 0, none⟩) U.length U.length, .slice (some ⟨w1.heap.size + 1, 0, none⟩) R.length R.length, .slice (some ⟨w1.heap.size, 0, none⟩) Bn Bn]) rfl (by kernel_rfl) (by kernel_rfl) (by kernel_rfl) (fun _ _ _ h => h) (Or.inl ⟨by kernel_rfl, fun w hS => by (obtain ⟨hS0, hS1, hS2⟩ := hS; go_simp)⟩) hHeld ?_
        change wpAnyH _ _ _ _ _ _ _ { tmps := #[_, _, _, _, _, _, _, .pointer (some ⟨w.heap.size, 0, none⟩), .slice a U.length ca, .int .i64 (U.length : Int), .slice (some ⟨w1.heap.size + 1 + 1, 0, none⟩) U.length U.length, .pointer (some ⟨w.heap.size, 2, none⟩), .slice b R.length cb, .int .i64 (R.length : Int), .slice (some ⟨w1.heap.size + 1, 0, none⟩) R.length R.length, .pointer (some ⟨w.heap.size, 1, none⟩), .int .i64 (Bn : Int), .slice (some ⟨w1.heap.size, 0, none⟩) Bn Bn, .agg #[.slice (some ⟨w1.heap.size + 1 + 1, 0, none⟩) U.length U.length, .slice (some ⟨w1.heap.size + 1, 0, none⟩) R.length R.length, .slice (some ⟨w1.heap.size, 0, none⟩) Bn Bn]], defers := [] } _
        have c0 := balloc w1 (.cells M3 4)
        have c1 := balloc (w1.alloc (.cells M3 4)) (.cells M2 4)
        have c2 := balloc ((w1.alloc (.cells M3 4)).alloc (.cells M2 4)) (.cells M1 3)
        have BX := btrans (btrans c0 c1) c2
        have KX := blk_keep BX K1
        have KY := blk_keep BX K0
        have O3 := made3tsp w1 M1 M2 M3 m1.out m2.out m3.out l1 l2 l3
        have HX := btrans HB BX
        have hX : w1.heap.size + 1 + 1 + 1 ≤ (((w1.alloc (.cells M3 4)).alloc (.cells M2 4)).alloc (.cells M1 3)).heap.size := by simp
        clear c0 c1 c2 b0 b1 b2 B1 B2 B3 BX
        generalize (((w1.alloc (.cells M3 4)).alloc (.cells M2 4)).alloc (.cells M1 3)) = X at *
        obtain ⟨⟨z0, z1, z2⟩, y0, y1, y2⟩ := blk3 KX
        refine wpAnyH_ready (rs := [12]) (by kernel_rfl) (by simp) ?_
        refine AllReadyH.cons rfl (fun K hK => ?_) AllReadyH.nil
        go_simp
        clear hHeld
        have e2 := blk_set (i := 2) (v := .slice (some ⟨w1.heap.size, 0, none⟩) Bn Bn) (blk_set (i := 1) (v := .slice (some ⟨w1.heap.size + 1, 0, none⟩) R.length R.length) (blk_set (i := 0) (v := .slice (some ⟨w1.heap.size + 1 + 1, 0, none⟩) U.length U.length) KX))
        simp only [List.setIfInBounds_toArray, List.set_cons_zero, List.set_cons_succ] at e2
        have e0 := blk_other (b := w.heap.size + 1) (i := 2) (v := .slice (some ⟨w1.heap.size, 0, none⟩) Bn Bn) (blk_other (b := w.heap.size + 1) (i := 1) (v := .slice (some ⟨w1.heap.size + 1, 0, none⟩) R.length R.length) (blk_other (b := w.heap.size + 1) (i := 0) (v := .slice (some ⟨w1.heap.size + 1 + 1, 0, none⟩) U.length U.length) KY (by omega)) (by omega)) (by omega)
        refine hK.out _ _ (by obtain ⟨⟨k0, k1, k2⟩, -⟩ := blk3 e0; exact ⟨k0, k1, k2⟩) (fun hHeld => ?_)
        clear hK K
        refine wpAnyH_done (by kernel_rfl) ?_ _
        obtain ⟨⟨r0, r1, r2⟩, -⟩ := blk3 e2
        have mO := ((O3.setFar (g := w.heap.size + 1) (i := 0) (u := .slice (some ⟨w1.heap.size + 1 + 1, 0, none⟩) U.length U.length) (by show _ < w1.heap.size; omega)).setFar (g := w.heap.size + 1) (i := 1) (u := .slice (some ⟨w1.heap.size + 1, 0, none⟩) R.length R.length) (by show _ < w1.heap.size; omega)).setFar (g := w.heap.size + 1) (i := 2) (u := .slice (some ⟨w1.heap.size, 0, none⟩) Bn Bn) (by show _ < w1.heap.size; omega)
        have mB := below_set (o := 2) (v := .slice (some ⟨w1.heap.size, 0, none⟩) Bn Bn) (b := w.heap.size + 1) (by omega) (below_set (o := 1) (v := .slice (some ⟨w1.heap.size + 1, 0, none⟩) R.length R.length) (b := w.heap.size + 1) (by omega) (below_set (o := 0) (v := .slice (some ⟨w1.heap.size + 1 + 1, 0, none⟩) U.length U.length) (b := w.heap.size + 1) (by omega) HX))
        have dr := (Below.refl (((X.setCell ⟨w.heap.size + 1, 0, none⟩ (.slice (some ⟨w1.heap.size + 1 + 1, 0, none⟩) U.length U.length)).setCell ⟨w.heap.size + 1, 1, none⟩ (.slice (some ⟨w1.heap.size + 1, 0, none⟩) R.length R.length)).setCell ⟨w.heap.size + 1, 2, none⟩ (.slice (some ⟨w1.heap.size, 0, none⟩) Bn Bn)).heap.size (((X.setCell ⟨w.heap.size + 1, 0, none⟩ (.slice (some ⟨w1.heap.size + 1 + 1, 0, none⟩) U.length U.length)).setCell ⟨w.heap.size + 1, 1, none⟩ (.slice (some ⟨w1.heap.size + 1, 0, none⟩) R.length R.length)).setCell ⟨w.heap.size + 1, 2, none⟩ (.slice (some ⟨w1.heap.size, 0, none⟩) Bn Bn))).drew
        have mO2 := (mO.wider (lo' := w.heap.size) (hi' := (((X.setCell ⟨w.heap.size + 1, 0, none⟩ (.slice (some ⟨w1.heap.size + 1 + 1, 0, none⟩) U.length U.length)).setCell ⟨w.heap.size + 1, 1, none⟩ (.slice (some ⟨w1.heap.size + 1, 0, none⟩) R.length R.length)).setCell ⟨w.heap.size + 1, 2, none⟩ (.slice (some ⟨w1.heap.size, 0, none⟩) Bn Bn)).heap.size) (by omega) (by simpa using hX)).below dr
        have mB2 := btrans mB dr
        go_wp2_with fail
        refine bodyPost_ret (v := .agg #[.slice (some ⟨w1.heap.size + 1 + 1, 0, none⟩) U.length U.length, .slice (some ⟨w1.heap.size + 1, 0, none⟩) R.length R.length, .slice (some ⟨w1.heap.size, 0, none⟩) Bn Bn]) (by simp [results, Try.results7, go_sem, r0, r1, r2]) rfl ⟨some ⟨w1.heap.size + 1 + 1, 0, none⟩, U.length, some ⟨w1.heap.size + 1, 0, none⟩, R.length, some ⟨w1.heap.size, 0, none⟩, Bn, by rw [hQ.out]; simp [lockVal], by rw [hQ.out]; exact mO2, plainS, plainS, plainS, mB2⟩
end Go.Proofs.Ytpgjllefhlanpaa
