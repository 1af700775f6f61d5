/- Chains of the program. -/
import Derived.Test.YtbnhkkaiohmllaaDL
namespace Go.Proofs.Ytbnhkkaiohmllaa
open Go.RowKit Go.Lib

/-- What chained answers: a roster of its own. -/
def ChainedPost (w : World) (ts : List TaskV) (n : Int) (e : Ending) (w' : World) : Prop :=
  ∃ r m zs h vu vr vs, e = .returned (.pointer (some ⟨r, 0, none⟩)) ∧ Ros w' w.heap.size r ts m zs h (nU h) vu vr vs ∧ (((tasksB ts && turnB n) = false ∧ h = [] ∧ zs = []) ∨ ((tasksB ts && turnB n) = true ∧ ∃ os, Ord ts os ∧ Chn ts n os h ∧ zs = uL h 0 ts.length)) ∧ Below w.heap.size w w'
/-- A row of numbers as an answer. -/
def AnsZ (A : List Int → Prop) (w : World) (e : Ending) (w' : World) : Prop :=
  ∃ v zs, e = .returned v ∧ A zs ∧ w'.ownsRow w.heap.size 3 1 v zs.length (zs.map (Value.int .i64)) ∧ Below w.heap.size w w'

set_option maxRecDepth 20000 in
set_option maxHeartbeats 3200000 in
theorem cChained (a : Option Addr) (cap : Nat) (ts : List TaskV) (n : Int) (w : World) (hz : Tasks w a ts) (hl : ts.length ≤ 1048576) :
    Calls Try.prog 52 #[.slice a ts.length cap, .int .i64 n] w (ChainedPost w ts n) := by
  go_enter Try.func52, Try.ntmps52
  go_wp2_with fail
  refine (cCircI a cap ts n _ hz hl).mono ?_
  rintro e w1 ⟨rfl, hb⟩
  cases hok : (tasksB ts && turnB n)
  · have hbr := balloc w1 (.cells #[.int .i64 0, .slice none 0 0, .slice none 0 0] 59)
    have hR : Ros (w1.alloc (.cells #[.int .i64 0, .slice none 0 0, .slice none 0 0] 59)) w.heap.size w1.heap.size ts 0 [] [] (nU []) (.slice none 0 0) (.slice none 0 0) [] :=
      ⟨one_block w1 _, World.ownsRow_nil _ _ _ _, World.ownsRow_nil _ _ _ _, fun u v hv => by simp at hv, fun u u' v v' b _ hv => by simp at hv, hb.size⟩
    have hb2 := btrans hb hbr
    go_wp2
    go_ret
    exact ⟨_, _, _, _, _, _, _, rfl, hR, .inl ⟨hok, rfl, rfl⟩, hb2⟩
  · have h40 : ts.length ≤ 40 := by
      simp only [Bool.and_eq_true, tasksB, decide_eq_true_eq] at hok; exact hok.1.1
    have CD := cDealtM a cap ts n (IsMatch ts n) w1 (hz.below hb) h40
      (fun base r zs os h t vu vr vs V R hD ht hh _ => (cMatch base r ts n zs h vu vr vs t V R hD.chn.full (fun u => by have := runU_le h u; omega) (by have := hD.chn.nU_le; omega)).mono (fun e w' ⟨u, h1, h2, h3⟩ => ⟨u, h1, h2, by have := h2.le; have := hD.chn.nU_le; omega, h3⟩))
      (fun os h hD hh => by have := hD.chn.nU_le; omega)
    replace hok := hide hok
    go_wp2_with fail
    refine CD.mono ?_
    rintro e w2 ⟨r, os, h, vu, vr, vs, rfl, hO, hD, hR, hb2⟩
    have hb3 := btrans hb hb2
    have hR2 := hR.base hb.size
    clear CD hR
    go_wp2
    go_ret
    exact ⟨r, n, _, h, vu, vr, vs, rfl, hR2, .inr ⟨hok.out, os, hO, hD.chn, rfl⟩, hb3⟩

set_option maxRecDepth 20000 in
set_option maxHeartbeats 3200000 in
theorem cChainsI (a : Option Addr) (cap : Nat) (ts : List TaskV) (n : Int) (w : World) (hz : Tasks w a ts) (hl : ts.length ≤ 1048576) :
    Calls Try.prog 18 #[.slice a ts.length cap, .int .i64 n] w (AnsZ (ChA ts n) w) := by
  go_enter Try.func18, Try.ntmps18
  go_wp2_with fail
  refine (cChained a cap ts n _ hz hl).mono ?_
  rintro e w1 ⟨r, m, zs, h, vu, vr, vs, rfl, hR, hA, hb⟩
  obtain ⟨⟨c0, c1, c2⟩, -⟩ := blk3 hR.blk
  have hu := hR.hu
  have hC : Hid (ChA ts n zs) := hide (by
    rcases hA with ⟨h1, h2, h3⟩ | ⟨h1, os, h2, h3, h4⟩
    · exact .inl ⟨h1, h3⟩
    · exact .inr ⟨h1, os, h, h2, h3, h4⟩)
  obtain ⟨ua, uc, rfl⟩ := own_form hu
  clear hR hA
  go_wp2
  go_ret
  exact ⟨_, zs, rfl, hC.out, hu, hb⟩
end Go.Proofs.Ytbnhkkaiohmllaa
