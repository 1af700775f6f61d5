/- What is read of a text, sign by sign: left, next, class, end of the program. -/
import Derived.Test.YtnddhpdhbmbikaaDoorTT
import Derived.Test.YtnddhpdhbmbikaaDoorCA
import Derived.BigQuiet
import Derived.Deep.RegionHeld3
namespace Go.Proofs.YtnddhpdhbmbikaaDoor
open Go.RowKit
theorem blk_cellR {w : World} {b : Nat} {cs : Array Value} {t : TypeId} (h : w.heap[b]? = some (.cells cs t (0, 0))) (i : Nat) : w.cell? ⟨b, i, none⟩ = cs[i]? := by simp [World.cell?, h]
/-- The signs of a text l, read up to the place k. -/
def Sg (w : World) (g k : Nat) (l : List UInt8) : Prop := w.heap[g]? = some (.cells #[.string ⟨l.toArray⟩, .int .i64 (k : Int)] 79)
/-- All but the block g stands. -/
structure Rd (g : Nat) (w w' : World) : Prop where
  bel : Below g w w'
  oth : ∀ b, b < w.heap.size → b ≠ g → w'.heap[b]? = w.heap[b]?
theorem Rd.trans {g : Nat} {a b c : World} (h : Rd g a b) (k : Rd g b c) : Rd g a c :=
  ⟨h.bel.trans k.bel, fun i hi hn => (k.oth i (Nat.lt_of_lt_of_le hi h.bel.size) hn).trans (h.oth i hi hn)⟩
theorem Rd.of {g : Nat} {w w' : World} (h : Below w.heap.size w w') (hg : g < w.heap.size) : Rd g w w' := ⟨h.mono (Nat.le_of_lt hg), fun b hb _ => h.block b hb⟩
theorem Rd.set {g i : Nat} (w : World) (v : Value) : Rd g w (w.setCell ⟨g, i, none⟩ v) :=
  ⟨(Below.refl g w).setCell (p := ⟨g, i, none⟩) (Nat.le_refl _) v, fun b _ hn => Below.heap_setCell w ⟨g, i, none⟩ v b hn⟩
theorem below_drewN (w : World) (n : Nat) : Below w.heap.size w (w.drewN n) := ⟨rfl, rfl, rfl, Nat.le_refl _, fun _ _ => rfl⟩
theorem Sg.lt {w : World} {g k : Nat} {l : List UInt8} (h : Sg w g k l) : g < w.heap.size := lt_of_block h
theorem Sg.keep {w w' : World} {g k : Nat} {l : List UInt8} (h : Sg w g k l) (hb : Below w.heap.size w w') : Sg w' g k l := blk_keep hb h
theorem ext_dropR (l : List UInt8) (i : Nat) : (⟨l.toArray⟩ : ByteArray).extract i l.length = ⟨(l.drop i).toArray⟩ := by
  apply ByteArray.ext
  simp [ByteArray.data_extract, List.extract_eq_take_drop]
  exact List.take_of_length_le (by simp)
theorem sizeR (l : List UInt8) : (⟨l.toArray⟩ : ByteArray).size = l.length := rfl
set_option maxHeartbeats 800000 in
theorem cLeft (g k : Nat) (l : List UInt8) (w : World) (hg : Sg w g k l) (hk : k ≤ l.length) :
    Calls Tryd.prog 63 #[.pointer (some ⟨g, 0, none⟩)] w fun e w' => e = .returned (.string ⟨(l.drop k).toArray⟩) ∧ Below w.heap.size w w' := by
  have x0 : w.cell? ⟨g, 0, none⟩ = some (.string ⟨l.toArray⟩) := blk_cellR hg 0
  have x1 : w.cell? ⟨g, 1, none⟩ = some (.int .i64 (k : Int)) := blk_cellR hg 1
  rw [← ext_dropR]
  rw [← sizeR l] at *
  generalize (⟨l.toArray⟩ : ByteArray) = t at *
  have h0 : (0 : Int) ≤ (k : Int) := by omega
  have h1 : (k : Int) ≤ (t.size : Int) := by omega
  go_enter Tryd.func63, Tryd.ntmps63
  go_wp2_with fail
  go_quiet (fail)
  go_wp2
  go_ret
  exact ⟨rfl, below_drewN w _⟩
set_option maxHeartbeats 800000 in
theorem cNext0 (g k : Nat) (l : List UInt8) (w : World) (hg : Sg w g k l) (hk : k = l.length) :
    Calls Tryd.prog 61 #[.pointer (some ⟨g, 0, none⟩)] w fun e w' => e = .returned (.int .u8 0) ∧ Below w.heap.size w w' := by
  have C := cLeft g k l w hg (by omega)
  rw [List.drop_of_length_le (by omega)] at C
  go_enter Tryd.func61, Tryd.ntmps61
  go_wp2_with fail
  refine C.mono ?_
  rintro e w1 ⟨rfl, hb⟩
  go_wp2
  go_ret
  exact ⟨rfl, hb⟩
theorem blk_setR {w : World} {g i : Nat} {cs : Array Value} {t : TypeId} {f : Nat × Nat} {v : Value} (h : w.heap[g]? = some (.cells cs t f)) : (w.setCell ⟨g, i, none⟩ v).heap[g]? = some (.cells (cs.setIfInBounds i v) t f) := by
  have hl := lt_of_block h
  have h' : w.heap[g] = .cells cs t f := by rw [Array.getElem?_eq_getElem hl] at h; exact Option.some.inj h
  simp [World.setCell, hl, Array.getElem_modify, h']
theorem indexR (l : List UInt8) (k : Nat) (hk : k < l.length) : ∀ h, (⟨l.toArray⟩ : ByteArray)[k]'h = l.getD k 0 := by
  intro h
  simp [hk]
  rfl
set_option maxHeartbeats 800000 in
theorem cNext1 (g k : Nat) (l : List UInt8) (w : World) (hg : Sg w g k l) (hk : k < l.length) (hm : l.length ≤ 1048576) :
    Calls Tryd.prog 61 #[.pointer (some ⟨g, 0, none⟩)] w fun e w' => e = .returned (.int .u8 (l.getD k 0).toNat) ∧ Sg w' g (k + 1) l ∧ Rd g w w' := by
  have C := cLeft g k l w hg (by omega)
  have hne : (⟨(l.drop k).toArray⟩ : ByteArray).toList.isEmpty = false := by
    rw [ByteArray.toList_eq]
    cases hd : l.drop k with
    | nil => have := congrArg List.length hd; simp at this; omega
    | cons a b => rfl
  generalize (⟨(l.drop k).toArray⟩ : ByteArray) = d at *
  have hgl := hg.lt
  go_enter Tryd.func61, Tryd.ntmps61
  go_wp2_with fail
  refine C.mono ?_
  rintro e w1 ⟨rfl, hb⟩
  have hR := Rd.of hb hgl
  have hg1 := hg.keep hb
  have x0 : w1.cell? ⟨g, 0, none⟩ = some (.string ⟨l.toArray⟩) := blk_cellR hg1 0
  have x1 : w1.cell? ⟨g, 1, none⟩ = some (.int .i64 (k : Int)) := blk_cellR hg1 1
  have hf : w1.frozen? ⟨g, 1, none⟩ = false := by unfold Sg at hg1; simp [World.frozen?, hg1]
  go_wp2_with fail
  have hg2 : Sg (w1.setCell ⟨g, 1, none⟩ (.int .i64 ((k : Int) + 1))) g (k + 1) l := by
    have := blk_setR (i := 1) (v := .int .i64 ((k : Int) + 1)) hg1
    simpa [Sg] using this
  have hR2 := hR.trans (Rd.set (i := 1) w1 (.int .i64 ((k : Int) + 1)))
  generalize w1.setCell ⟨g, 1, none⟩ (.int .i64 ((k : Int) + 1)) = w2 at *
  clear x0 x1 hf
  have x0 : w2.cell? ⟨g, 0, none⟩ = some (.string ⟨l.toArray⟩) := blk_cellR hg2 0
  have x1 : w2.cell? ⟨g, 1, none⟩ = some (.int .i64 ((k : Int) + 1)) := blk_cellR hg2 1
  have hsz := sizeR l
  have hx := indexR l k hk
  generalize (⟨l.toArray⟩ : ByteArray) = t at *
  have hkt : (k : Int) < (t.size : Int) := by omega
  have hk0 : (0 : Int) ≤ (k : Int) := by omega
  go_quiet (fail)
  go_wp2
  go_ret
  refine ⟨?_, hg2, hR2.trans (Rd.of (below_drewN _ _) hg2.lt)⟩
  show Ending.returned (.int .u8 ((l[k]'hk).toNat : Int)) = _
  simp [hk]
/-- What next gives, and the place behind it. -/
def nx (l : List UInt8) (k : Nat) : UInt8 := l.getD k 0
def nk (l : List UInt8) (k : Nat) : Nat := if k < l.length then k + 1 else k
theorem cNext (g k : Nat) (l : List UInt8) (w : World) (hg : Sg w g k l) (hk : k ≤ l.length) (hm : l.length ≤ 1048576) :
    Calls Tryd.prog 61 #[.pointer (some ⟨g, 0, none⟩)] w fun e w' => e = .returned (.int .u8 (nx l k).toNat) ∧ Sg w' g (nk l k) l ∧ Rd g w w' := by
  by_cases h : k < l.length
  · rw [nx, nk, if_pos h]
    exact cNext1 g k l w hg h hm
  · have e : k = l.length := by omega
    refine (cNext0 g k l w hg e).mono ?_
    rintro e w' ⟨rfl, hb⟩
    rw [nx, nk, if_neg h]
    refine ⟨?_, hg.keep hb, Rd.of hb hg.lt⟩
    simp [h]
theorem nk_le {l : List UInt8} {k : Nat} (hk : k ≤ l.length) : nk l k ≤ l.length := by unfold nk; split <;> omega
/-- A reading that was wrong: one message, and what lies below it. -/
abbrev mis (m : ByteArray) (v : Value) : Value := .iface 75 (.agg #[.string m, v])
/-- What an answer with an error says: a right value and no error, or nothing and a reading that was wrong. -/
def AnsM (z : Value) (o : Option Value) (v : Value) (e : Ending) : Prop := (∃ r, o = some r ∧ e = .returned (.tuple #[r, .nilIface])) ∨ (o = none ∧ ∃ m, e = .returned (.tuple #[z, mis m v]))
def endO (b : UInt8) : Option Bool := if b = 62 then some false else if b = 60 then some true else none
theorem Rd.cell0 {g : Nat} {w w' : World} {v : Value} (h : Rd g w w') (h0 : 0 < g) (hv : w.cell? ⟨0, 0, none⟩ = some v) : w'.cell? ⟨0, 0, none⟩ = some v := by
  rw [← hv]
  simp only [World.cell?, h.bel.block 0 h0]
set_option maxHeartbeats 800000 in
theorem cEnd (g k : Nat) (l : List UInt8) (w : World) (T : TypeId) (u : Value) (hv : w.cell? ⟨0, 0, none⟩ = some (.iface T u)) (h0 : 0 < g) (hg : Sg w g k l) (hk : k ≤ l.length) (hm : l.length ≤ 1048576) :
    Calls Tryd.prog 62 #[.pointer (some ⟨g, 0, none⟩)] w fun e w' => AnsM (.bool false) ((endO (nx l k)).map .bool) (.iface T u) e ∧ Sg w' g (nk l k) l ∧ Rd g w w' := by
  have C := cNext g k l w hg hk hm
  generalize nx l k = b at *
  obtain ⟨O, hO⟩ : ∃ O, (endO b).map Value.bool = O := ⟨_, rfl⟩
  rw [hO]
  replace hO := hide hO
  go_enter Tryd.func62, Tryd.ntmps62
  go_wp2_with fail
  refine C.mono ?_
  rintro e w1 ⟨rfl, hg1, hR⟩
  by_cases h1 : b = 62
  · subst h1
    go_wp2
    go_ret2
    exact ⟨.inl ⟨.bool false, by rw [← hO.out]; rfl, rfl⟩, hg1, hR⟩
  by_cases h2 : b = 60
  · subst h2
    go_wp2
    go_ret2
    exact ⟨.inl ⟨.bool true, by rw [← hO.out]; rfl, rfl⟩, hg1, hR⟩
  have hN := hide (show O = none by rw [← hO.out, endO, if_neg h1, if_neg h2]; rfl)
  have n1 : ¬ ((b.toNat : Int) = 62) := by intro e; exact h1 (UInt8.toNat_inj.1 (by simpa using Int.ofNat.inj e))
  have n2 : ¬ ((b.toNat : Int) = 60) := by intro e; exact h2 (UInt8.toNat_inj.1 (by simpa using Int.ofNat.inj e))
  have hv1 := hR.cell0 h0 hv
  clear h1 h2 hO
  generalize (b.toNat : Int) = B at *
  go_wp2_with fail
  go_region_held3 (fun w' => w'.cell? ⟨0, 0, none⟩ = some (.iface T u)) (exact hv1) (fail)
  go_wp2
  go_ret2
  exact ⟨.inr ⟨hN.out, _, rfl⟩, hg1, hR.trans (Rd.of (below_drewN _ _) hg1.lt)⟩
end Go.Proofs.YtnddhpdhbmbikaaDoor
