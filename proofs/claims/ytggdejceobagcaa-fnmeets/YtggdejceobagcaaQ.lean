/- The program's closure that tells all line-ups ahead. -/
import Derived.Test.YtggdejceobagcaaP
namespace Go.Proofs.Ytggdejceobagcaa
open Go.RowKit Go.Maps

abbrev OM (w : World) (bm n : Nat) (D : DataW Unit) : Prop := w.ownsMap Try.prog 74 (plainElem Try.prog 3) bm n D
/-- A line-up in a block. -/
def Up (w : World) (b : Nat) (l : List SingleV) : Prop :=
  ∀ i, i < 4 → (w.cell? ⟨b, i * 2, none⟩ = some (.int .i64 (At l i).s) ∧ w.cell? ⟨b, i * 2 + 1, none⟩ = some (.int .i64 (At l i).d)) ∧ w.frozen? ⟨b, i * 2, none⟩ = false ∧ w.frozen? ⟨b, i * 2 + 1, none⟩ = false
theorem frozen_far {w w' : World} {r : Option Nat} (hg : w.grownBy w' r) {b o : Nat} (hb : b < w.heap.size) (hr : some b ≠ r) : w'.frozen? ⟨b, o, none⟩ = w.frozen? ⟨b, o, none⟩ := by
  have := hg.block b hb hr
  simp only [World.frozen?, this]
theorem cell_far' {w w' : World} {r : Option Nat} (hg : w.grownBy w' r) {b o : Nat} {v : Value} (hr : some b ≠ r) (hc : w.cell? ⟨b, o, none⟩ = some v) : w'.cell? ⟨b, o, none⟩ = some v := by
  have := hg.block b (cell_lt hc) hr
  rw [← hc]
  simp only [World.cell?, this]
theorem Up.lt {w : World} {b : Nat} {l : List SingleV} (h : Up w b l) : b < w.heap.size := cell_lt (h 0 (by omega)).1.1
theorem Up.far {w w' : World} {r : Option Nat} {b : Nat} {l : List SingleV} (h : Up w b l) (hg : w.grownBy w' r) (hr : some b ≠ r) : Up w' b l := by
  intro i hi
  obtain ⟨⟨h1, h2⟩, h3, h4⟩ := h i hi
  exact ⟨⟨cell_far' hg hr h1, cell_far' hg hr h2⟩, (frozen_far hg h.lt hr).trans h3, (frozen_far hg h.lt hr).trans h4⟩
theorem Up.below {w w' : World} {b : Nat} {l : List SingleV} (h : Up w b l) (hb : Below w.heap.size w w') : Up w' b l := by
  intro i hi
  obtain ⟨⟨h1, h2⟩, h3, h4⟩ := h i hi
  exact ⟨⟨ble hb h1, ble hb h2⟩, ((bcell hb).2 _ _ h.lt).trans h3, ((bcell hb).2 _ _ h.lt).trans h4⟩
theorem Up.set {w : World} {b p : Nat} {l : List SingleV} (h : Up w b l) (hl : l.length = 4) (hp : p < 4) (x : Int) : Up (w.setCell ⟨b, p * 2, none⟩ (.int .i64 x)) b (l.set p ⟨x, (At l p).d⟩) := by
  intro i hi
  obtain ⟨⟨h1, h2⟩, h3, h4⟩ := h i hi
  refine ⟨⟨?_, ?_⟩, by rw [World.frozen?_setCell]; exact h3, by rw [World.frozen?_setCell]; exact h4⟩
  · by_cases e : p = i
    · subst e
      rw [World.cell?_setCell_same _ _ _ h1, At_set_same (by omega)]
    · rw [World.cell?_setCell_other _ _ _ _ (by intro e2; rw [Addr.mk.injEq] at e2; omega), At_set_other e]; exact h1
  · rw [World.cell?_setCell_other _ _ _ _ (by intro e2; rw [Addr.mk.injEq] at e2; omega), h2]
    by_cases e : p = i
    · subst e; rw [At_set_same (by omega)]
    · rw [At_set_other e]
theorem Up.eight {w : World} {b : Nat} {l : List SingleV} (h : Up w b l) :
    (w.cell? ⟨b, 0, none⟩ = some (.int .i64 (At l 0).s) ∧ w.cell? ⟨b, 1, none⟩ = some (.int .i64 (At l 0).d)) ∧ (w.cell? ⟨b, 2, none⟩ = some (.int .i64 (At l 1).s) ∧ w.cell? ⟨b, 3, none⟩ = some (.int .i64 (At l 1).d)) ∧
    (w.cell? ⟨b, 4, none⟩ = some (.int .i64 (At l 2).s) ∧ w.cell? ⟨b, 5, none⟩ = some (.int .i64 (At l 2).d)) ∧ (w.cell? ⟨b, 6, none⟩ = some (.int .i64 (At l 3).s) ∧ w.cell? ⟨b, 7, none⟩ = some (.int .i64 (At l 3).d)) :=
  ⟨(h 0 (by omega)).1, (h 1 (by omega)).1, (h 2 (by omega)).1, (h 3 (by omega)).1⟩
theorem luVal_at {l : List SingleV} (hl : l.length = 4) : luVal l = .agg #[.int .i64 (At l 0).s, .int .i64 (At l 0).d, .int .i64 (At l 1).s, .int .i64 (At l 1).d, .int .i64 (At l 2).s, .int .i64 (At l 2).d, .int .i64 (At l 3).s, .int .i64 (At l 3).d] := by
  obtain ⟨t0, t1, t2, t3, rfl⟩ := four_cases l hl
  rfl
theorem Up.new (w : World) (l : List SingleV) : Up (w.alloc (.cells #[.int .i64 (At l 0).s, .int .i64 (At l 0).d, .int .i64 (At l 1).s, .int .i64 (At l 1).d, .int .i64 (At l 2).s, .int .i64 (At l 2).d, .int .i64 (At l 3).s, .int .i64 (At l 3).d] 74)) w.heap.size l := by
  intro i hi
  match i, hi with
  | 0, _ => simp [go_sem]
  | 1, _ => simp [go_sem]
  | 2, _ => simp [go_sem]
  | 3, _ => simp [go_sem]
theorem map_ne {w : World} {bm n b o : Nat} {D : DataW Unit} {v : Value} (h : OM w bm n D) (hc : w.cell? ⟨b, o, none⟩ = some v) : b ≠ bm := by
  rintro rfl
  obtain ⟨es, clock, hb, _⟩ := h
  simp [World.cell?, hb] at hc
theorem map_ne' {w : World} {bm n b : Nat} {D : DataW Unit} {cs : Array Value} {t : TypeId} {f : Nat × Nat} (h : OM w bm n D) (hc : w.heap[b]? = some (.cells cs t f)) : b ≠ bm := by
  rintro rfl
  obtain ⟨es, clock, hb, _⟩ := h
  rw [hb] at hc; cases hc
/-- The variables that the closure holds. -/
structure Spr (w : World) (ba bs bm : Nat) : Prop where
  all : w.heap[ba]? = some (.cells #[.map (some bm)] 75 (0, 0))
  fn : w.heap[bs]? = some (.cells #[.func (.func 69) #[] #[.pointer (some ⟨ba, 0, none⟩), .pointer (some ⟨bs, 0, none⟩)]] 82 (0, 0))
theorem Spr.grow {w w' : World} {ba bs bm n : Nat} {D : DataW Unit} (h : Spr w ba bs bm) (hm : OM w bm n D) (hg : w.grownBy w' (some bm)) : Spr w' ba bs bm :=
  ⟨(hg.block ba (lt_of_block h.all) (fun e => map_ne' hm h.all (Option.some.inj e))).trans h.all, (hg.block bs (lt_of_block h.fn) (fun e => map_ne' hm h.fn (Option.some.inj e))).trans h.fn⟩
theorem Spr.below {w w' : World} {ba bs bm : Nat} (h : Spr w ba bs bm) (hb : Below w.heap.size w w') : Spr w' ba bs bm :=
  ⟨(hb.block ba (lt_of_block h.all)).trans h.all, (hb.block bs (lt_of_block h.fn)).trans h.fn⟩
theorem OM.below {w w' : World} {bm n : Nat} {D : DataW Unit} (h : OM w bm n D) (hb : Below w.heap.size w w') : OM w' bm n D := World.ownsMap.kept h (gbelow (b := bm + 1) (World.grownBy.refl _ _) hb) (by simp)

set_option maxRecDepth 20000 in
set_option maxHeartbeats 3200000 in
theorem cSpread0 (ba bs bm : Nat) (l : List SingleV) (left : Int) (n : Nat) (D : DataW Unit) (w : World) (hl : Nice l) (h0 : 0 ≤ left) (h1 : left ≤ 100) (hs : Spr w ba bs bm) (hm : OM w bm n D) (hn : n ≤ 10000) :
    Calls Try.prog 69 #[luVal l, .int .i64 4, .int .i64 left, .pointer (some ⟨ba, 0, none⟩), .pointer (some ⟨bs, 0, none⟩)] w fun e w' => e = .returned (.tuple #[]) ∧
      ∃ D', OM w' bm (n + 1) D' ∧ TellAll 4 l left (look D) (look D') ∧ w.grownBy w' (some bm) := by
  have hkey := hl.kl
  have hT : ∀ c, c = left → TellAll 4 l left (look D) (look (D.put (kl l) (.lit (.int .i64 c)))) := fun c hc => by
    subst hc
    exact TellAll.four hl (look_put_same hm.isMap hl c) (fun q hq hne => look_put_other hl hq hne _)
  have U := (Up.new w l).eight
  rw [luVal_at hl.len] at hkey ⊢
  have cA := cell_of_one ((balloc w (.cells #[.int .i64 (At l 0).s, .int .i64 (At l 0).d, .int .i64 (At l 1).s, .int .i64 (At l 1).d, .int .i64 (At l 2).s, .int .i64 (At l 2).d, .int .i64 (At l 3).s, .int .i64 (At l 3).d] 74)).block ba (lt_of_block hs.all) |>.trans hs.all)
  have hwf : (Lit.int .i64 left).wf = true := WalkArith.wf_i64 (by omega)
  have hm2 := hm.alloc (.cells #[.int .i64 (At l 0).s, .int .i64 (At l 0).d, .int .i64 (At l 1).s, .int .i64 (At l 1).d, .int .i64 (At l 2).s, .int .i64 (At l 2).d, .int .i64 (At l 3).s, .int .i64 (At l 3).d] 74)
  have hlt := lt_of_block hs.all
  have hg0 := World.grownBy_alloc w (.cells #[.int .i64 (At l 0).s, .int .i64 (At l 0).d, .int .i64 (At l 1).s, .int .i64 (At l 1).d, .int .i64 (At l 2).s, .int .i64 (At l 2).d, .int .i64 (At l 3).s, .int .i64 (At l 3).d] 74) (some bm)
  generalize (At l 0).s = a0 at *
  generalize (At l 0).d = b0 at *
  generalize (At l 1).s = a1 at *
  generalize (At l 1).d = b1 at *
  generalize (At l 2).s = a2 at *
  generalize (At l 2).d = b2 at *
  generalize (At l 3).s = a3 at *
  generalize (At l 3).d = b3 at *
  obtain ⟨⟨u0, u1⟩, ⟨u2, u3⟩, ⟨u4, u5⟩, u6, u7⟩ := U
  go_enter Try.func69, Try.ntmps69
  go_wp2_with (at_mapUpdate; refine wpList_mapUpdate_own _ rfl _ _ _ 75 rfl 74 3 lawLU Try.underlying75 _ bm n _ rfl hm2 (by unfold maxLen; omega) _ _ _ rfl rfl hkey _ [] (plainElem_int Try.underlying3 hwf) ?_; intro w1 hown1 hgrow1)
  go_wp2
  refine bodyPost_ret (results_none rfl _ _ _) rfl ?_
  exact ⟨rfl, _, hown1, hT _ rfl, gtrans hg0 hgrow1⟩
end Go.Proofs.Ytggdejceobagcaa
