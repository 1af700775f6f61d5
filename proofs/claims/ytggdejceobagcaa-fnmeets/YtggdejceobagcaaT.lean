/- What the program's search holds, and what a step of it keeps. -/
import Derived.Test.YtggdejceobagcaaR
import Derived.Test.YtggdejceobagcaaME
import Derived.Test.YtggdejceobagcaaG
namespace Go.Proofs.Ytggdejceobagcaa
open Go.RowKit Go.Maps

/-- What a step keeps: all but the map, the variable of the moves and their row. -/
structure Stp (w w' : World) (bm bv : Nat) (v v' : Value) : Prop where
  os : w'.os = w.os
  tape : w'.tape = w.tape
  output : w'.output = w.output
  size : w.heap.size ≤ w'.heap.size
  block : ∀ k, k < w.heap.size → k ≠ bm → k ≠ bv → some k ≠ v.ownBlock → w'.heap[k]? = w.heap[k]?
  own : v'.ownBlock = v.ownBlock ∨ ∀ k, v'.ownBlock = some k → w.heap.size ≤ k
theorem Stp.refl (w : World) (bm bv : Nat) (v : Value) : Stp w w bm bv v v := ⟨rfl, rfl, rfl, Nat.le_refl _, fun _ _ _ _ _ => rfl, .inl rfl⟩
theorem Stp.trans {w w1 w2 : World} {bm bv : Nat} {v v1 v2 : Value} (h : Stp w w1 bm bv v v1) (g : Stp w1 w2 bm bv v1 v2) : Stp w w2 bm bv v v2 := by
  refine ⟨g.os.trans h.os, g.tape.trans h.tape, g.output.trans h.output, Nat.le_trans h.size g.size, fun k hk h1 h2 h3 => ?_, ?_⟩
  · refine (g.block k (Nat.lt_of_lt_of_le hk h.size) h1 h2 ?_).trans (h.block k hk h1 h2 h3)
    rcases h.own with e | e
    · rw [e]; exact h3
    · intro e2; have := e k e2.symm; omega
  · rcases g.own with e | e
    · rw [e]; exact h.own
    · exact .inr (fun k hk => Nat.le_trans h.size (e k hk))
theorem Stp.below {w w1 w2 : World} {bm bv : Nat} {v v1 : Value} (h : Stp w w1 bm bv v v1) (hb : Below w1.heap.size w1 w2) : Stp w w2 bm bv v v1 :=
  h.trans ⟨hb.os, hb.tape, hb.output, hb.size, fun k hk _ _ _ => hb.block k hk, .inl rfl⟩
theorem Stp.grow {w w1 w2 : World} {bm bv : Nat} {v v1 : Value} (h : Stp w w1 bm bv v v1) (hg : w1.grownBy w2 (some bm)) : Stp w w2 bm bv v v1 :=
  h.trans ⟨hg.os, hg.tape, hg.output, hg.size, fun k hk h1 _ _ => hg.block k hk (fun e => h1 (Option.some.inj e)), .inl rfl⟩
theorem Stp.app {w w1 w2 : World} {bm bv : Nat} {v v1 v2 : Value} (h : Stp w w1 bm bv v v1) (hg : w1.grownBy w2 v1.ownBlock) (ho : v2.ownBlock = v1.ownBlock ∨ v2.ownBlock = some w1.heap.size) : Stp w w2 bm bv v v2 :=
  h.trans ⟨hg.os, hg.tape, hg.output, hg.size, fun k hk _ _ h3 => hg.block k hk h3, ho.imp id (fun e k hk => by rw [e] at hk; cases hk; exact Nat.le_refl _)⟩
theorem Stp.set {w w1 : World} {bm bv : Nat} {v v1 : Value} (h : Stp w w1 bm bv v v1) (o : Nat) (u : Value) : Stp w (w1.setCell ⟨bv, o, none⟩ u) bm bv v v1 :=
  h.trans ⟨rfl, rfl, rfl, by simp, fun k _ _ h2 _ => Below.heap_setCell _ _ _ _ h2, .inl rfl⟩
theorem Stp.setNew {w w1 : World} {bm bv b : Nat} {v v1 : Value} (h : Stp w w1 bm bv v v1) (hb : w.heap.size ≤ b) (o : Nat) (u : Value) : Stp w (w1.setCell ⟨b, o, none⟩ u) bm bv v v1 :=
  ⟨h.os, h.tape, h.output, by simpa using h.size, fun k hk h1 h2 h3 => (Below.heap_setCell _ _ _ _ (by show k ≠ b; omega)).trans (h.block k hk h1 h2 h3), h.own⟩
theorem Stp.cut {w w1 : World} {bm bv : Nat} {v v1 v2 : Value} (h : Stp w w1 bm bv v v1) (he : v2.ownBlock = v1.ownBlock) : Stp w w1 bm bv v v2 := ⟨h.os, h.tape, h.output, h.size, h.block, by rw [he]; exact h.own⟩
/-- The variables that the search holds. -/
structure Env (w : World) (bo bt bl bv bf bm : Nat) (tv lv v : Value) : Prop where
  op : w.heap[bo]? = some (.cells #[.map (some bm)] 75 (0, 0))
  tr : w.heap[bt]? = some (.cells #[tv] 25 (0, 0))
  ln : w.heap[bl]? = some (.cells #[lv] 24 (0, 0))
  mv : w.heap[bv]? = some (.cells #[v] 24 (0, 0))
  fn : w.heap[bf]? = some (.cells #[.func (.func 63) #[] #[.pointer (some ⟨bo, 0, none⟩), .pointer (some ⟨bt, 0, none⟩), .pointer (some ⟨bl, 0, none⟩), .pointer (some ⟨bv, 0, none⟩), .pointer (some ⟨bf, 0, none⟩)]] 77 (0, 0))
  ne : bl ≠ bv
theorem own_ty {w : World} {base n g : Nat} {v : Value} {xs : List Value} {cs : Array Value} {t : TypeId} (h : w.ownsRow base 3 1 v n xs) (hb : w.heap[g]? = some (.cells cs t (0, 0))) (ht : t ≠ 3) : some g ≠ v.ownBlock := by
  rcases h.2 with ⟨rfl, _⟩ | ⟨g', cap, cur, rfl, _, hg, _⟩
  · simp [Value.ownBlock]
  · intro e
    simp only [Value.ownBlock, Option.some.injEq] at e
    subst e
    rw [hg] at hb
    simp only [Option.some.injEq, Obj.cells.injEq] at hb
    exact ht hb.2.1.symm
theorem blk_ty {w : World} {g g' : Nat} {cs cs' : Array Value} {t t' : TypeId} {f f' : Nat × Nat} (h : w.heap[g]? = some (.cells cs t f)) (h' : w.heap[g']? = some (.cells cs' t' f')) (ht : t ≠ t') : g ≠ g' := by
  rintro rfl
  rw [h] at h'
  simp only [Option.some.injEq, Obj.cells.injEq] at h'
  exact ht h'.2.1
theorem Env.step {w w' : World} {bo bt bl bv bf bm n B m : Nat} {tv lv v v' : Value} {D : DataW Unit} {xs : List Value} (h : Env w bo bt bl bv bf bm tv lv v) (hm : OM w bm n D) (ho : w.ownsRow B 3 1 v m xs) (hs : Stp w w' bm bv v v') (hv : w'.heap[bv]? = some (.cells #[v'] 24 (0, 0))) : Env w' bo bt bl bv bf bm tv lv v' :=
  ⟨(hs.block bo (lt_of_block h.op) (map_ne' hm h.op) (blk_ty h.op h.mv (by decide)) (own_ty ho h.op (by decide))).trans h.op,
   (hs.block bt (lt_of_block h.tr) (map_ne' hm h.tr) (blk_ty h.tr h.mv (by decide)) (own_ty ho h.tr (by decide))).trans h.tr,
   (hs.block bl (lt_of_block h.ln) (map_ne' hm h.ln) h.ne (own_ty ho h.ln (by decide))).trans h.ln,
   hv,
   (hs.block bf (lt_of_block h.fn) (map_ne' hm h.fn) (blk_ty h.fn h.mv (by decide)) (own_ty ho h.fn (by decide))).trans h.fn,
   h.ne⟩
theorem Env.below {w w' : World} {bo bt bl bv bf bm : Nat} {tv lv v : Value} (h : Env w bo bt bl bv bf bm tv lv v) (hb : Below w.heap.size w w') : Env w' bo bt bl bv bf bm tv lv v :=
  ⟨(hb.block _ (lt_of_block h.op)).trans h.op, (hb.block _ (lt_of_block h.tr)).trans h.tr, (hb.block _ (lt_of_block h.ln)).trans h.ln, (hb.block _ (lt_of_block h.mv)).trans h.mv, (hb.block _ (lt_of_block h.fn)).trans h.fn, h.ne⟩
theorem Env.vlt {w : World} {bo bt bl bv bf bm : Nat} {tv lv v : Value} (h : Env w bo bt bl bv bf bm tv lv v) : bv < w.heap.size := lt_of_block h.mv
/-- The line's own places stay. -/
theorem Stp.ints {w w' : World} {bm bv B : Nat} {v v' : Value} {m : Nat} {xs : List Value} {a : Option Addr} {ls : List Int} (hs : Stp w w' bm bv v v') (ho : w.ownsRow B 3 1 v m xs) (hm : B ≤ bm) (hv : B ≤ bv) (h : Ints w a ls) (ha : ∀ x, a = some x → x.block < B) : Ints w' a ls := by
  rcases h with h | ⟨b, off, hb, hc⟩
  · exact .inl h
  · refine .inr ⟨b, off, hb, fun i hi => ?_⟩
    have hlt : b < B := ha _ hb
    have := hs.block b (cell_lt (hc i hi)) (by omega) (by omega) (fun e => by have := own_from ho (Nat.le_refl _) b e.symm; omega)
    rw [← hc i hi]
    simp only [World.cell?, this]
theorem Up.step {w w' : World} {bm bv b : Nat} {v v' : Value} {l : List SingleV} (h : Up w b l) (hs : Stp w w' bm bv v v') (h1 : b ≠ bm) (h2 : b ≠ bv) (h3 : some b ≠ v.ownBlock) : Up w' b l := by
  have e := hs.block b h.lt h1 h2 h3
  intro i hi
  obtain ⟨⟨g1, g2⟩, g3, g4⟩ := h i hi
  simp only [World.cell?, World.frozen?] at *
  rw [e]
  exact ⟨⟨g1, g2⟩, g3, g4⟩
theorem Up.own {w : World} {b : Nat} {l : List SingleV} (h : Up w b l) : Singles w (some ⟨b, 0, none⟩) l ∨ l.length ≠ 4 := by
  by_cases hl : l.length = 4
  · refine .inl (.inr ⟨b, 0, rfl, fun i hi => ?_⟩)
    have := (h i (by omega)).1
    rw [Nat.zero_add]
    exact this
  · exact .inr hl
/-- The trains in the block of a line-up. -/
theorem Up.singles {w : World} {b : Nat} {ts : List SingleV} (h : Up w b (pad ts)) (hl : ts.length ≤ 4) : Singles w (some ⟨b, 0, none⟩) ts := by
  refine .inr ⟨b, 0, rfl, fun i hi => ?_⟩
  have := (h i (by omega)).1
  rw [At_pad] at this
  rw [Nat.zero_add]
  exact this
/-- A row is one less. -/
theorem own_cut {w : World} {B n cap : Nat} {a : Option Addr} {ms : List Int} {x : Int} (h : w.ownsRow B 3 1 (.slice a n cap) n ((ms ++ [x]).map (Value.int .i64))) : w.ownsRow B 3 1 (.slice a (n - 1) cap) (n - 1) (ms.map (Value.int .i64)) ∧ n = ms.length + 1 ∧ n ≤ cap ∧ a.isSome := by
  have hl := h.1
  simp at hl
  rcases h.2 with ⟨_, h0⟩ | ⟨g, cap', cur, he, hg, hh, h1, h2, h3, h4⟩
  · omega
  · simp only [Value.slice.injEq] at he
    obtain ⟨rfl, _, rfl⟩ := he
    refine ⟨⟨by simp; omega, .inr ⟨g, cap, cur, rfl, hg, hh, by omega, h2, h3, ?_⟩⟩, by omega, h1, rfl⟩
    have e2 : List.take (n - 1) ((ms ++ [x]).map (Value.int .i64)) = ms.map (Value.int .i64) := by
      rw [List.map_append, List.take_append_of_le_length (by simp; omega), List.take_of_length_le (by simp; omega)]
    have e1 : List.take ((n - 1) * 1) cur.toList = List.take (n - 1) (List.take (n * 1) cur.toList) := by
      rw [List.take_take]; congr 1; omega
    rw [e1, h4, e2]
theorem arrLU : Try.prog.arrayLen 74 = 4 := by kernel_rfl
theorem slice_lu (w : World) (b n : Nat) (h : n ≤ 4) : (Instr.sliceAt 74 (.pointer (some ⟨b, 0, none⟩)) none (some (.int .i64 n)) none).run Try.prog w = .ok (.slice (some ⟨b, 0, none⟩) n 4) w := by
  have hu : Try.prog.underlying 74 = some (.array (Try.prog.arrayLen 74) (Try.prog.elem 74)) := by kernel_rfl
  have hz : (sizeOf (Try.prog.elem 74)).run Try.prog w = .ok 2 w := by kernel_rfl
  rw [run_sliceAt_array_h (P := Try.prog) w 74 ⟨b, 0, none⟩ hu .i64 (n : Int) (by omega) (by rw [arrLU]; omega), hz, arrLU]
  simp [Result.andThen, slicedAt, Addr.add]
end Go.Proofs.Ytggdejceobagcaa
