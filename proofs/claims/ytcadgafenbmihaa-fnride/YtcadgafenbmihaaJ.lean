/- A train's step: the speed held, the growth, the train in memory. -/
import Derived.Test.YtcadgafenbmihaaH
import Derived.Deep.RegionHeld3
import Derived.Deep.Cut
namespace Go.Proofs.Ytcadgafenbmihaa
open Go.RowKit Fl

attribute [local go_sem] run_store_float

theorem bcell {W w1 : World} (hb : Below W.heap.size W w1) : (∀ b o, b < W.heap.size → w1.cell? ⟨b, o, none⟩ = W.cell? ⟨b, o, none⟩) ∧ (∀ b o, b < W.heap.size → w1.frozen? ⟨b, o, none⟩ = W.frozen? ⟨b, o, none⟩) :=
  ⟨fun b o h => hb.cell (p := ⟨b, o, none⟩) h, fun b o h => hb.frozen (p := ⟨b, o, none⟩) h⟩

set_option maxHeartbeats 800000 in
theorem c73 (x b cap : Nat) (w : World) (hc : w.cell? ⟨b, 0, none⟩ = some (.float .f64 k200)) :
    Calls Try.prog 73 #[.float .f64 x, .slice (some ⟨b, 0, none⟩) 1 cap] w fun e w' => e = .returned (.float .f64 (if flt k200 x = true then k200 else x)) ∧ w' = w := by
  have E : Hid (flt k200 x = (FloatKind.f64.format.order k200 x == some .lt)) := rfl
  generalize flt k200 x = f at *
  by_cases ho : FloatKind.f64.format.order k200 x = some .lt
  · have R : Hid ((if f = true then k200 else x) = k200) := by rw [E.out, ho]; rfl
    generalize (if f = true then k200 else x) = r at *
    clear E
    go_enter Try.func73, Try.ntmps73
    go_wp2
    go_loop [0, 6, 9] (fun y _ i => (i = .int .i64 0 ∧ y = .float .f64 x) ∨ (i = .int .i64 1 ∧ y = .float .f64 k200)) (fun _ _ i => 1 - (intOf i).toNat)
    case atStart => exact .inl ⟨rfl, rfl⟩
    case round =>
      rcases hrel with ⟨rfl, rfl⟩ | ⟨rfl, rfl⟩
      · go_wp2
        go_round
        case rel => exact .inr ⟨rfl, rfl⟩
        case measure => simp [intOf]
      · go_wp2
        go_ret
        exact ⟨ret_fl R.out.symm, rfl⟩
  · have ho' : (FloatKind.f64.format.order k200 x == some .lt) = false := by simpa using ho
    have R : Hid ((if f = true then k200 else x) = x) := by rw [E.out, ho']; rfl
    generalize (if f = true then k200 else x) = r at *
    clear E ho
    go_enter Try.func73, Try.ntmps73
    go_wp2
    go_loop [0, 6, 9] (fun y _ i => (i = .int .i64 0 ∧ y = .float .f64 x) ∨ (i = .int .i64 1 ∧ y = .float .f64 x)) (fun _ _ i => 1 - (intOf i).toNat)
    case atStart => exact .inl ⟨rfl, rfl⟩
    case round =>
      rcases hrel with ⟨rfl, rfl⟩ | ⟨rfl, rfl⟩
      · go_wp2
        go_round
        case rel => exact .inr ⟨rfl, rfl⟩
        case measure => simp [intOf]
      · go_wp2
        go_ret
        exact ⟨ret_fl R.out.symm, rfl⟩

set_option maxHeartbeats 800000 in
theorem c70 (x : Nat) (w : World) : Calls Try.prog 70 #[.float .f64 x] w fun e w' => e = .returned (.float .f64 (held x)) ∧ Below w.heap.size w w' := by
  have E : Hid (held x = if fle x 0 = true then 0 else (if flt k200 x = true then k200 else x)) := rfl
  have E1 : Hid (fle x 0 = (FloatKind.f64.format.order x 0 == some .lt || FloatKind.f64.format.order x 0 == some .eq)) := rfl
  generalize held x = r at *
  generalize fle x 0 = p at *
  have fin : ∀ (h : p = false), Hid (r = if flt k200 x = true then k200 else x) := by
    rintro rfl; exact E
  cases h1 : FloatKind.f64.format.order x 0 with
  | none =>
    have R := fin (by rw [E1.out, h1]; rfl)
    clear E E1 fin
    go_enter Try.func70, Try.ntmps70
    go_wp2_with fail
    refine (c73 x w.heap.size 1 _ (by simp)).mono ?_
    rintro e w1 ⟨rfl, rfl⟩
    rw [← R.out]
    go_wp2
    go_ret
    exact ⟨rfl, balloc _ _⟩
  | some o1 =>
    cases o1 with
    | lt =>
      have R : Hid (r = 0) := by rw [E1.out, h1] at E; exact E
      clear E E1 fin
      go_enter Try.func70, Try.ntmps70
      go_wp2
      go_ret
      exact ⟨ret_fl R.out.symm, Below.refl _ _⟩
    | eq =>
      have R : Hid (r = 0) := by rw [E1.out, h1] at E; exact E
      clear E E1 fin
      go_enter Try.func70, Try.ntmps70
      go_wp2
      go_ret
      exact ⟨ret_fl R.out.symm, Below.refl _ _⟩
    | gt =>
      have R := fin (by rw [E1.out, h1]; rfl)
      clear E E1 fin
      go_enter Try.func70, Try.ntmps70
      go_wp2_with fail
      refine (c73 x w.heap.size 1 _ (by simp)).mono ?_
      rintro e w1 ⟨rfl, rfl⟩
      rw [← R.out]
      go_wp2
      go_ret
      exact ⟨rfl, balloc _ _⟩

set_option maxHeartbeats 800000 in
theorem c71 (e d m sp s1 s2 s3 : Nat) (w : World) (h1 : floatBits .sub .f64 e d = some s1) (h2 : floatBits .quo .f64 s1 m = some s2) (h3 : floatBits .mul .f64 s2 sp = some s3) :
    Calls Try.prog 71 #[.agg #[.float .f64 e, .float .f64 d, .float .f64 m], .float .f64 sp] w fun r w' => r = .returned (.float .f64 s3) ∧ Below w.heap.size w w' := by
  have o1 := fop h1
  have o2 := fop h2
  clear h1 h2
  go_enter Try.func71, Try.ntmps71
  go_wp2_with fail
  refine (c54 _ _ _ _ h3).mono ?_
  rintro r w1 ⟨rfl, rfl⟩
  go_wp2
  go_ret
  exact ⟨rfl, balloc _ _⟩

/-- A train on its way, in a block of its own. -/
def Train (w : World) (b : Nat) (e d m : Nat) (l : LocoV) (s : Value) (v sp : Nat) : Prop :=
  w.heap[b]? = some (.cells #[.float .f64 e, .float .f64 d, .float .f64 m, .float .f64 l.p, .float .f64 l.g, s, .float .f64 v, .float .f64 sp] 86 (0, 0))
theorem Train.lt {w : World} {b e d m : Nat} {l : LocoV} {s : Value} {v sp : Nat} (h : Train w b e d m l s v sp) : b < w.heap.size := by
  unfold Train at h
  by_cases hx : b < w.heap.size
  · exact hx
  · rw [Array.getElem?_eq_none (Nat.le_of_not_lt hx)] at h; cases h
theorem Train.new (w : World) (e d m : Nat) (l : LocoV) (s : Value) (v sp : Nat) : Train (w.alloc (.cells #[.float .f64 e, .float .f64 d, .float .f64 m, .float .f64 l.p, .float .f64 l.g, s, .float .f64 v, .float .f64 sp] 86)) w.heap.size e d m l s v sp := by
  show (w.heap.push _)[w.heap.size]? = _
  rw [Array.getElem?_push, if_pos rfl]
theorem Train.cells {w : World} {b e d m : Nat} {l : LocoV} {s : Value} {v sp : Nat} (h : Train w b e d m l s v sp) :
    (w.cell? ⟨b, 0, none⟩ = some (.float .f64 e) ∧ w.cell? ⟨b, 1, none⟩ = some (.float .f64 d) ∧ w.cell? ⟨b, 2, none⟩ = some (.float .f64 m) ∧ w.cell? ⟨b, 3, none⟩ = some (.float .f64 l.p) ∧ w.cell? ⟨b, 4, none⟩ = some (.float .f64 l.g) ∧ w.cell? ⟨b, 5, none⟩ = some s ∧ w.cell? ⟨b, 6, none⟩ = some (.float .f64 v) ∧ w.cell? ⟨b, 7, none⟩ = some (.float .f64 sp)) ∧
    (w.frozen? ⟨b, 0, none⟩ = false ∧ w.frozen? ⟨b, 1, none⟩ = false ∧ w.frozen? ⟨b, 6, none⟩ = false) := by
  unfold Train at h
  refine ⟨⟨?_, ?_, ?_, ?_, ?_, ?_, ?_, ?_⟩, ?_, ?_, ?_⟩ <;> simp [World.cell?, World.frozen?, h]
theorem Train.block {w w' : World} {b e d m : Nat} {l : LocoV} {s : Value} {v sp : Nat} (h : Train w b e d m l s v sp) (hb : w'.heap[b]? = w.heap[b]?) : Train w' b e d m l s v sp := by
  unfold Train at *; rw [hb]; exact h
theorem Train.below {w w' : World} {b e d m : Nat} {l : LocoV} {s : Value} {v sp : Nat} (h : Train w b e d m l s v sp) (hb : Below w.heap.size w w') : Train w' b e d m l s v sp := h.block (hb.block _ h.lt)
theorem Train.set0 {w : World} {b e d m : Nat} {l : LocoV} {s : Value} {v sp : Nat} (h : Train w b e d m l s v sp) (x : Nat) : Train (w.setCell ⟨b, 0, none⟩ (.float .f64 x)) b x d m l s v sp := by
  have := Go.Joins.block_setCell (i := 0) h (.float .f64 x)
  unfold Train; simpa using this
theorem Train.set1 {w : World} {b e d m : Nat} {l : LocoV} {s : Value} {v sp : Nat} (h : Train w b e d m l s v sp) (x : Nat) : Train (w.setCell ⟨b, 1, none⟩ (.float .f64 x)) b e x m l s v sp := by
  have := Go.Joins.block_setCell (i := 1) h (.float .f64 x)
  unfold Train; simpa using this
theorem Train.set6 {w : World} {b e d m : Nat} {l : LocoV} {s : Value} {v sp : Nat} (h : Train w b e d m l s v sp) (x : Nat) : Train (w.setCell ⟨b, 6, none⟩ (.float .f64 x)) b e d m l s x sp := by
  have := Go.Joins.block_setCell (i := 6) h (.float .f64 x)
  unfold Train; simpa using this
/-- Nothing turns but what lies in one block. -/
theorem gset {w w' : World} {b : Nat} (h : w.grownBy w' (some b)) (o : Nat) (v : Value) : w.grownBy (w'.setCell ⟨b, o, none⟩ v) (some b) :=
  ⟨h.os, h.tape, h.output, by simpa using h.size, fun k hk hne => (Below.heap_setCell _ _ _ _ (by rintro rfl; exact hne rfl)).trans (h.block k hk hne)⟩
theorem gbelow {w w' w2 : World} {b : Nat} (h : w.grownBy w' (some b)) (hb : Below w'.heap.size w' w2) : w.grownBy w2 (some b) :=
  ⟨hb.os.trans h.os, hb.tape.trans h.tape, hb.output.trans h.output, Nat.le_trans h.size hb.size, fun k hk hne => (hb.block k (Nat.lt_of_lt_of_le hk h.size)).trans (h.block k hk hne)⟩
theorem gtrans {w w' w2 : World} {b : Nat} (h : w.grownBy w' (some b)) (g : w'.grownBy w2 (some b)) : w.grownBy w2 (some b) :=
  ⟨g.os.trans h.os, g.tape.trans h.tape, g.output.trans h.output, Nat.le_trans h.size g.size, fun k hk hne => (g.block k (Nat.lt_of_lt_of_le hk h.size) hne).trans (h.block k hk hne)⟩
theorem gof {w w' : World} {b : Nat} (hb : Below w.heap.size w w') : w.grownBy w' (some b) := gbelow (World.grownBy.refl _ _) hb

theorem Cars.lt {w : World} {a : Option Addr} {es : List CarV} (h : Cars w a es) : es = [] ∨ ∃ b off, a = some ⟨b, off, none⟩ ∧ b < w.heap.size := by
  rcases h with h | ⟨b, off, ha, hc⟩
  · exact .inl h
  · by_cases h0 : es = []
    · exact .inl h0
    · have : 0 < es.length := List.length_pos_iff.2 h0
      exact .inr ⟨b, off, ha, cell_lt (hc 0 this).1⟩
/-- The cars lie in another block. -/
def Apart (a : Option Addr) (b : Nat) : Prop := ∀ ad, a = some ad → ad.block ≠ b
theorem Cars.far {w w' : World} {a : Option Addr} {es : List CarV} {b : Nat} (h : Cars w a es) (ha : Apart a b) (hg : w.grownBy w' (some b)) : Cars w' a es := by
  rcases h with h | ⟨b', off, rfl, hc⟩
  · exact .inl h
  · refine .inr ⟨b', off, rfl, fun i hi => ?_⟩
    have hb := cell_lt (hc i hi).1
    have hne : b' ≠ b := ha _ rfl
    have hh : w'.heap[b']? = w.heap[b']? := hg.block b' hb (by intro e; cases e; exact hne rfl)
    have key : ∀ o v, w.cell? ⟨b', o, none⟩ = some v → w'.cell? ⟨b', o, none⟩ = some v := by
      intro o v hv; unfold World.cell? at *; rw [hh]; exact hv
    exact ⟨key _ _ (hc i hi).1, key _ _ (hc i hi).2.1, key _ _ (hc i hi).2.2.1, key _ _ (hc i hi).2.2.2⟩

set_option maxHeartbeats 1600000 in
theorem c60 (l : LocoV) (a : Option Addr) (cap v sp : Nat) (es : List CarV) (w : World) (he : Cars w a es) (hl : es.length ≤ 1048576) :
    Calls Try.prog 60 #[LocoV.val l, .slice a es.length cap, .float .f64 v, .float .f64 sp] w fun r w' => ∃ b, r = .returned (.pointer (some ⟨b, 0, none⟩)) ∧ w.heap.size ≤ b ∧
      Train w' b 0 0 (weigh es) l (.slice a es.length cap) v sp ∧ Below w.heap.size w w' := by
  obtain ⟨p, g⟩ := l
  unfold LocoV.val
  have hA := balloc w (.cells #[.float .f64 p, .float .f64 g] 33)
  have heA := he.below hA
  go_enter Try.func60, Try.ntmps60
  go_wp2_with fail
  go_region_held3 (fun w' => w'.cell? ⟨w.heap.size, 0, none⟩ = some (.float .f64 p) ∧ w'.cell? ⟨w.heap.size, 1, none⟩ = some (.float .f64 g)) (go_keep) (first | (go_at_call 31; with_reducible refine (c31 a cap es _ (by first | with_reducible exact heA | with_reducible exact heA.below (Below.refl _ _).drew) hl).mono ?_; rintro e w1 ⟨rfl, hb1⟩; have HB1 := btrans hA (undrew hb1); obtain ⟨hc, hf⟩ := bcell hb1; clear hb1))
  go_wp2
  go_ret
  exact ⟨_, rfl, HB1.size, Train.new _ _ _ _ ⟨p, g⟩ _ _ _, btrans HB1 (balloc _ _)⟩

end Go.Proofs.Ytcadgafenbmihaa
