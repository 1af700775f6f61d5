/- A book in memory: the train in it and the pieces of its seats; whether a ride is so, whether a booking is right. -/
import Derived.Test.YtjbecnflpfjicaaGreats14PD
import Derived.Test.YtjbecnflpfjicaaGreats14B
import Derived.Deep.RegionHeld3
namespace Go.Proofs.YtjbecnflpfjicaaGreat.s14
open Go.RowKit Go.Lib
/-- The pieces of each of S seats. -/
def gridL (ds : List BkV) (S : Nat) : List Value := (List.range S).flatMap fun (s : Nat) => pcL (hF ds (s : Int))
theorem gridL_succ (ds : List BkV) (S : Nat) : gridL ds (S + 1) = gridL ds S ++ pcL (hF ds (S : Int)) := by simp [gridL, List.range_succ]
theorem gridL_len (ds : List BkV) : ∀ S, (gridL ds S).length = S * 11
  | 0 => rfl
  | S + 1 => by rw [gridL_succ, List.length_append, gridL_len ds S, pcL_len]; omega
theorem gridL_get (ds : List BkV) (q : Nat) (hq : q < 11) : ∀ S s, s < S → (gridL ds S)[s * 11 + q]? = some (.bool (hF ds (s : Int) q))
  | 0, s, h => by omega
  | S + 1, s, h => by
    rw [gridL_succ]
    by_cases e : s = S
    · subst e
      rw [List.getElem?_append_right (by rw [gridL_len]; omega), gridL_len, show s * 11 + q - s * 11 = q by omega, pcL_get _ _ hq]
    · rw [List.getElem?_append_left (by rw [gridL_len]; omega), gridL_get ds q hq S s (by omega)]
theorem gridL_one (ds : List BkV) (S : Nat) : ∀ u ∈ gridL ds S, u.oneCell' = true := by
  intro u hu
  simp only [gridL, List.mem_flatMap] at hu
  obtain ⟨s, _, hs⟩ := hu
  exact pcL_one _ u hs
theorem gridL_ext {xs ys : List BkV} (h : ∀ s p, heldB xs s p = heldB ys s p) (S : Nat) : gridL xs S = gridL ys S := by
  have : ∀ s : Int, hF xs s = hF ys s := fun s => by funext q; exact h s q
  simp only [gridL, this]
/-- A book: block b holds a train (its bookings a row of the call's own) and the pieces of its seats as the bookings ds have them. -/
structure Bk (w : World) (B b : Nat) (N : Nat) (P : Int) (gh ch : Nat) (hs : List BkV) (gs : Nat) (ds : List BkV) : Prop where
  blk : w.heap[b]? = some (.cells #[.int .i64 N, .int .i64 P, .slice (some ⟨gh, 0, none⟩) hs.length ch, .slice (some ⟨gs, 0, none⟩) N N] 121 (0, 0))
  held : w.ownsRow B 82 4 (.slice (some ⟨gh, 0, none⟩) hs.length ch) hs.length (flatBks hs)
  seats : w.heap[gs]? = some (.cells (gridL ds N).toArray 155 (0, 0))
  bB : B ≤ b
  sB : B ≤ gs
theorem blk_keep {w w1 : World} (h : Below w.heap.size w w1) {g : Nat} {o : Obj} (hg : w.heap[g]? = some o) : w1.heap[g]? = some o := (h.block g (lt_of_block hg)).trans hg
theorem Bk.below {w w1 : World} {B b : Nat} {N : Nat} {P : Int} {gh ch : Nat} {hs : List BkV} {gs : Nat} {ds : List BkV} (h : Bk w B b N P gh ch hs gs ds) (hb : Below w.heap.size w w1) : Bk w1 B b N P gh ch hs gs ds :=
  ⟨blk_keep hb h.blk, own_keep h.held hb, blk_keep hb h.seats, h.bB, h.sB⟩
theorem Bk.cells {w : World} {B b : Nat} {N : Nat} {P : Int} {gh ch : Nat} {hs : List BkV} {gs : Nat} {ds : List BkV} (h : Bk w B b N P gh ch hs gs ds) :
    w.cell? ⟨b, 0, none⟩ = some (.int .i64 N) ∧ w.cell? ⟨b, 1, none⟩ = some (.int .i64 P) ∧ w.cell? ⟨b, 2, none⟩ = some (.slice (some ⟨gh, 0, none⟩) hs.length ch) ∧ w.cell? ⟨b, 3, none⟩ = some (.slice (some ⟨gs, 0, none⟩) N N) :=
  ⟨Go.Joins.cell_of_block h.blk 0, Go.Joins.cell_of_block h.blk 1, Go.Joins.cell_of_block h.blk 2, Go.Joins.cell_of_block h.blk 3⟩
theorem Bk.free {w : World} {B b : Nat} {N : Nat} {P : Int} {gh ch : Nat} {hs : List BkV} {gs : Nat} {ds : List BkV} (h : Bk w B b N P gh ch hs gs ds) :
    w.frozen? ⟨b, 0, none⟩ = false ∧ w.frozen? ⟨b, 1, none⟩ = false ∧ w.frozen? ⟨b, 2, none⟩ = false ∧ w.frozen? ⟨b, 3, none⟩ = false :=
  ⟨Go.Joins.unfrozen_of_block h.blk 0, Go.Joins.unfrozen_of_block h.blk 1, Go.Joins.unfrozen_of_block h.blk 2, Go.Joins.unfrozen_of_block h.blk 3⟩
theorem Bk.bks {w : World} {B b : Nat} {N : Nat} {P : Int} {gh ch : Nat} {hs : List BkV} {gs : Nat} {ds : List BkV} (h : Bk w B b N P gh ch hs gs ds) : Bks w (some ⟨gh, 0, none⟩) hs := Bks.of_owns h.held
theorem Bk.cell {w : World} {B b : Nat} {N : Nat} {P : Int} {gh ch : Nat} {hs : List BkV} {gs : Nat} {ds : List BkV} (h : Bk w B b N P gh ch hs gs ds) {s : Nat} (hs' : s < N) {q : Nat} (hq : q < 11) : w.cell? ⟨gs, s * 11 + q, none⟩ = some (.bool (hF ds (s : Int) q)) := by
  have := h.seats
  simp only [World.cell?, this]
  show (gridL ds N).toArray[s * 11 + q]? = _
  rw [List.getElem?_toArray, gridL_get ds q hq _ _ hs']
theorem Bk.row {w : World} {B b : Nat} {N : Nat} {P : Int} {gh ch : Nat} {hs : List BkV} {gs : Nat} {ds : List BkV} (h : Bk w B b N P gh ch hs gs ds) {s : Nat} (hs' : s < N) : w.rangeAt gs (s * 11) (pcL (hF ds (s : Int))) := by
  intro j v hv
  have hj : j < 11 := by have := (List.getElem?_eq_some_iff.1 hv).1; rwa [pcL_len] at this
  rw [pcL_get _ _ hj] at hv
  rw [h.cell hs' hj]; exact hv
theorem range_below {w w1 : World} {b o : Nat} {cs : List Value} (h : w.rangeAt b o cs) (hb : Below w.heap.size w w1) : w1.rangeAt b o cs := fun j v hv => ble hb (h j v hv)

set_option maxHeartbeats 400000 in
theorem cRide (B b : Nat) (N : Nat) (P : Int) (gh ch : Nat) (hs : List BkV) (gs : Nat) (ds : List BkV) (on off : Int) (w : World) (hB : Bk w B b N P gh ch hs gs ds) :
    Calls Tryz.prog 98 #[.pointer (some ⟨b, 0, none⟩), .int .i64 on, .int .i64 off] w fun e w' => e = .returned (.bool (askB P on off)) ∧ w' = w := by
  obtain ⟨c0, c1, c2, c3⟩ := hB.cells
  have E : Hid (askB P on off = decide (0 ≤ on ∧ on < off ∧ off ≤ P)) := rfl
  clear hB c0 c2 c3
  by_cases h1 : 0 ≤ on
  · by_cases h2 : on < off
    · by_cases h3 : off ≤ P
      · go_enter Tryz.func98, Tryz.ntmps98
        go_wp2
        go_ret
        exact ⟨ret_bool (by rw [E.out]; symm; simp; omega), rfl⟩
      · go_enter Tryz.func98, Tryz.ntmps98
        go_wp2
        go_ret
        exact ⟨ret_bool (by rw [E.out]; symm; simp; omega), rfl⟩
    · go_enter Tryz.func98, Tryz.ntmps98
      go_wp2
      go_ret
      exact ⟨ret_bool (by rw [E.out]; symm; simp; omega), rfl⟩
  · go_enter Tryz.func98, Tryz.ntmps98
    go_wp2
    go_ret
    exact ⟨ret_bool (by rw [E.out]; symm; simp; omega), rfl⟩

/-- A booking that may be entered, but for its id. -/
def fitB (S P : Int) (ds : List BkV) (x : BkV) : Bool := inB x.s 0 (S - 1) && askB P x.n x.f && freeB ds x.s x.n x.f
theorem next_fit {S P : Int} {ds : List BkV} {x : BkV} (h0 : 0 ≤ lastI ds) : nextB S P ds x = (decide (lastI ds < x.i) && fitB S P ds x) := by
  rw [Bool.eq_iff_iff]
  simp only [nextB, fitB, bkB, askB, inB, Bool.and_eq_true, decide_eq_true_eq]
  constructor
  · rintro ⟨⟨⟨h1, h2, h3, h4, h5, h6⟩, h7⟩, h8⟩; exact ⟨h7, ⟨⟨h2, h3⟩, h4, h5, h6⟩, h8⟩
  · rintro ⟨h7, ⟨⟨h2, h3⟩, h4, h5, h6⟩, h8⟩; exact ⟨⟨⟨by omega, h2, h3, h4, h5, h6⟩, h7⟩, h8⟩

set_option maxRecDepth 20000 in
set_option maxHeartbeats 3200000 in
theorem cFit (B b : Nat) (N : Nat) (P : Int) (gh ch : Nat) (hs : List BkV) (gs : Nat) (ds : List BkV) (x : BkV) (w : World) (hB : Bk w B b N P gh ch hs gs ds) (h2 : N ≤ 60) (h3 : P ≤ 11) :
    Calls Tryz.prog 82 #[.pointer (some ⟨b, 0, none⟩), x.val] w fun e w' => e = .returned (.bool (fitB N P ds x)) ∧ Below w.heap.size w w' := by
  have hW := balloc w (.cells x.vs.toArray 82)
  have E : Hid (fitB N P ds x = (inB x.s 0 ((N : Int) - 1) && askB P x.n x.f && freeB ds x.s x.n x.f)) := rfl
  have HB := hB.below hW
  have C1 := fun V => cWithin x.s 0 ((N : Int) - 1) V
  have hw1 : IntKind.i64.wrap ((N : Int) - 1) = (N : Int) - 1 := wrap_in _ (by omega) (by omega)
  obtain ⟨xi, xs, xn, xf⟩ := x
  unfold BkV.val BkV.vs at *
  dsimp only at *
  obtain ⟨c0, c1, c2, c3⟩ := HB.cells
  cases hin : inB xs 0 ((N : Int) - 1)
  · rw [hin] at C1 E
    clear c0 c1 c2 hB HB
    go_enter Tryz.func82, Tryz.ntmps82
    go_wp2_with fail
    go_quiet (first | (go_at_call 48; with_reducible refine Calls.quiet_of_same (C1 _)))
    go_wp2
    go_ret
    exact ⟨ret_bool (by rw [E.out]; rfl), bdraw hW _⟩
  rw [hin] at C1 E
  have C2 := fun V (h : Below w.heap.size w V) => cRide B b N P gh ch hs gs ds xn xf V (hB.below h)
  cases hask : askB P xn xf
  · rw [hask] at C2 E
    clear c0 c1 c2 hB HB
    go_enter Tryz.func82, Tryz.ntmps82
    go_wp2_with fail
    go_quiet (first | (go_at_call 48; with_reducible refine Calls.quiet_of_same (C1 _)) | (go_at_call 98; with_reducible refine Calls.quiet_of_same (C2 _ (bdraw hW _))))
    go_wp2
    go_ret
    exact ⟨ret_bool (by rw [E.out]; rfl), bdraw hW _⟩
  rw [hask] at C2 E
  obtain ⟨s0, s1⟩ := inB_true hin
  obtain ⟨a0, a1, a2⟩ := askB_iff.1 hask
  obtain ⟨s, rfl⟩ : ∃ s : Nat, xs = s := ⟨xs.toNat, by omega⟩
  obtain ⟨on, rfl⟩ : ∃ n : Nat, xn = n := ⟨xn.toNat, by omega⟩
  obtain ⟨off, rfl⟩ : ∃ n : Nat, xf = n := ⟨xf.toNat, by omega⟩
  have hsS : s < N := by omega
  have C3 : ∀ V, Calls Tryz.prog 99 #[.agg (pcL (hF ds (s : Int))).toArray, .int .i64 on, .int .i64 off] V fun e w' => e = .returned (.bool (freeB ds s on off)) ∧ Below V.heap.size V w' := fun V => by
    rw [← frB_held (by omega)]; exact cFree (hF ds (s : Int)) on off (by omega) (by omega) V
  have hu11 := under11
  have hs11 : (Tryz.prog.info? 155).map (·.size) = some (pcL (hF ds (s : Int))).length := by rw [pcL_len]; exact size11
  have hlt : (s : Int) < (N : Int) := by omega
  have hge : (0 : Int) ≤ (s : Int) := by omega
  have r0 := HB.row hsS
  have hgs := lt_of_block HB.seats
  obtain ⟨x0, x1, x2, x3⟩ : (w.alloc (.cells #[.int .i64 xi, .int .i64 s, .int .i64 on, .int .i64 off] 82)).cell? ⟨w.heap.size, 0, none⟩ = some (.int .i64 xi) ∧ (w.alloc (.cells #[.int .i64 xi, .int .i64 s, .int .i64 on, .int .i64 off] 82)).cell? ⟨w.heap.size, 1, none⟩ = some (.int .i64 s) ∧ (w.alloc (.cells #[.int .i64 xi, .int .i64 s, .int .i64 on, .int .i64 off] 82)).cell? ⟨w.heap.size, 2, none⟩ = some (.int .i64 on) ∧ (w.alloc (.cells #[.int .i64 xi, .int .i64 s, .int .i64 on, .int .i64 off] 82)).cell? ⟨w.heap.size, 3, none⟩ = some (.int .i64 off) := ⟨by simp, by simp, by simp, by simp⟩
  clear c0 c2 HB hin hask
  generalize hWW : w.alloc (.cells #[.int .i64 xi, .int .i64 s, .int .i64 on, .int .i64 off] 82) = W at *
  generalize hF ds (s : Int) = f at *
  have hbs : b < W.heap.size := cell_lt c1
  go_enter Tryz.func82, Tryz.ntmps82
  go_wp2_with fail
  clear hWW
  go_region_held3 (fun w' => w'.cell? ⟨w.heap.size, 0, none⟩ = some (.int .i64 xi) ∧ w'.cell? ⟨w.heap.size, 1, none⟩ = some (.int .i64 s) ∧ w'.cell? ⟨w.heap.size, 2, none⟩ = some (.int .i64 on) ∧ w'.cell? ⟨w.heap.size, 3, none⟩ = some (.int .i64 off) ∧ w'.cell? ⟨b, 1, none⟩ = some (.int .i64 P) ∧ w'.cell? ⟨b, 3, none⟩ = some (.slice (some ⟨gs, 0, none⟩) N N) ∧ w'.rangeAt gs (s * 11) (pcL f)) (go_keep) (first
    | (go_at_call 99; with_reducible refine (C3 _).mono ?_; rintro e w1 ⟨rfl, hb1⟩; replace hb1 := undrew hb1; have v0 := ble hb1 x0; have v1 := ble hb1 x1; have v2 := ble hb1 x2; have v3 := ble hb1 x3; have v4 := ble hb1 c1; have v5 := ble hb1 c3; have v9 := range_below r0 hb1)
    | (go_at_call 98; with_reducible refine (C2 _ hW.drew).mono ?_; rintro e w2 ⟨rfl, rfl⟩)
    | (go_at_call 48; with_reducible refine (C1 _).mono ?_; rintro e w3 ⟨rfl, rfl⟩))
  go_wp2
  go_ret
  exact ⟨ret_bool (by rw [E.out]; rfl), btrans hW hb1⟩
end Go.Proofs.YtjbecnflpfjicaaGreat.s14

/- A booking entered into the pieces of its seat. -/
namespace Go.Proofs.YtjbecnflpfjicaaGreat.s14
open Go.RowKit Go.Lib
theorem blk_set {w : World} {g i : Nat} {cs : Array Value} {t : TypeId} {f : Nat × Nat} {v : Value} (h : w.heap[g]? = some (.cells cs t f)) : (w.setCell ⟨g, i, none⟩ v).heap[g]? = some (.cells (cs.setIfInBounds i v) t f) := by
  have hl := lt_of_block h
  have h' : w.heap[g] = .cells cs t f := by rw [Array.getElem?_eq_getElem hl] at h; exact Option.some.inj h
  simp [World.setCell, hl, Array.getElem_modify, h']
theorem blk_other {w : World} {g b i : Nat} {o : Obj} {v : Value} (h : w.heap[g]? = some o) (hne : g ≠ b) : (w.setCell ⟨b, i, none⟩ v).heap[g]? = some o := (Below.heap_setCell _ _ _ _ hne).trans h
theorem grid_ext {ds : List BkV} {N : Nat} {xs : List Value} (hl : xs.length = N * 11) (h : ∀ s q, s < N → q < 11 → xs[s * 11 + q]? = some (.bool (hF ds (s : Int) q))) : xs = gridL ds N := by
  apply List.ext_getElem?
  intro t
  by_cases ht : t < N * 11
  · have e : t = t / 11 * 11 + t % 11 := by omega
    rw [e, h _ _ (by omega) (by omega), gridL_get ds _ (by omega) _ _ (by omega)]
  · rw [List.getElem?_eq_none (by omega), List.getElem?_eq_none (by rw [gridL_len]; omega)]
theorem hF_app (ds : List BkV) (x : BkV) (s : Int) (q : Nat) : hF (ds ++ [x]) s q = (hF ds s q || decide (x.s = s ∧ x.n ≤ (q : Int) ∧ (q : Int) < x.f)) := by simp [hF, heldB]
theorem grid_set (ds : List BkV) (N s k : Nat) (i n : Int) (hs : s < N) (hk : k < 11) (hn : n ≤ k) : (gridL (ds ++ [⟨i, s, n, k⟩]) N).set (s * 11 + k) (.bool true) = gridL (ds ++ [⟨i, s, n, (k + 1 : Nat)⟩]) N := by
  apply grid_ext
  · rw [List.length_set, gridL_len]
  · intro s' q hs' hq
    rw [List.getElem?_set, gridL_len]
    by_cases e : s * 11 + k = s' * 11 + q
    · obtain rfl : s = s' := by omega
      obtain rfl : k = q := by omega
      rw [if_pos rfl, if_pos (by omega), hF_app]
      have : decide ((s : Int) = s ∧ n ≤ (k : Int) ∧ (k : Int) < ((k + 1 : Nat) : Int)) = true := decide_eq_true ⟨rfl, hn, by omega⟩
      rw [this, Bool.or_true]
    · rw [if_neg e, gridL_get _ _ hq _ _ hs', hF_app, hF_app]
      have : decide ((s : Int) = (s' : Int) ∧ n ≤ (q : Int) ∧ (q : Int) < (k : Int)) = decide ((s : Int) = (s' : Int) ∧ n ≤ (q : Int) ∧ (q : Int) < ((k + 1 : Nat) : Int)) := decide_eq_decide.2 ⟨fun h => ⟨h.1, h.2.1, by omega⟩, fun h => ⟨h.1, h.2.1, by omega⟩⟩
      rw [this]
theorem grid_none (ds : List BkV) (N : Nat) (i s n : Int) : gridL (ds ++ [⟨i, s, n, n⟩]) N = gridL ds N := by
  refine gridL_ext (fun s' p => ?_) N
  rw [heldB_app]
  have : heldB [⟨i, s, n, n⟩] s' p = false := heldB_no.2 fun b hb h => by simp at hb; subst hb; dsimp only at h; omega
  rw [this, Bool.or_false]
theorem Bk.ne {w : World} {B b : Nat} {N : Nat} {P : Int} {gh ch : Nat} {hs : List BkV} {gs : Nat} {ds : List BkV} (h : Bk w B b N P gh ch hs gs ds) : b ≠ gs := by
  rintro rfl
  have := h.blk.symm.trans h.seats
  simp at this
theorem Bk.neh {w : World} {B b : Nat} {N : Nat} {P : Int} {gh ch : Nat} {hs : List BkV} {gs : Nat} {ds : List BkV} (h : Bk w B b N P gh ch hs gs ds) : gh ≠ gs ∧ gh ≠ b := by
  rcases h.held.2 with ⟨h0, _⟩ | ⟨g, cap, cur, he, _, hh, _⟩
  · cases h0
  · simp only [Value.slice.injEq, Option.some.injEq, Addr.mk.injEq] at he
    obtain ⟨⟨rfl, _⟩, _⟩ := he
    constructor
    · rintro rfl
      have := hh.symm.trans h.seats
      simp at this
    · rintro rfl
      have := hh.symm.trans h.blk
      simp at this
/-- What a cell of a seat's pieces that is set leaves of a book. -/
theorem Bk.set {w : World} {B b : Nat} {N : Nat} {P : Int} {gh ch : Nat} {hs : List BkV} {gs : Nat} {ds es : List BkV} (h : Bk w B b N P gh ch hs gs ds) (t : Nat) (v : Value) (hg : (gridL ds N).set t v = gridL es N) : Bk (w.setCell ⟨gs, t, none⟩ v) B b N P gh ch hs gs es := by
  have hbg := h.ne
  have hhg := h.neh.1
  refine ⟨blk_other h.blk hbg, own_set h.held (fun k hk => by simp [Value.ownBlock] at hk; omega), ?_, h.bB, h.sB⟩
  have := blk_set (i := t) (v := v) h.seats
  rw [List.setIfInBounds_toArray, hg] at this
  exact this
def HoldP (w : World) (B b : Nat) (N : Nat) (P : Int) (gh ch : Nat) (hs : List BkV) (gs : Nat) (ds : List BkV) (e : Ending) (w' : World) : Prop := e = .returned (.tuple #[]) ∧ Bk w' B b N P gh ch hs gs ds ∧ w.grownBy w' (some gs)

set_option maxRecDepth 20000 in
set_option maxHeartbeats 3200000 in
theorem cHold (B b : Nat) (N : Nat) (P : Int) (gh ch : Nat) (hs : List BkV) (gs : Nat) (ds : List BkV) (xi : Int) (s on off : Nat) (w : World) (hB : Bk w B b N P gh ch hs gs ds) (hsN : s < N) (ho : on < off) (hf : off ≤ 11) :
    Calls Tryz.prog 83 #[.pointer (some ⟨b, 0, none⟩), .agg #[.int .i64 xi, .int .i64 s, .int .i64 on, .int .i64 off]] w (HoldP w B b N P gh ch hs gs (ds ++ [⟨xi, s, on, off⟩])) := by
  have hW := balloc w (.cells #[.int .i64 xi, .int .i64 s, .int .i64 on, .int .i64 off] 82)
  have HB := hB.below hW
  have hlt : (s : Int) < (N : Int) := by omega
  have hge : (0 : Int) ≤ (s : Int) := by omega
  have hbw := lt_of_block hB.blk
  have hgw := lt_of_block hB.seats
  have k0 : (w.alloc (.cells #[.int .i64 xi, .int .i64 s, .int .i64 on, .int .i64 off] 82)).heap[w.heap.size]? = some (.cells #[.int .i64 xi, .int .i64 s, .int .i64 on, .int .i64 off] 82 (0, 0)) := heap_alloc_new w _
  have hG0 : w.grownBy (w.alloc (.cells #[.int .i64 xi, .int .i64 s, .int .i64 on, .int .i64 off] 82)) (some gs) := gof hW
  have HB0 : Bk (w.alloc (.cells #[.int .i64 xi, .int .i64 s, .int .i64 on, .int .i64 off] 82)) B b N P gh ch hs gs (ds ++ [⟨xi, s, on, on⟩]) := ⟨HB.blk, HB.held, by rw [grid_none]; exact HB.seats, HB.bB, HB.sB⟩
  go_enter Tryz.func83, Tryz.ntmps83
  go_wp2
  generalize w.alloc (.cells #[.int .i64 xi, .int .i64 s, .int .i64 on, .int .i64 off] 82) = W at *
  go_loopw [4] (fun x wr => ∃ k : Nat, x = .int .i64 k ∧ on ≤ k ∧ k ≤ off ∧ wr.heap[w.heap.size]? = some (.cells #[.int .i64 xi, .int .i64 s, .int .i64 on, .int .i64 off] 82 (0, 0)) ∧ Bk wr B b N P gh ch hs gs (ds ++ [⟨xi, s, on, k⟩]) ∧ w.grownBy wr (some gs)) (fun x _ => off - (intOf x).toNat)
  case atStart => exact ⟨on, rfl, Nat.le_refl _, by omega, k0, HB0, hG0⟩
  case round =>
    obtain ⟨k, rfl, h3, h4, hk, HK, hG⟩ := hrel
    clear HB HB0 hG0 k0
    have x1 : wr.cell? ⟨w.heap.size, 1, none⟩ = some (.int .i64 s) := Go.Joins.cell_of_block hk 1
    have x3 : wr.cell? ⟨w.heap.size, 3, none⟩ = some (.int .i64 off) := Go.Joins.cell_of_block hk 3
    by_cases hlk : k < off
    · obtain ⟨c0, c1, c2, c3⟩ := HK.cells
      have hcc := HK.cell hsN (q := k) (by omega)
      have hfz : wr.frozen? ⟨gs, s * 11 + k, none⟩ = false := Go.Joins.unfrozen_of_block HK.seats _
      have HK2 := HK.set (s * 11 + k) (.bool true) (grid_set ds N s k xi on hsN (by omega) (by omega))
      have hG2 := gset hG (s * 11 + k) (.bool true)
      have hk2 : (wr.setCell ⟨gs, s * 11 + k, none⟩ (.bool true)).heap[w.heap.size]? = some (.cells #[.int .i64 xi, .int .i64 s, .int .i64 on, .int .i64 off] 82 (0, 0)) := blk_other hk (by omega)
      have hk11 : (k : Int) < 11 := by omega
      have hk11' : k < 11 := by omega
      generalize hF (ds ++ [⟨xi, s, on, k⟩]) s k = bb at *
      have hn1 : w.heap.size ≠ gs := by omega
      have hn2 : gs ≠ w.heap.size := by omega
      have hn3 : b ≠ gs := HK.ne
      have hn4 : gs ≠ b := HK.ne.symm
      clear HK hk c0 c1 c2 hB
      go_wp2_with fail
      go_region_held3 (fun w' => w'.cell? ⟨w.heap.size, 1, none⟩ = some (.int .i64 s) ∧ w'.cell? ⟨b, 3, none⟩ = some (.slice (some ⟨gs, 0, none⟩) N N)) (go_keep) (fail)
      go_wp2
      go_roundw
      case rel => exact ⟨k + 1, by go_num, by omega, by omega, hk2, HK2.below (bdraw (Below.refl _ _) 1), gtrans hG2 (gof (bdraw (Below.refl _ _) 1))⟩
      case measure => simp [intOf]; omega
    · obtain rfl : k = off := by omega
      have hfin : HoldP w B b N P gh ch hs gs (ds ++ [⟨xi, s, on, k⟩]) (.returned (.tuple #[])) wr := ⟨rfl, HK, hG⟩
      clear HK hB
      go_wp2
      go_end0
      exact hfin
end Go.Proofs.YtjbecnflpfjicaaGreat.s14

/- All bookings of a train entered anew. -/
namespace Go.Proofs.YtjbecnflpfjicaaGreat.s14
open Go.RowKit Go.Lib
theorem infoPc : (Tryz.prog.info? 155).map (fun i => (i.zero, i.size, i.bytes)) = some (some (.agg (pcA fun _ => false)), 11, 11) := by kernel_rfl
theorem zero_at (j : Nat) (h : j < 11) : (pcA fun _ => false)[j]! = .bool false := by
  match j, h with
  | 0, _ | 1, _ | 2, _ | 3, _ | 4, _ | 5, _ | 6, _ | 7, _ | 8, _ | 9, _ | 10, _ => rfl
theorem zero_grid (N : Nat) : (Builtin.zeroCells (pcA fun _ => false) N).toList = gridL [] N := by
  have hz : (pcA fun _ => false).size = 11 := rfl
  apply grid_ext
  · simp [Builtin.zeroCells, hz]
  · intro s q hs hq
    simp only [Builtin.zeroCells, hz, Array.toList_map, List.getElem?_map, Array.toList_range, List.getElem?_range (show s * 11 + q < N * 11 by omega), Option.map_some]
    rw [zero_at _ (by omega)]
    rfl
theorem run_clear (w : World) (gs M : Nat) (ds : List BkV) (ty : TypeId) (hg : w.heap[gs]? = some (.cells (gridL ds (M + 1)).toArray 155 (0, 0))) :
    (Builtin.clear_ #[119] ty #[.slice (some ⟨gs, 0, none⟩) (M + 1) (M + 1)]).run Tryz.prog w = .ok (.tuple #[]) (w.setRow gs (gridL [] (M + 1)).toArray) := by
  obtain ⟨i0, hi, hz0, hz1, hz2⟩ := info_parts infoPc
  have hst := run_storeCells_at Tryz.prog gs 0 155 (gridL [] (M + 1)) 0 (gridL ds (M + 1)).toArray w hg (by simp [gridL_len]) (gridL_one _ _)
  have e : (gridL ds (M + 1)).toArray.toList.take (0 + 0) ++ gridL [] (M + 1) ++ (gridL ds (M + 1)).toArray.toList.drop (0 + 0 + (gridL [] (M + 1)).length) = gridL [] (M + 1) := by
    rw [List.drop_of_length_le (by simp [gridL_len])]; simp
  rw [e] at hst
  have hzc : (Builtin.zeroCells (Value.agg (pcA fun _ => false)).cells (M + 1)).toList = gridL [] (M + 1) := zero_grid (M + 1)
  simp [Builtin.clear_, run_underlying Tryz.underlying119, zeroValue, typeInfo, hi, hz0, hzc, hst]
theorem wpList_clear_run {P : Program} (w : World) {ops : Array Oper} {rest : List Oper} {o : Oper} {a : Act} {Q : Exit → Act → World → Prop} (hgd : o.guard = none) (d : Operand) (t : TypeId)
    (ho : o.op = .call { callee := .builtin .clear, args := #[d], argTypes := #[t] }) (v : Value) (hd : a.eval d = v) {v' : Value} {w' : World}
    (hr : (Builtin.clear_ #[t] o.type #[v]).run P w = .ok v' w') (h : wpList P ops Q rest (a.put o.dst v') w') : wpList P ops Q (o :: rest) a w := by
  refine wpList_plain hgd fun _ hK => ?_
  unfold Oper.wp execOp
  simp only [ho, resolve, invoke, builtin, Sem.run_bind, Sem.run_pure, Result.andThen_ok, List.map_toArray, List.map_cons, List.map_nil, hd, hr]
  exact hK _ _ h
theorem Bk.at {w : World} {B b : Nat} {N : Nat} {P : Int} {gh ch : Nat} {hs : List BkV} {gs : Nat} {ds : List BkV} (h : Bk w B b N P gh ch hs gs ds) {k : Nat} (hk : k < hs.length) :
    w.cell? ⟨gh, k * 4, none⟩ = some (.int .i64 (hs.getD k BkV.zero).i) ∧ w.cell? ⟨gh, k * 4 + 1, none⟩ = some (.int .i64 (hs.getD k BkV.zero).s) ∧ w.cell? ⟨gh, k * 4 + 2, none⟩ = some (.int .i64 (hs.getD k BkV.zero).n) ∧ w.cell? ⟨gh, k * 4 + 3, none⟩ = some (.int .i64 (hs.getD k BkV.zero).f) := by
  have hl := h.held.1
  rw [flatBks_len] at hl
  obtain ⟨f0, f1, f2, f3⟩ := flatBks_get hs k hk
  exact ⟨(h.held.cellAt _ (by omega)).trans f0, (h.held.cellAt _ (by omega)).trans f1, (h.held.cellAt _ (by omega)).trans f2, (h.held.cellAt _ (by omega)).trans f3⟩
theorem Bk.clear {w : World} {B b : Nat} {N : Nat} {P : Int} {gh ch : Nat} {hs : List BkV} {gs : Nat} {ds : List BkV} (h : Bk w B b N P gh ch hs gs ds) (es : List BkV) : Bk (w.setRow gs (gridL es N).toArray) B b N P gh ch hs gs es :=
  ⟨by rw [setRow_other _ _ _ _ h.ne]; exact h.blk, own_far h.held (grow_row1 _ _ _) (fun k hk e => by simp [Value.ownBlock] at hk; cases e; exact h.neh.1 hk), setRow_heap _ _ _ _ _ _ h.seats, h.bB, h.sB⟩
theorem Bk.far {w w1 : World} {B b : Nat} {N : Nat} {P : Int} {gh ch : Nat} {hs : List BkV} {gs : Nat} {ds : List BkV} (h : Bk w B b N P gh ch hs gs ds) (hg : Below w.heap.size w w1) : Bk w1 B b N P gh ch hs gs ds := h.below hg
theorem upTo_last {S P : Int} {hs : List BkV} {k : Nat} (hk : k ≤ hs.length) (h : upTo S P hs k) : 0 ≤ lastI (hs.take k) := by
  cases k with
  | zero => simp [lastI]
  | succ k =>
    have g := h k (by omega)
    rw [List.take_succ_eq_append_getElem (by omega), lastI_app]
    simp only [List.getD, show k < hs.length from hk, List.getElem?_eq_getElem, Option.getD_some, nextB, Bool.and_eq_true] at g
    have := (bkB_iff.1 g.1.1).1
    omega
def WriteP (w : World) (B b : Nat) (N : Nat) (P : Int) (gh ch : Nat) (hs : List BkV) (gs : Nat) (e : Ending) (w' : World) : Prop :=
  e = .returned (.bool (rtB N P hs)) ∧ w.grownBy w' (some gs) ∧ ∃ es, Bk w' B b N P gh ch hs gs es ∧ (rtB N P hs = true → es = hs)
theorem WriteP.no {w w' : World} {B b : Nat} {N : Nat} {P : Int} {gh ch : Nat} {hs : List BkV} {gs : Nat} {es : List BkV} (h : rtB N P hs = false) (hg : w.grownBy w' (some gs)) (hB : Bk w' B b N P gh ch hs gs es) : WriteP w B b N P gh ch hs gs (.returned (.bool false)) w' :=
  ⟨by rw [h], hg, es, hB, fun e => by rw [h] at e; cases e⟩
theorem WriteP.yes {w w' : World} {B b : Nat} {N : Nat} {P : Int} {gh ch : Nat} {hs : List BkV} {gs : Nat} (h : rtB N P hs = true) (hg : w.grownBy w' (some gs)) (hB : Bk w' B b N P gh ch hs gs hs) : WriteP w B b N P gh ch hs gs (.returned (.bool true)) w' :=
  ⟨by rw [h], hg, hs, hB, fun _ => rfl⟩

set_option maxRecDepth 20000 in
set_option maxHeartbeats 6400000 in
theorem cWrite (B b : Nat) (N : Nat) (P : Int) (gh ch : Nat) (hs : List BkV) (gs : Nat) (ds : List BkV) (w : World) (hB : Bk w B b N P gh ch hs gs ds) (h1 : 1 ≤ N) (h2 : N ≤ 60) (h3 : P ≤ 11) (hl : hs.length ≤ 200) :
    Calls Tryz.prog 67 #[.pointer (some ⟨b, 0, none⟩)] w (WriteP w B b N P gh ch hs gs) := by
  obtain ⟨c0, c1, c2, c3⟩ := hB.cells
  have hcl : ∀ ty, (Builtin.clear_ #[119] ty #[.slice (some ⟨gs, 0, none⟩) N N]).run Tryz.prog w = .ok (.tuple #[]) (w.setRow gs (gridL [] N).toArray) := fun ty => by
    obtain ⟨M, rfl⟩ : ∃ M, N = M + 1 := ⟨N - 1, by omega⟩
    exact run_clear w gs M ds ty hB.seats
  have HC := hB.clear []
  have hG0 := grow_row1 w gs (gridL [] N).toArray
  generalize w.setRow gs (gridL [] N).toArray = V at *
  obtain ⟨d0, d1, d2, d3⟩ := HC.cells
  clear c0 c1 c2
  go_enter Tryz.func67, Tryz.ntmps67
  go_wp2_with (at_builtin; refine wpList_clear_run _ rfl _ 119 rfl _ rfl (hcl _) ?_)
  clear hcl d0 d1 d2 d3 c3
  go_loopw [3, 16] (fun l i wr => ∃ k : Nat, i = .int .i64 k ∧ k ≤ hs.length ∧ l = .int .i64 (lastI (hs.take k)) ∧ Bk wr B b N P gh ch hs gs (hs.take k) ∧ w.grownBy wr (some gs) ∧ Hid (upTo N P hs k)) (fun _ i _ => hs.length - (intOf i).toNat)
  case atStart => exact ⟨0, rfl, Nat.zero_le _, rfl, by simpa using HC, hG0, hide (fun j hj => by omega)⟩
  case round =>
    obtain ⟨k, rfl, hk, rfl, HK, hG, hU⟩ := hrel
    clear HC hG0
    by_cases hlt : k < hs.length
    · obtain ⟨x0, x1, x2, x3⟩ := HK.at hlt
      have hget : hs.take (k + 1) = hs.take k ++ [hs.getD k BkV.zero] := by rw [List.take_succ_eq_append_getElem hlt]; simp [List.getD, hlt]
      have hbad := fun h => hide (rtB_bad (S := N) (P := P) hlt h)
      have hstep := fun h => hide (hU.out.step h)
      have h0 : 0 ≤ lastI (hs.take k) := upTo_last (Nat.le_of_lt hlt) hU.out
      have hnf := hide (next_fit (S := N) (P := P) (x := hs.getD k BkV.zero) h0)
      generalize hs.getD k BkV.zero = x at *
      obtain ⟨xi, xs, xn, xf⟩ := x
      dsimp only at *
      generalize lastI (hs.take k) = la at *
      have hgl : gh < wr.heap.size := cell_lt x0
      have hA := balloc wr (.cells #[.int .i64 xi, .int .i64 xs, .int .i64 xn, .int .i64 xf] 82)
      have k0 : (wr.alloc (.cells #[.int .i64 xi, .int .i64 xs, .int .i64 xn, .int .i64 xf] 82)).heap[wr.heap.size]? = some (.cells #[.int .i64 xi, .int .i64 xs, .int .i64 xn, .int .i64 xf] 82 (0, 0)) := heap_alloc_new wr _
      have HA := HK.below hA
      have HKs := HK.seats
      have hGA := gbelow hG hA
      by_cases hle : xi ≤ la
      · have hF : Hid (WriteP w B b N P gh ch hs gs (.returned (.bool false)) (wr.alloc (.cells #[.int .i64 xi, .int .i64 xs, .int .i64 xn, .int .i64 xf] 82))) := hide (WriteP.no (hbad (by rw [hnf.out, decide_eq_false (by omega)]; rfl)).out hGA HA)
        clear hB HK HA hG hGA hbad hstep hnf
        go_wp2
        go_ret
        exact hF.out
      · have hle' : la < xi := by omega
        go_wp2_with fail
        refine (cFit B b N P gh ch hs gs (hs.take k) ⟨xi, xs, xn, xf⟩ _ HA h2 h3).mono ?_
        rintro e w1 ⟨rfl, hb1⟩
        have H1 := HA.below hb1
        have hG1 := gbelow hGA hb1
        replace k0 := blk_keep hb1 k0
        clear HA hGA HK hG hb1 hA
        cases hfit : fitB N P (hs.take k) ⟨xi, xs, xn, xf⟩
        · have hF : Hid (WriteP w B b N P gh ch hs gs (.returned (.bool false)) w1) := hide (WriteP.no (hbad (by rw [hnf.out, hfit, Bool.and_false])).out hG1 H1)
          clear hB H1 hG1 hbad hstep hnf hfit
          go_wp2
          go_ret
          exact hF.out
        · have hU2 := hstep (by rw [hnf.out, hfit, decide_eq_true hle']; rfl)
          have hfit2 := hfit
          simp only [fitB, Bool.and_eq_true] at hfit2
          obtain ⟨⟨q1, q2⟩, _⟩ := hfit2
          obtain ⟨s0, s1⟩ := inB_true q1
          obtain ⟨a0, a1, a2⟩ := askB_iff.1 q2
          obtain ⟨s, rfl⟩ : ∃ s : Nat, xs = s := ⟨xs.toNat, by omega⟩
          obtain ⟨on, rfl⟩ : ∃ n : Nat, xn = n := ⟨xn.toNat, by omega⟩
          obtain ⟨off, rfl⟩ : ∃ n : Nat, xf = n := ⟨xf.toNat, by omega⟩
          have y0 : w1.cell? ⟨wr.heap.size, 0, none⟩ = some (.int .i64 xi) := Go.Joins.cell_of_block k0 0
          have y1 : w1.cell? ⟨wr.heap.size, 1, none⟩ = some (.int .i64 s) := Go.Joins.cell_of_block k0 1
          have y2 : w1.cell? ⟨wr.heap.size, 2, none⟩ = some (.int .i64 on) := Go.Joins.cell_of_block k0 2
          have y3 : w1.cell? ⟨wr.heap.size, 3, none⟩ = some (.int .i64 off) := Go.Joins.cell_of_block k0 3
          have hne : gs ≠ wr.heap.size := by have := lt_of_block HKs; omega
          clear hbad hstep hnf hfit q1 q2 x0 x1 x2 x3
          go_wp2_with fail
          refine (cHold B b N P gh ch hs gs (hs.take k) xi s on off _ H1 (by omega) (by omega) (by omega)).mono ?_
          rintro e w2 ⟨rfl, H2, hg2⟩
          have z0 : w2.cell? ⟨wr.heap.size, 0, none⟩ = some (.int .i64 xi) := Go.Joins.cell_of_block ((hg2.block _ (lt_of_block k0) (by simpa using hne.symm)).trans k0) 0
          have hG2 := gtrans hG1 hg2
          rw [← hget] at H2
          have hl2 : Hid (lastI (hs.take (k + 1)) = xi) := hide (by rw [hget, lastI_app])
          clear H1 hG1 hg2 k0 y0 y1 y2 y3 hB
          go_wp2
          go_roundw
          case rel => exact ⟨k + 1, by go_num, by omega, by rw [hl2.out], H2, hG2, hU2⟩
          case measure => simp [intOf]; omega
    · obtain rfl : k = hs.length := by omega
      have hF : Hid (WriteP w B b N P gh ch hs gs (.returned (.bool true)) wr) := hide (WriteP.yes (rtB_upTo.2 hU.out) hG (by simpa using HK))
      clear hB HK hG hU
      go_wp2
      go_ret
      exact hF.out
end Go.Proofs.YtjbecnflpfjicaaGreat.s14

/- The book of a train. -/
namespace Go.Proofs.YtjbecnflpfjicaaGreat.s14
open Go.RowKit Go.Lib
theorem sizeBks : (Tryz.prog.info? 82).map (·.size) = some 4 := by
  obtain ⟨i0, hi, hz0, hz1, hz2⟩ := info_parts infoBks
  rw [hi]; simp [hz1]
theorem flatBks_one (es : List BkV) : ∀ u ∈ flatBks es, u.oneCell' = true := by
  intro u hu
  simp only [flatBks, List.mem_flatMap, BkV.vs] at hu
  obtain ⟨e, _, he⟩ := hu
  simp only [List.mem_cons, List.not_mem_nil, or_false] at he
  rcases he with rfl | rfl | rfl | rfl <;> rfl
theorem Bks.all {w : World} {b off : Nat} {es : List BkV} (hc : ∀ i, i < es.length → w.cell? ⟨b, off + i * 4, none⟩ = some (.int .i64 (es.getD i BkV.zero).i) ∧ w.cell? ⟨b, off + i * 4 + 1, none⟩ = some (.int .i64 (es.getD i BkV.zero).s) ∧ w.cell? ⟨b, off + i * 4 + 2, none⟩ = some (.int .i64 (es.getD i BkV.zero).n) ∧ w.cell? ⟨b, off + i * 4 + 3, none⟩ = some (.int .i64 (es.getD i BkV.zero).f)) (j : Nat) (v : Value) (hj : (flatBks es)[j]? = some v) : w.cell? ⟨b, off + j, none⟩ = some v := by
  have hl : j < es.length * 4 := by have := (List.getElem?_eq_some_iff.1 hj).1; rwa [flatBks_len] at this
  obtain ⟨c0, c1, c2, c3⟩ := hc (j / 4) (by omega)
  obtain ⟨f0, f1, f2, f3⟩ := flatBks_get es (j / 4) (by omega)
  have e : j = j / 4 * 4 + j % 4 := by omega
  have h4 : j % 4 < 4 := Nat.mod_lt _ (by omega)
  generalize j / 4 = p at *
  generalize j % 4 = r at *
  match r, h4 with
  | 0, _ => rw [e] at hj ⊢; rw [Nat.add_zero] at hj ⊢; rw [c0, ← f0]; exact hj
  | 1, _ => rw [e] at hj ⊢; rw [← Nat.add_assoc, c1, ← f1]; exact hj
  | 2, _ => rw [e] at hj ⊢; rw [← Nat.add_assoc, c2, ← f2]; exact hj
  | 3, _ => rw [e] at hj ⊢; rw [← Nat.add_assoc, c3, ← f3]; exact hj
/-- Bookings copied into a row that is as long. -/
theorem copy_row (W : World) (B gh : Nat) (a : Option Addr) (c : Nat) (hs : List BkV) (zs : List Value) (ho : W.ownsRow B 82 4 (.slice (some ⟨gh, 0, none⟩) hs.length hs.length) hs.length zs) (hz : Bks W a hs) :
    ∃ W', (∀ ty, (Builtin.copy_ #[41, 41] ty #[.slice (some ⟨gh, 0, none⟩) hs.length hs.length, .slice a hs.length c]).run Tryz.prog W = .ok (goInt hs.length) W') ∧
      W'.ownsRow B 82 4 (.slice (some ⟨gh, 0, none⟩) hs.length hs.length) hs.length (flatBks hs) ∧ W.grownBy W' (some gh) := by
  rcases ho.2 with ⟨h0, _⟩ | ⟨g, cap, cur, he, hg, hh, hnc, hcm, hcs, hx⟩
  · cases h0
  simp only [Value.slice.injEq, Option.some.injEq, Addr.mk.injEq] at he
  obtain ⟨⟨rfl, _⟩, _, rfl⟩ := he
  rcases hz with h | ⟨b, off, rfl, hc⟩
  · subst h
    obtain ⟨i0, hi, hz0, hz1, hz2⟩ := info_parts infoBks
    refine ⟨W, fun ty => ?_, ?_, World.grownBy.refl _ _⟩
    · cases a with
      | none => simp [Builtin.copy_, run_underlying Tryz.underlying41, Builtin.lenOf, Builtin.firstCells, sizeOf, typeInfo, hi, storeCells]
      | some a =>
        have hl := run_loadCells_list (P := Tryz.prog) W a [] (fun j v hj => by simp at hj)
        simp at hl
        simp [Builtin.copy_, run_underlying Tryz.underlying41, Builtin.lenOf, Builtin.firstCells, sizeOf, typeInfo, hi, hl, storeCells]
    · refine ⟨rfl, .inr ⟨gh, 0, cur, rfl, hg, hh, hnc, hcm, hcs, ?_⟩⟩
      simp [flatBks]
  · refine ⟨W.setRow gh (flatBks hs).toArray, fun ty => ?_, ⟨flatBks_len hs, .inr ⟨gh, hs.length, (flatBks hs).toArray, rfl, hg, setRow_heap _ _ _ _ _ _ hh, Nat.le_refl _, hcm, by simp [flatBks_len], by simp [List.take_of_length_le, flatBks_len]⟩⟩, grow_row1 _ _ _⟩
    have := run_copy_s (P := Tryz.prog) W 41 82 ty 4 Tryz.underlying41 sizeBks gh 0 hs.length hs.length ⟨b, off, none⟩ hs.length c hs.length cur 82 (flatBks hs) hh (Nat.min_self _) (flatBks_len hs) (by rw [flatBks_len, hcs]; omega)
      (fun j v hj => by rw [addN]; exact Bks.all hc j v hj) (flatBks_one hs)
    have e : cur.toList.take 0 ++ flatBks hs ++ cur.toList.drop (0 + (flatBks hs).length) = flatBks hs := by
      rw [List.drop_of_length_le (by simp [flatBks_len, hcs])]; simp
    rw [this, e]
theorem blocks2 (w : World) (o1 o2 : Obj) : ((w.alloc o1).alloc o2).heap[w.heap.size]? = some o1 ∧ ((w.alloc o1).alloc o2).heap[w.heap.size + 1]? = some o2 := by
  refine ⟨blk_keep (balloc _ _) (heap_alloc_new w o1), ?_⟩
  have h := heap_alloc_new (w.alloc o1) o2
  rwa [sz1] at h
theorem own_setg {w : World} {base e sz g n cap b i : Nat} {xs : List Value} {u : Value} (hne : g ≠ b) (h : w.ownsRow base e sz (.slice (some ⟨g, 0, none⟩) n cap) n xs) : (w.setCell ⟨b, i, none⟩ u).ownsRow base e sz (.slice (some ⟨g, 0, none⟩) n cap) n xs :=
  own_set h (by intro k hk; simp [Value.ownBlock] at hk; omega)
theorem made_at (j k : Nat) (hj : j < k) : (madeCells (pcA fun _ => false) k)[j]? = some (.bool false) := by
  have h4 : j % 11 < 11 := Nat.mod_lt _ (by omega)
  have hz : (pcA fun _ => false).size = 11 := rfl
  simp only [madeCells, hz]
  generalize hq : j % 11 = q at h4
  match q, h4 with
  | 0, _ | 1, _ | 2, _ | 3, _ | 4, _ | 5, _ | 6, _ | 7, _ | 8, _ | 9, _ | 10, _ => simp [hj, hq, pcA]
theorem made_grid {w : World} {B g N : Nat} (h : w.ownsRow B 155 11 (.slice (some ⟨g, 0, none⟩) N N) N (madeCells (Value.agg (pcA fun _ => false)).cells (N * 11)).toList) : w.heap[g]? = some (.cells (gridL [] N).toArray 155 (0, 0)) := by
  rcases h.2 with ⟨h0, _⟩ | ⟨g', cap, cur, he, _, hh, _, _, hcs, hx⟩
  · cases h0
  simp only [Value.slice.injEq, Option.some.injEq, Addr.mk.injEq] at he
  obtain ⟨⟨rfl, _⟩, _, rfl⟩ := he
  rw [List.take_of_length_le (by simp [hcs])] at hx
  have e : cur.toList = gridL [] N := by
    rw [hx]
    apply grid_ext
    · have := h.1; exact this
    · intro s q hs hq
      rw [Array.getElem?_toList]
      exact made_at _ _ (by omega)
  rw [hh, ← e]
/-- The train in a book. -/
def TrAt (w : World) (B b : Nat) (S P : Int) (gh ch : Nat) (hs : List BkV) : Prop :=
  (∃ v, w.heap[b]? = some (.cells #[.int .i64 S, .int .i64 P, .slice (some ⟨gh, 0, none⟩) hs.length ch, v] 121 (0, 0))) ∧ w.ownsRow B 82 4 (.slice (some ⟨gh, 0, none⟩) hs.length ch) hs.length (flatBks hs)
theorem TrAt.below {w w1 : World} {B b : Nat} {S P : Int} {gh ch : Nat} {hs : List BkV} (h : TrAt w B b S P gh ch hs) (hb : Below w.heap.size w w1) : TrAt w1 B b S P gh ch hs := by
  obtain ⟨⟨v, hv⟩, ho⟩ := h
  exact ⟨⟨v, blk_keep hb hv⟩, own_keep ho hb⟩
theorem Bk.tr {w : World} {B b : Nat} {N : Nat} {P : Int} {gh ch : Nat} {hs : List BkV} {gs : Nat} {ds : List BkV} (h : Bk w B b N P gh ch hs gs ds) : TrAt w B b N P gh ch hs := ⟨⟨_, h.blk⟩, h.held⟩
/-- What the book of a train is. -/
def BookP (w : World) (S P : Int) (hs : List BkV) (e : Ending) (w' : World) : Prop :=
  ∃ b gh, e = .returned (.tuple #[.pointer (some ⟨b, 0, none⟩), .bool (trainB S P hs)]) ∧ TrAt w' w.heap.size b S P gh hs.length hs ∧ Below w.heap.size w w' ∧ (trainB S P hs = true → ∃ gs, Bk w' w.heap.size b S.toNat P gh hs.length hs gs hs)
theorem BookP.no {w w' : World} {S P : Int} {hs : List BkV} {b gh : Nat} (h : trainB S P hs = false) (hT : TrAt w' w.heap.size b S P gh hs.length hs) (hb : Below w.heap.size w w') : BookP w S P hs (.returned (.tuple #[.pointer (some ⟨b, 0, none⟩), .bool false])) w' :=
  ⟨b, gh, by rw [h], hT, hb, fun e => by rw [h] at e; cases e⟩

set_option maxRecDepth 20000 in
set_option maxHeartbeats 6400000 in
theorem cBookOf (S P : Int) (a : Option Addr) (c : Nat) (hs : List BkV) (w : World) (hz : Bks w a hs) (hl : hs.length ≤ 1048576) :
    Calls Tryz.prog 47 #[.agg #[.int .i64 S, .int .i64 P, .slice a hs.length c]] w (BookP w S P hs) := by
  obtain ⟨i0, hi, hz0, hz1, hz2⟩ := info_parts infoBks
  have kk := blocks2 w (Obj.cells #[.int .i64 S, .int .i64 P, .slice a hs.length c] 43) (Obj.cells #[.int .i64 S, .int .i64 P, .slice a hs.length c, .slice none 0 0] 121)
  have hb2 := btrans (balloc w (Obj.cells #[.int .i64 S, .int .i64 P, .slice a hs.length c] 43)) (balloc _ (Obj.cells #[.int .i64 S, .int .i64 P, .slice a hs.length c, .slice none 0 0] 121))
  have hs2 : ((w.alloc (Obj.cells #[.int .i64 S, .int .i64 P, .slice a hs.length c] 43)).alloc (Obj.cells #[.int .i64 S, .int .i64 P, .slice a hs.length c, .slice none 0 0] 121)).heap.size = w.heap.size + 1 + 1 := by simp
  have hC1 := fun V => cWithin S 1 60 V
  have hC2 := fun V => cWithin P 1 11 V
  go_enter Tryz.func47, Tryz.ntmps47
  go_wp2_with (at_make; refine wpList_make_full _ rfl _ _ 41 rfl w.heap.size 82 i0 _ 4 Tryz.underlying41 hi hz0 hz1 _ _ _ _ hs.length rfl rfl rfl rfl (by rw [hz2]; omega) (by unfold maxLen; omega) (by simp; omega) ?_; intro w3 hown hgrow; have kb := (hgrow.block (w.heap.size + 1) (by simp) (by simp)).trans kk.2; have kt := (hgrow.block w.heap.size (by simp; omega) (by simp)).trans kk.1; have q2 : w3.cell? ⟨w.heap.size + 1, 2, none⟩ = some (.slice a hs.length c) := Go.Joins.cell_of_block kb 2; have f2 : w3.frozen? ⟨w.heap.size + 1, 2, none⟩ = false := Go.Joins.unfrozen_of_block kb 2)
  have hb3 : Below w.heap.size w w3 := grow_below' hb2 hgrow (fun k e => by cases e)
  rw [hs2] at hown
  have hn0 : w.heap.size + 1 + 1 < w3.heap.size := owns_lt hown
  have hown4 := own_setg (b := w.heap.size + 1) (i := 2) (u := .slice (some ⟨w.heap.size + 1 + 1, 0, none⟩) hs.length hs.length) (by omega) hown
  have kb4 := blk_set (i := 2) (v := .slice (some ⟨w.heap.size + 1 + 1, 0, none⟩) hs.length hs.length) kb
  have kt4 : (w3.setCell ⟨w.heap.size + 1, 2, none⟩ (.slice (some ⟨w.heap.size + 1 + 1, 0, none⟩) hs.length hs.length)).heap[w.heap.size]? = some (Obj.cells #[.int .i64 S, .int .i64 P, .slice a hs.length c] 43) := blk_other kt (by omega)
  have hb4 := below_set (o := 2) (v := .slice (some ⟨w.heap.size + 1 + 1, 0, none⟩) hs.length hs.length) (show w.heap.size ≤ w.heap.size + 1 by omega) hb3
  generalize hV : w3.setCell ⟨w.heap.size + 1, 2, none⟩ (.slice (some ⟨w.heap.size + 1 + 1, 0, none⟩) hs.length hs.length) = V at *
  clear hV hown kb kt q2 f2 hb3 hgrow kk hb2 hs2 hn0
  replace kb4 : V.heap[w.heap.size + 1]? = some (.cells #[.int .i64 S, .int .i64 P, .slice (some ⟨w.heap.size + 1 + 1, 0, none⟩) hs.length hs.length, .slice none 0 0] 121 (0, 0)) := kb4
  obtain ⟨V5, hcp, hown5, hg5⟩ := copy_row V.drew w.heap.size (w.heap.size + 1 + 1) a c hs _ hown4 ((hz.below hb4).below (bdraw (Below.refl _ _) 1))
  have t0 : V.cell? ⟨w.heap.size, 2, none⟩ = some (.slice a hs.length c) := Go.Joins.cell_of_block kt4 2
  have t1 : V.cell? ⟨w.heap.size + 1, 2, none⟩ = some (.slice (some ⟨w.heap.size + 1 + 1, 0, none⟩) hs.length hs.length) := Go.Joins.cell_of_block kb4 2
  have hlv0 : w.heap.size + 1 < V.heap.size := lt_of_block kb4
  have t0' : V5.cell? ⟨w.heap.size, 2, none⟩ = some (.slice a hs.length c) := Go.Joins.cell_of_block ((hg5.block w.heap.size (Nat.lt_trans (Nat.lt_succ_self _) hlv0) (by simp; omega)).trans kt4) 2
  have t1' : V5.cell? ⟨w.heap.size + 1, 2, none⟩ = some (.slice (some ⟨w.heap.size + 1 + 1, 0, none⟩) hs.length hs.length) := Go.Joins.cell_of_block ((hg5.block (w.heap.size + 1) hlv0 (by simp)).trans kb4) 2
  go_region_held3 (fun w' => w'.cell? ⟨w.heap.size, 2, none⟩ = some (.slice a hs.length c) ∧ w'.cell? ⟨w.heap.size + 1, 2, none⟩ = some (.slice (some ⟨w.heap.size + 1 + 1, 0, none⟩) hs.length hs.length)) (go_keep) (refine step_copy_run rfl _ _ 41 41 rfl _ _ (by simp [Act.eval]) (by simp [Act.eval]) (hcp _) ?_)
  have hlv : w.heap.size + 1 < V.heap.size := lt_of_block kb4
  have kb5 := (hg5.block (w.heap.size + 1) hlv (by simp)).trans kb4
  have kt5 := (hg5.block w.heap.size (Nat.lt_trans (Nat.lt_succ_self _) hlv) (by simp; omega)).trans kt4
  have hb5 : Below w.heap.size w V5 := grow_below' (hb4.trans ((bdraw (Below.refl _ _) 1 : Below w.heap.size V V.drew))) hg5 (fun k e => by cases e; omega)
  clear hcp hg5 t0 t1 t0' t1' hlv0 hown4 kb4 kt4 hb4 hlv
  have y0 : V5.cell? ⟨w.heap.size, 0, none⟩ = some (.int .i64 S) := Go.Joins.cell_of_block kt5 0
  have y1 : V5.cell? ⟨w.heap.size, 1, none⟩ = some (.int .i64 P) := Go.Joins.cell_of_block kt5 1
  have y2 : V5.cell? ⟨w.heap.size, 2, none⟩ = some (.slice a hs.length c) := Go.Joins.cell_of_block kt5 2
  have hT5 : TrAt V5 w.heap.size (w.heap.size + 1) S P (w.heap.size + 1 + 1) hs.length hs := ⟨⟨_, kb5⟩, hown5⟩
  have E : Hid (trainB S P hs = (inB S 1 60 && inB P 1 11 && decide (hs.length ≤ 200) && rtB S P hs)) := rfl
  cases hin : inB S 1 60
  · rw [hin] at hC1 E
    have hF : Hid (BookP w S P hs (.returned (.tuple #[.pointer (some ⟨w.heap.size + 1, 0, none⟩), .bool false])) V5) := hide (BookP.no E.out hT5 hb5)
    clear hC2 hT5 hb5 hown5 kb5 kt5
    go_wp2_with fail
    refine (hC1 _).mono ?_
    rintro e w6 ⟨rfl, rfl⟩
    go_wp2
    go_ret2
    exact hF.out
  rw [hin] at hC1 E
  cases hip : inB P 1 11
  · rw [hip] at hC2 E
    have hF : Hid (BookP w S P hs (.returned (.tuple #[.pointer (some ⟨w.heap.size + 1, 0, none⟩), .bool false])) V5) := hide (BookP.no E.out hT5 hb5)
    clear hT5 hb5 hown5 kb5 kt5
    go_wp2_with fail
    refine (hC1 _).mono ?_
    rintro e w6 ⟨rfl, rfl⟩
    go_wp2_with fail
    refine (hC2 _).mono ?_
    rintro e w6 ⟨rfl, rfl⟩
    go_wp2
    go_ret2
    exact hF.out
  rw [hip] at hC2 E
  by_cases hlen : hs.length ≤ 200
  rotate_left
  · have hF : Hid (BookP w S P hs (.returned (.tuple #[.pointer (some ⟨w.heap.size + 1, 0, none⟩), .bool false])) V5) := hide (BookP.no (by rw [E.out, decide_eq_false hlen]; rfl) hT5 hb5)
    have hlen' : (200 : Int) < (hs.length : Int) := by omega
    clear hT5 hb5 hown5 kb5 kt5
    go_wp2_with fail
    refine (hC1 _).mono ?_
    rintro e w6 ⟨rfl, rfl⟩
    go_wp2_with fail
    refine (hC2 _).mono ?_
    rintro e w6 ⟨rfl, rfl⟩
    go_wp2
    go_ret2
    exact hF.out
  rw [decide_eq_true hlen] at E
  simp only [Bool.true_and] at E
  have hlen' : ¬ (200 : Int) < (hs.length : Int) := by omega
  obtain ⟨s0, s1⟩ := inB_true hin
  obtain ⟨p0, p1⟩ := inB_true hip
  obtain ⟨N, rfl⟩ : ∃ N : Nat, S = N := ⟨S.toNat, by omega⟩
  clear hT5
  obtain ⟨j0, hj, hj0, hj1, hj2⟩ := info_parts infoPc
  go_wp2_with fail
  refine (hC1 _).mono ?_
  rintro e w6 ⟨rfl, rfl⟩
  go_wp2_with fail
  refine (hC2 _).mono ?_
  rintro e w6 ⟨rfl, rfl⟩
  go_wp2_with (at_make; refine wpList_make_full _ rfl _ _ 119 rfl w.heap.size 155 j0 _ 11 Tryz.underlying119 hj hj0 hj1 _ _ _ _ N rfl rfl rfl rfl (by rw [hj2]; omega) (by unfold maxLen; omega) hb5.size ?_; intro w7 hown7 hgrow7; have kb7 := (hgrow7.block (w.heap.size + 1) (lt_of_block kb5) (by simp)).trans kb5; have q7 : w7.cell? ⟨w.heap.size + 1, 3, none⟩ = some (.slice none 0 0) := Go.Joins.cell_of_block kb7 3; have f7 : w7.frozen? ⟨w.heap.size + 1, 3, none⟩ = false := Go.Joins.unfrozen_of_block kb7 3)
  have hsz : w6.heap.size ≠ w.heap.size + 1 := by have := lt_of_block kb5; omega
  have hb7 : Below w.heap.size w w7 := grow_below' hb5 hgrow7 (fun k e => by cases e)
  have hh5 := owns_lt hown5
  have H8 : Bk (w7.setCell ⟨w.heap.size + 1, 3, none⟩ (.slice (some ⟨w6.heap.size, 0, none⟩) N N)) w.heap.size (w.heap.size + 1) N P (w.heap.size + 1 + 1) hs.length hs w6.heap.size [] :=
    ⟨blk_set (i := 3) (v := .slice (some ⟨w6.heap.size, 0, none⟩) N N) kb7, own_setg (by omega) (own_far hown5 hgrow7 (fun k _ e => by cases e)), blk_other (made_grid hown7) hsz, by omega, hb5.size⟩
  have hb8 := below_set (o := 3) (v := .slice (some ⟨w6.heap.size, 0, none⟩) N N) (show w.heap.size ≤ w.heap.size + 1 by omega) hb7
  generalize w7.setCell ⟨w.heap.size + 1, 3, none⟩ (.slice (some ⟨w6.heap.size, 0, none⟩) N N) = V8 at *
  refine (cWrite w.heap.size (w.heap.size + 1) N P (w.heap.size + 1 + 1) hs.length hs w6.heap.size [] V8 H8 (by omega) (by omega) p1 hlen).mono ?_
  rintro e w9 ⟨rfl, hg9, es, H9, he9⟩
  have hF : Hid (BookP w N P hs (.returned (.tuple #[.pointer (some ⟨w.heap.size + 1, 0, none⟩), .bool (rtB N P hs)])) w9) :=
    hide ⟨_, _, by rw [E.out], H9.tr, grow_below' hb8 hg9 (fun k e => by cases e; exact H8.sB), fun ht => ⟨w6.heap.size, by rw [E.out] at ht; have := he9 ht; subst this; exact H9⟩⟩
  clear H9 hg9 he9 H8 hb8 hb7 hown7 hown5 hgrow7 kb7 kb5 kt5 hb5 q7 f7 y0 y1 y2
  generalize rtB N P hs = r at *
  go_wp2
  go_ret2
  exact hF.out
end Go.Proofs.YtjbecnflpfjicaaGreat.s14

/- Where an id is among bookings: comparing, the search, find. -/
namespace Go.Proofs.YtjbecnflpfjicaaGreat.s14
open Go.RowKit Go.Lib
def cmpI (x y : Int) : Int := if x < y then -1 else if y < x then 1 else 0
theorem cmpI_cases (x y : Int) : (x < y ∧ cmpI x y = -1) ∨ (x = y ∧ cmpI x y = 0) ∨ (y < x ∧ cmpI x y = 1) := by
  unfold cmpI; split
  · left; omega
  · split
    · right; right; omega
    · right; left; omega
set_option maxHeartbeats 400000 in
theorem cNaN (x : Int) (w : World) : Calls Tryz.prog 118 #[.int .i64 x] w fun e w' => e = .returned (.bool false) ∧ w' = w := by
  go_enter Tryz.func118, Tryz.ntmps118
  go_wp2
  go_ret
  exact ⟨by simp, rfl⟩

theorem cmpI_neg {x y : Int} : cmpI x y < 0 ↔ x < y := by rcases cmpI_cases x y with ⟨h, e⟩ | ⟨h, e⟩ | ⟨h, e⟩ <;> rw [e] <;> omega
theorem cmpI_zero {x y : Int} : (cmpI x y == 0) = decide (x = y) := by
  rcases cmpI_cases x y with ⟨h, e⟩ | ⟨h, e⟩ | ⟨h, e⟩ <;> rw [e]
  · rw [decide_eq_false (by omega)]; rfl
  · rw [decide_eq_true h]; rfl
  · rw [decide_eq_false (by omega)]; rfl

theorem pair_get {es : List BkV} (hs : es.Pairwise fun a b => a.i < b.i) {i j : Nat} (hij : i < j) (hj : j < es.length) : (es.getD i BkV.zero).i < (es.getD j BkV.zero).i := by
  have := List.pairwise_iff_getElem.1 hs i j (by omega) hj hij
  simpa [List.getD, hj, show i < es.length by omega] using this
/-- What the middle of the search tells. -/
def MidStep (es : List BkV) (t : Int) (lo hi m : Nat) (y : Int) : Prop :=
  (y < t → ∀ i, i < m + 1 → (es.getD i BkV.zero).i < t) ∧ (¬ y < t → ∀ i, m ≤ i → i < es.length → t ≤ (es.getD i BkV.zero).i) ∧ (∀ i, i < lo → (es.getD i BkV.zero).i < t) ∧ (∀ i, hi ≤ i → i < es.length → t ≤ (es.getD i BkV.zero).i)
theorem mid_step {es : List BkV} {t : Int} {lo hi m : Nat} (hs : es.Pairwise fun a b => a.i < b.i) (hm : m < es.length) (hA : ∀ i, i < lo → (es.getD i BkV.zero).i < t) (hZ : ∀ i, hi ≤ i → i < es.length → t ≤ (es.getD i BkV.zero).i) : MidStep es t lo hi m (es.getD m BkV.zero).i := by
  refine ⟨fun h i hi => ?_, fun h i hi hl => ?_, hA, hZ⟩
  · by_cases e : i = m
    · subst e; exact h
    · have := pair_get hs (show i < m by omega) hm; omega
  · by_cases e : i = m
    · subst e; omega
    · have := pair_get hs (show m < i by omega) hl; omega

end Go.Proofs.YtjbecnflpfjicaaGreat.s14

