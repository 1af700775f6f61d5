/- A book in memory: the train in it and the pieces of its seats; whether a ride is so, whether a booking is right. -/
import Derived.Test.YtgnlcehpajbnoaaPD
import Derived.Test.YtgnlcehpajbnoaaB
import Derived.Deep.RegionHeld3
namespace Go.Proofs.Ytgnlcehpajbnoaa
open Go.RowKit Go.Lib
/-- The pieces of each of S seats. -/
def gridL (ds : List BkV) (S : Nat) : List Value := (List.range S).flatMap fun (s : Nat) => pcL (hF ds (s : Int))
theorem gridL_succ (ds : List BkV) (S : Nat) : gridL ds (S + 1) = gridL ds S ++ pcL (hF ds (S : Int)) := by simp [gridL, List.range_succ]
theorem gridL_len (ds : List BkV) : ∀ S, (gridL ds S).length = S * 11
  | 0 => rfl
  | S + 1 => by rw [gridL_succ, List.length_append, gridL_len ds S, pcL_len]; omega
theorem gridL_get (ds : List BkV) (q : Nat) (hq : q < 11) : ∀ S s, s < S → (gridL ds S)[s * 11 + q]? = some (.bool (hF ds (s : Int) q))
  | 0, s, h => by omega
  | S + 1, s, h => by
    rw [gridL_succ]
    by_cases e : s = S
    · subst e
      rw [List.getElem?_append_right (by rw [gridL_len]; omega), gridL_len, show s * 11 + q - s * 11 = q by omega, pcL_get _ _ hq]
    · rw [List.getElem?_append_left (by rw [gridL_len]; omega), gridL_get ds q hq S s (by omega)]
theorem gridL_one (ds : List BkV) (S : Nat) : ∀ u ∈ gridL ds S, u.oneCell' = true := by
  intro u hu
  simp only [gridL, List.mem_flatMap] at hu
  obtain ⟨s, _, hs⟩ := hu
  exact pcL_one _ u hs
theorem gridL_ext {xs ys : List BkV} (h : ∀ s p, heldB xs s p = heldB ys s p) (S : Nat) : gridL xs S = gridL ys S := by
  have : ∀ s : Int, hF xs s = hF ys s := fun s => by funext q; exact h s q
  simp only [gridL, this]
/-- A book: block b holds a train (its bookings a row of the call's own) and the pieces of its seats as the bookings ds have them. -/
structure Bk (w : World) (B b : Nat) (N : Nat) (P : Int) (gh ch : Nat) (hs : List BkV) (gs : Nat) (ds : List BkV) : Prop where
  blk : w.heap[b]? = some (.cells #[.int .i64 N, .int .i64 P, .slice (some ⟨gh, 0, none⟩) hs.length ch, .slice (some ⟨gs, 0, none⟩) N N] 72 (0, 0))
  held : w.ownsRow B 78 4 (.slice (some ⟨gh, 0, none⟩) hs.length ch) hs.length (flatBks hs)
  seats : w.heap[gs]? = some (.cells (gridL ds N).toArray 101 (0, 0))
  bB : B ≤ b
  sB : B ≤ gs
theorem blk_keep {w w1 : World} (h : Below w.heap.size w w1) {g : Nat} {o : Obj} (hg : w.heap[g]? = some o) : w1.heap[g]? = some o := (h.block g (lt_of_block hg)).trans hg
theorem Bk.below {w w1 : World} {B b : Nat} {N : Nat} {P : Int} {gh ch : Nat} {hs : List BkV} {gs : Nat} {ds : List BkV} (h : Bk w B b N P gh ch hs gs ds) (hb : Below w.heap.size w w1) : Bk w1 B b N P gh ch hs gs ds :=
  ⟨blk_keep hb h.blk, own_keep h.held hb, blk_keep hb h.seats, h.bB, h.sB⟩
theorem Bk.cells {w : World} {B b : Nat} {N : Nat} {P : Int} {gh ch : Nat} {hs : List BkV} {gs : Nat} {ds : List BkV} (h : Bk w B b N P gh ch hs gs ds) :
    w.cell? ⟨b, 0, none⟩ = some (.int .i64 N) ∧ w.cell? ⟨b, 1, none⟩ = some (.int .i64 P) ∧ w.cell? ⟨b, 2, none⟩ = some (.slice (some ⟨gh, 0, none⟩) hs.length ch) ∧ w.cell? ⟨b, 3, none⟩ = some (.slice (some ⟨gs, 0, none⟩) N N) :=
  ⟨Go.Joins.cell_of_block h.blk 0, Go.Joins.cell_of_block h.blk 1, Go.Joins.cell_of_block h.blk 2, Go.Joins.cell_of_block h.blk 3⟩
theorem Bk.free {w : World} {B b : Nat} {N : Nat} {P : Int} {gh ch : Nat} {hs : List BkV} {gs : Nat} {ds : List BkV} (h : Bk w B b N P gh ch hs gs ds) :
    w.frozen? ⟨b, 0, none⟩ = false ∧ w.frozen? ⟨b, 1, none⟩ = false ∧ w.frozen? ⟨b, 2, none⟩ = false ∧ w.frozen? ⟨b, 3, none⟩ = false :=
  ⟨Go.Joins.unfrozen_of_block h.blk 0, Go.Joins.unfrozen_of_block h.blk 1, Go.Joins.unfrozen_of_block h.blk 2, Go.Joins.unfrozen_of_block h.blk 3⟩
theorem Bk.bks {w : World} {B b : Nat} {N : Nat} {P : Int} {gh ch : Nat} {hs : List BkV} {gs : Nat} {ds : List BkV} (h : Bk w B b N P gh ch hs gs ds) : Bks w (some ⟨gh, 0, none⟩) hs := Bks.of_owns h.held
theorem Bk.cell {w : World} {B b : Nat} {N : Nat} {P : Int} {gh ch : Nat} {hs : List BkV} {gs : Nat} {ds : List BkV} (h : Bk w B b N P gh ch hs gs ds) {s : Nat} (hs' : s < N) {q : Nat} (hq : q < 11) : w.cell? ⟨gs, s * 11 + q, none⟩ = some (.bool (hF ds (s : Int) q)) := by
  have := h.seats
  simp only [World.cell?, this]
  show (gridL ds N).toArray[s * 11 + q]? = _
  rw [List.getElem?_toArray, gridL_get ds q hq _ _ hs']
theorem Bk.row {w : World} {B b : Nat} {N : Nat} {P : Int} {gh ch : Nat} {hs : List BkV} {gs : Nat} {ds : List BkV} (h : Bk w B b N P gh ch hs gs ds) {s : Nat} (hs' : s < N) : w.rangeAt gs (s * 11) (pcL (hF ds (s : Int))) := by
  intro j v hv
  have hj : j < 11 := by have := (List.getElem?_eq_some_iff.1 hv).1; rwa [pcL_len] at this
  rw [pcL_get _ _ hj] at hv
  rw [h.cell hs' hj]; exact hv
theorem range_below {w w1 : World} {b o : Nat} {cs : List Value} (h : w.rangeAt b o cs) (hb : Below w.heap.size w w1) : w1.rangeAt b o cs := fun j v hv => ble hb (h j v hv)

set_option maxHeartbeats 400000 in
theorem cRide (B b : Nat) (N : Nat) (P : Int) (gh ch : Nat) (hs : List BkV) (gs : Nat) (ds : List BkV) (on off : Int) (w : World) (hB : Bk w B b N P gh ch hs gs ds) :
    Calls Try.prog 55 #[.pointer (some ⟨b, 0, none⟩), .int .i64 on, .int .i64 off] w fun e w' => e = .returned (.bool (askB P on off)) ∧ w' = w := by
  obtain ⟨c0, c1, c2, c3⟩ := hB.cells
  have E : Hid (askB P on off = decide (0 ≤ on ∧ on < off ∧ off ≤ P)) := rfl
  clear hB c0 c2 c3
  by_cases h1 : 0 ≤ on
  · by_cases h2 : on < off
    · by_cases h3 : off ≤ P
      · go_enter Try.func55, Try.ntmps55
        go_wp2
        go_ret
        exact ⟨ret_bool (by rw [E.out]; symm; simp; omega), rfl⟩
      · go_enter Try.func55, Try.ntmps55
        go_wp2
        go_ret
        exact ⟨ret_bool (by rw [E.out]; symm; simp; omega), rfl⟩
    · go_enter Try.func55, Try.ntmps55
      go_wp2
      go_ret
      exact ⟨ret_bool (by rw [E.out]; symm; simp; omega), rfl⟩
  · go_enter Try.func55, Try.ntmps55
    go_wp2
    go_ret
    exact ⟨ret_bool (by rw [E.out]; symm; simp; omega), rfl⟩

/-- A booking that may be entered, but for its id. -/
def fitB (S P : Int) (ds : List BkV) (x : BkV) : Bool := inB x.s 0 (S - 1) && askB P x.n x.f && freeB ds x.s x.n x.f
theorem next_fit {S P : Int} {ds : List BkV} {x : BkV} (h0 : 0 ≤ lastI ds) : nextB S P ds x = (decide (lastI ds < x.i) && fitB S P ds x) := by
  rw [Bool.eq_iff_iff]
  simp only [nextB, fitB, bkB, askB, inB, Bool.and_eq_true, decide_eq_true_eq]
  constructor
  · rintro ⟨⟨⟨h1, h2, h3, h4, h5, h6⟩, h7⟩, h8⟩; exact ⟨h7, ⟨⟨h2, h3⟩, h4, h5, h6⟩, h8⟩
  · rintro ⟨h7, ⟨⟨h2, h3⟩, h4, h5, h6⟩, h8⟩; exact ⟨⟨⟨by omega, h2, h3, h4, h5, h6⟩, h7⟩, h8⟩

set_option maxRecDepth 20000 in
set_option maxHeartbeats 3200000 in
theorem cFit (B b : Nat) (N : Nat) (P : Int) (gh ch : Nat) (hs : List BkV) (gs : Nat) (ds : List BkV) (x : BkV) (w : World) (hB : Bk w B b N P gh ch hs gs ds) (h2 : N ≤ 60) (h3 : P ≤ 11) :
    Calls Try.prog 89 #[.pointer (some ⟨b, 0, none⟩), x.val] w fun e w' => e = .returned (.bool (fitB N P ds x)) ∧ Below w.heap.size w w' := by
  have hW := balloc w (.cells x.vs.toArray 78)
  have E : Hid (fitB N P ds x = (inB x.s 0 ((N : Int) - 1) && askB P x.n x.f && freeB ds x.s x.n x.f)) := rfl
  have HB := hB.below hW
  have C1 := fun V => cWithin x.s 0 ((N : Int) - 1) V
  have hw1 : IntKind.i64.wrap ((N : Int) - 1) = (N : Int) - 1 := wrap_in _ (by omega) (by omega)
  obtain ⟨xi, xs, xn, xf⟩ := x
  unfold BkV.val BkV.vs at *
  dsimp only at *
  obtain ⟨c0, c1, c2, c3⟩ := HB.cells
  cases hin : inB xs 0 ((N : Int) - 1)
  · rw [hin] at C1 E
    clear c0 c1 c2 hB HB
    go_enter Try.func89, Try.ntmps89
    go_wp2_with fail
    go_quiet (first | (go_at_call 74; with_reducible refine Calls.quiet_of_same (C1 _)))
    go_wp2
    go_ret
    exact ⟨ret_bool (by rw [E.out]; rfl), bdraw hW _⟩
  rw [hin] at C1 E
  have C2 := fun V (h : Below w.heap.size w V) => cRide B b N P gh ch hs gs ds xn xf V (hB.below h)
  cases hask : askB P xn xf
  · rw [hask] at C2 E
    clear c0 c1 c2 hB HB
    go_enter Try.func89, Try.ntmps89
    go_wp2_with fail
    go_quiet (first | (go_at_call 74; with_reducible refine Calls.quiet_of_same (C1 _)) | (go_at_call 55; with_reducible refine Calls.quiet_of_same (C2 _ (bdraw hW _))))
    go_wp2
    go_ret
    exact ⟨ret_bool (by rw [E.out]; rfl), bdraw hW _⟩
  rw [hask] at C2 E
  obtain ⟨s0, s1⟩ := inB_true hin
  obtain ⟨a0, a1, a2⟩ := askB_iff.1 hask
  obtain ⟨s, rfl⟩ : ∃ s : Nat, xs = s := ⟨xs.toNat, by omega⟩
  obtain ⟨on, rfl⟩ : ∃ n : Nat, xn = n := ⟨xn.toNat, by omega⟩
  obtain ⟨off, rfl⟩ : ∃ n : Nat, xf = n := ⟨xf.toNat, by omega⟩
  have hsS : s < N := by omega
  have C3 : ∀ V, Calls Try.prog 76 #[.agg (pcL (hF ds (s : Int))).toArray, .int .i64 on, .int .i64 off] V fun e w' => e = .returned (.bool (freeB ds s on off)) ∧ Below V.heap.size V w' := fun V => by
    rw [← frB_held (by omega)]; exact cFree (hF ds (s : Int)) on off (by omega) (by omega) V
  have hu11 := under11
  have hs11 : (Try.prog.info? 101).map (·.size) = some (pcL (hF ds (s : Int))).length := by rw [pcL_len]; exact size11
  have hlt : (s : Int) < (N : Int) := by omega
  have hge : (0 : Int) ≤ (s : Int) := by omega
  have r0 := HB.row hsS
  have hgs := lt_of_block HB.seats
  obtain ⟨x0, x1, x2, x3⟩ : (w.alloc (.cells #[.int .i64 xi, .int .i64 s, .int .i64 on, .int .i64 off] 78)).cell? ⟨w.heap.size, 0, none⟩ = some (.int .i64 xi) ∧ (w.alloc (.cells #[.int .i64 xi, .int .i64 s, .int .i64 on, .int .i64 off] 78)).cell? ⟨w.heap.size, 1, none⟩ = some (.int .i64 s) ∧ (w.alloc (.cells #[.int .i64 xi, .int .i64 s, .int .i64 on, .int .i64 off] 78)).cell? ⟨w.heap.size, 2, none⟩ = some (.int .i64 on) ∧ (w.alloc (.cells #[.int .i64 xi, .int .i64 s, .int .i64 on, .int .i64 off] 78)).cell? ⟨w.heap.size, 3, none⟩ = some (.int .i64 off) := ⟨by simp, by simp, by simp, by simp⟩
  clear c0 c2 HB hin hask
  generalize hWW : w.alloc (.cells #[.int .i64 xi, .int .i64 s, .int .i64 on, .int .i64 off] 78) = W at *
  generalize hF ds (s : Int) = f at *
  have hbs : b < W.heap.size := cell_lt c1
  go_enter Try.func89, Try.ntmps89
  go_wp2_with fail
  clear hWW
  go_region_held3 (fun w' => w'.cell? ⟨w.heap.size, 0, none⟩ = some (.int .i64 xi) ∧ w'.cell? ⟨w.heap.size, 1, none⟩ = some (.int .i64 s) ∧ w'.cell? ⟨w.heap.size, 2, none⟩ = some (.int .i64 on) ∧ w'.cell? ⟨w.heap.size, 3, none⟩ = some (.int .i64 off) ∧ w'.cell? ⟨b, 1, none⟩ = some (.int .i64 P) ∧ w'.cell? ⟨b, 3, none⟩ = some (.slice (some ⟨gs, 0, none⟩) N N) ∧ w'.rangeAt gs (s * 11) (pcL f)) (go_keep) (first
    | (go_at_call 76; with_reducible refine (C3 _).mono ?_; rintro e w1 ⟨rfl, hb1⟩; replace hb1 := undrew hb1; have v0 := ble hb1 x0; have v1 := ble hb1 x1; have v2 := ble hb1 x2; have v3 := ble hb1 x3; have v4 := ble hb1 c1; have v5 := ble hb1 c3; have v9 := range_below r0 hb1)
    | (go_at_call 55; with_reducible refine (C2 _ hW.drew).mono ?_; rintro e w2 ⟨rfl, rfl⟩)
    | (go_at_call 74; with_reducible refine (C1 _).mono ?_; rintro e w3 ⟨rfl, rfl⟩))
  go_wp2
  go_ret
  exact ⟨ret_bool (by rw [E.out]; rfl), btrans hW hb1⟩
end Go.Proofs.Ytgnlcehpajbnoaa
