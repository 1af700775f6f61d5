/- A booking entered into the pieces of its seat. -/
import Derived.Test.YtgnlcehpajbnoaaBK
import Derived.Deep.RegionHeld3
namespace Go.Proofs.Ytgnlcehpajbnoaa
open Go.RowKit Go.Lib
theorem blk_set {w : World} {g i : Nat} {cs : Array Value} {t : TypeId} {f : Nat × Nat} {v : Value} (h : w.heap[g]? = some (.cells cs t f)) : (w.setCell ⟨g, i, none⟩ v).heap[g]? = some (.cells (cs.setIfInBounds i v) t f) := by
  have hl := lt_of_block h
  have h' : w.heap[g] = .cells cs t f := by rw [Array.getElem?_eq_getElem hl] at h; exact Option.some.inj h
  simp [World.setCell, hl, Array.getElem_modify, h']
theorem blk_other {w : World} {g b i : Nat} {o : Obj} {v : Value} (h : w.heap[g]? = some o) (hne : g ≠ b) : (w.setCell ⟨b, i, none⟩ v).heap[g]? = some o := (Below.heap_setCell _ _ _ _ hne).trans h
theorem grid_ext {ds : List BkV} {N : Nat} {xs : List Value} (hl : xs.length = N * 11) (h : ∀ s q, s < N → q < 11 → xs[s * 11 + q]? = some (.bool (hF ds (s : Int) q))) : xs = gridL ds N := by
  apply List.ext_getElem?
  intro t
  by_cases ht : t < N * 11
  · have e : t = t / 11 * 11 + t % 11 := by omega
    rw [e, h _ _ (by omega) (by omega), gridL_get ds _ (by omega) _ _ (by omega)]
  · rw [List.getElem?_eq_none (by omega), List.getElem?_eq_none (by rw [gridL_len]; omega)]
theorem hF_app (ds : List BkV) (x : BkV) (s : Int) (q : Nat) : hF (ds ++ [x]) s q = (hF ds s q || decide (x.s = s ∧ x.n ≤ (q : Int) ∧ (q : Int) < x.f)) := by simp [hF, heldB]
theorem grid_set (ds : List BkV) (N s k : Nat) (i n : Int) (hs : s < N) (hk : k < 11) (hn : n ≤ k) : (gridL (ds ++ [⟨i, s, n, k⟩]) N).set (s * 11 + k) (.bool true) = gridL (ds ++ [⟨i, s, n, (k + 1 : Nat)⟩]) N := by
  apply grid_ext
  · rw [List.length_set, gridL_len]
  · intro s' q hs' hq
    rw [List.getElem?_set, gridL_len]
    by_cases e : s * 11 + k = s' * 11 + q
    · obtain rfl : s = s' := by omega
      obtain rfl : k = q := by omega
      rw [if_pos rfl, if_pos (by omega), hF_app]
      have : decide ((s : Int) = s ∧ n ≤ (k : Int) ∧ (k : Int) < ((k + 1 : Nat) : Int)) = true := decide_eq_true ⟨rfl, hn, by omega⟩
      rw [this, Bool.or_true]
    · rw [if_neg e, gridL_get _ _ hq _ _ hs', hF_app, hF_app]
      have : decide ((s : Int) = (s' : Int) ∧ n ≤ (q : Int) ∧ (q : Int) < (k : Int)) = decide ((s : Int) = (s' : Int) ∧ n ≤ (q : Int) ∧ (q : Int) < ((k + 1 : Nat) : Int)) := decide_eq_decide.2 ⟨fun h => ⟨h.1, h.2.1, by omega⟩, fun h => ⟨h.1, h.2.1, by omega⟩⟩
      rw [this]
theorem grid_none (ds : List BkV) (N : Nat) (i s n : Int) : gridL (ds ++ [⟨i, s, n, n⟩]) N = gridL ds N := by
  refine gridL_ext (fun s' p => ?_) N
  rw [heldB_app]
  have : heldB [⟨i, s, n, n⟩] s' p = false := heldB_no.2 fun b hb h => by simp at hb; subst hb; dsimp only at h; omega
  rw [this, Bool.or_false]
theorem Bk.ne {w : World} {B b : Nat} {N : Nat} {P : Int} {gh ch : Nat} {hs : List BkV} {gs : Nat} {ds : List BkV} (h : Bk w B b N P gh ch hs gs ds) : b ≠ gs := by
  rintro rfl
  have := h.blk.symm.trans h.seats
  simp at this
theorem Bk.neh {w : World} {B b : Nat} {N : Nat} {P : Int} {gh ch : Nat} {hs : List BkV} {gs : Nat} {ds : List BkV} (h : Bk w B b N P gh ch hs gs ds) : gh ≠ gs ∧ gh ≠ b := by
  rcases h.held.2 with ⟨h0, _⟩ | ⟨g, cap, cur, he, _, hh, _⟩
  · cases h0
  · simp only [Value.slice.injEq, Option.some.injEq, Addr.mk.injEq] at he
    obtain ⟨⟨rfl, _⟩, _⟩ := he
    constructor
    · rintro rfl
      have := hh.symm.trans h.seats
      simp at this
    · rintro rfl
      have := hh.symm.trans h.blk
      simp at this
/-- What a cell of a seat's pieces that is set leaves of a book. -/
theorem Bk.set {w : World} {B b : Nat} {N : Nat} {P : Int} {gh ch : Nat} {hs : List BkV} {gs : Nat} {ds es : List BkV} (h : Bk w B b N P gh ch hs gs ds) (t : Nat) (v : Value) (hg : (gridL ds N).set t v = gridL es N) : Bk (w.setCell ⟨gs, t, none⟩ v) B b N P gh ch hs gs es := by
  have hbg := h.ne
  have hhg := h.neh.1
  refine ⟨blk_other h.blk hbg, own_set h.held (fun k hk => by simp [Value.ownBlock] at hk; omega), ?_, h.bB, h.sB⟩
  have := blk_set (i := t) (v := v) h.seats
  rw [List.setIfInBounds_toArray, hg] at this
  exact this
def HoldP (w : World) (B b : Nat) (N : Nat) (P : Int) (gh ch : Nat) (hs : List BkV) (gs : Nat) (ds : List BkV) (e : Ending) (w' : World) : Prop := e = .returned (.tuple #[]) ∧ Bk w' B b N P gh ch hs gs ds ∧ w.grownBy w' (some gs)

set_option maxRecDepth 20000 in
set_option maxHeartbeats 3200000 in
theorem cHold (B b : Nat) (N : Nat) (P : Int) (gh ch : Nat) (hs : List BkV) (gs : Nat) (ds : List BkV) (xi : Int) (s on off : Nat) (w : World) (hB : Bk w B b N P gh ch hs gs ds) (hsN : s < N) (ho : on < off) (hf : off ≤ 11) :
    Calls Try.prog 80 #[.pointer (some ⟨b, 0, none⟩), .agg #[.int .i64 xi, .int .i64 s, .int .i64 on, .int .i64 off]] w (HoldP w B b N P gh ch hs gs (ds ++ [⟨xi, s, on, off⟩])) := by
  have hW := balloc w (.cells #[.int .i64 xi, .int .i64 s, .int .i64 on, .int .i64 off] 78)
  have HB := hB.below hW
  have hlt : (s : Int) < (N : Int) := by omega
  have hge : (0 : Int) ≤ (s : Int) := by omega
  have hbw := lt_of_block hB.blk
  have hgw := lt_of_block hB.seats
  have k0 : (w.alloc (.cells #[.int .i64 xi, .int .i64 s, .int .i64 on, .int .i64 off] 78)).heap[w.heap.size]? = some (.cells #[.int .i64 xi, .int .i64 s, .int .i64 on, .int .i64 off] 78 (0, 0)) := heap_alloc_new w _
  have hG0 : w.grownBy (w.alloc (.cells #[.int .i64 xi, .int .i64 s, .int .i64 on, .int .i64 off] 78)) (some gs) := gof hW
  have HB0 : Bk (w.alloc (.cells #[.int .i64 xi, .int .i64 s, .int .i64 on, .int .i64 off] 78)) B b N P gh ch hs gs (ds ++ [⟨xi, s, on, on⟩]) := ⟨HB.blk, HB.held, by rw [grid_none]; exact HB.seats, HB.bB, HB.sB⟩
  go_enter Try.func80, Try.ntmps80
  go_wp2
  generalize w.alloc (.cells #[.int .i64 xi, .int .i64 s, .int .i64 on, .int .i64 off] 78) = W at *
  go_loopw [4] (fun x wr => ∃ k : Nat, x = .int .i64 k ∧ on ≤ k ∧ k ≤ off ∧ wr.heap[w.heap.size]? = some (.cells #[.int .i64 xi, .int .i64 s, .int .i64 on, .int .i64 off] 78 (0, 0)) ∧ Bk wr B b N P gh ch hs gs (ds ++ [⟨xi, s, on, k⟩]) ∧ w.grownBy wr (some gs)) (fun x _ => off - (intOf x).toNat)
  case atStart => exact ⟨on, rfl, Nat.le_refl _, by omega, k0, HB0, hG0⟩
  case round =>
    obtain ⟨k, rfl, h3, h4, hk, HK, hG⟩ := hrel
    clear HB HB0 hG0 k0
    have x1 : wr.cell? ⟨w.heap.size, 1, none⟩ = some (.int .i64 s) := Go.Joins.cell_of_block hk 1
    have x3 : wr.cell? ⟨w.heap.size, 3, none⟩ = some (.int .i64 off) := Go.Joins.cell_of_block hk 3
    by_cases hlk : k < off
    · obtain ⟨c0, c1, c2, c3⟩ := HK.cells
      have hcc := HK.cell hsN (q := k) (by omega)
      have hfz : wr.frozen? ⟨gs, s * 11 + k, none⟩ = false := Go.Joins.unfrozen_of_block HK.seats _
      have HK2 := HK.set (s * 11 + k) (.bool true) (grid_set ds N s k xi on hsN (by omega) (by omega))
      have hG2 := gset hG (s * 11 + k) (.bool true)
      have hk2 : (wr.setCell ⟨gs, s * 11 + k, none⟩ (.bool true)).heap[w.heap.size]? = some (.cells #[.int .i64 xi, .int .i64 s, .int .i64 on, .int .i64 off] 78 (0, 0)) := blk_other hk (by omega)
      have hk11 : (k : Int) < 11 := by omega
      have hk11' : k < 11 := by omega
      generalize hF (ds ++ [⟨xi, s, on, k⟩]) s k = bb at *
      have hn1 : w.heap.size ≠ gs := by omega
      have hn2 : gs ≠ w.heap.size := by omega
      have hn3 : b ≠ gs := HK.ne
      have hn4 : gs ≠ b := HK.ne.symm
      clear HK hk c0 c1 c2 hB
      go_wp2_with fail
      go_region_held3 (fun w' => w'.cell? ⟨w.heap.size, 1, none⟩ = some (.int .i64 s) ∧ w'.cell? ⟨b, 3, none⟩ = some (.slice (some ⟨gs, 0, none⟩) N N)) (go_keep) (fail)
      go_wp2
      go_roundw
      case rel => exact ⟨k + 1, by go_num, by omega, by omega, hk2, HK2.below (bdraw (Below.refl _ _) 1), gtrans hG2 (gof (bdraw (Below.refl _ _) 1))⟩
      case measure => simp [intOf]; omega
    · obtain rfl : k = off := by omega
      have hfin : HoldP w B b N P gh ch hs gs (ds ++ [⟨xi, s, on, k⟩]) (.returned (.tuple #[])) wr := ⟨rfl, HK, hG⟩
      clear HK hB
      go_wp2
      go_end0
      exact hfin
end Go.Proofs.Ytgnlcehpajbnoaa
