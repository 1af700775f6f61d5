/- A drawn right trip. -/
import Derived.Test.YthlmaljgnhakfaaGreatDoorDT
namespace Go.Proofs.YthlmaljgnhakfaaGreatDoor
open Go.RowKit
/-- A trip that is put together while a cursor moves on: as OutT, but the cursor's own block may turn. -/
structure OutC (W0 wr : World) (cb : Nat) (s : ByteArray) (ao : Option Addr) (cp : Nat) (xs : List HaltV) : Prop where
  gr : W0.grownBy wr (some cb)
  out : wr.heap[W0.heap.size]? = some (.cells #[.string s, .slice ao xs.length cp] 26)
  own : wr.ownsRow (W0.heap.size + 1) 33 3 (.slice ao xs.length cp) xs.length (flatHalts xs)
theorem OutC.lt {W0 wr : World} {cb : Nat} {s : ByteArray} {ao : Option Addr} {cp : Nat} {xs : List HaltV} (h : OutC W0 wr cb s ao cp xs) : W0.heap.size < wr.heap.size := lt_of_block h.out
theorem OutC.keep {W0 wr w2 : World} {cb : Nat} {s : ByteArray} {ao : Option Addr} {cp : Nat} {xs : List HaltV} (h : OutC W0 wr cb s ao cp xs) (hb : Below wr.heap.size wr w2) : OutC W0 w2 cb s ao cp xs :=
  ⟨gtrans h.gr (gofr _ hb), blk_keep hb h.out, own_keep h.own hb⟩
theorem OutC.cur {W0 wr w2 : World} {cb : Nat} {s : ByteArray} {ao : Option Addr} {cp : Nat} {xs : List HaltV} (h : OutC W0 wr cb s ao cp xs) (hcb : cb < W0.heap.size) (hg : wr.grownBy w2 (some cb)) : OutC W0 w2 cb s ao cp xs :=
  ⟨gtrans h.gr hg, far_blk hg h.out (fun j hj => by simp at hj; omega), own_far h.own hg (fun k hk e => by have := own_from h.own (Nat.le_refl _) k hk; simp at e; omega)⟩
theorem OutC.push {W0 wr wx w2 : World} {cb : Nat} {s : ByteArray} {ao : Option Addr} {cp : Nat} {xs : List HaltV} (h : OutC W0 wr cb s ao cp xs) {g cap : Nat} {x : HaltV} (hx : Below wr.heap.size wr wx)
    (hown : w2.ownsRow (W0.heap.size + 1) 33 3 (.slice (some ⟨g, 0, none⟩) (xs.length + 1) cap) (xs.length + 1) (flatHalts xs ++ x.vs)) (hgrow : wx.grownBy w2 (Value.slice ao xs.length cp).ownBlock) :
    OutC W0 (w2.setCell ⟨W0.heap.size, 1, none⟩ (.slice (some ⟨g, 0, none⟩) (xs.length + 1) cap)) cb s (some ⟨g, 0, none⟩) cap (xs ++ [x]) := by
  have hge := own_from h.own (Nat.le_refl _)
  have g1 : W0.grownBy w2 (some cb) := grown_far (gtrans h.gr (gofr _ hx)) hgrow (fun k hk => by have := hge k hk; omega)
  have hout : w2.heap[W0.heap.size]? = some (.cells #[.string s, .slice ao xs.length cp] 26) := far_blk hgrow (blk_keep hx h.out) (fun j hj => by have := hge j hj; omega)
  have hlen : (xs ++ [x]).length = xs.length + 1 := by simp
  refine ⟨grown_far g1 (grown_set _ _ _ _) (fun k hk => by simp at hk; omega), ?_, ?_⟩
  · have := blk_set (i := 1) (v := .slice (some ⟨g, 0, none⟩) (xs.length + 1) cap) hout
    rw [hlen]; simpa using this
  · rw [hlen, flatHalts_app]
    have e : flatHalts [x] = x.vs := by simp [flatHalts]
    rw [e]; exact own_set hown (fun k hk => by have := own_from hown (Nat.le_refl _) k hk; omega)
theorem chain_snoc : ∀ (xs : List HaltV) (c : HaltV), chainB xs = true → (∀ p, xs.getLast? = some p → stepB p c = true) → chainB (xs ++ [c]) = true
  | [], _, _, _ => rfl
  | [p], c, _, h => by
    have := h p rfl
    simp [chainB, this]
  | p :: q :: r, c, h, g => by
    simp only [chainB, Bool.and_eq_true] at h
    have ih := chain_snoc (q :: r) c h.2 (fun x hx => g x (by simpa [List.getLast?_cons_cons] using hx))
    simp only [List.cons_append, chainB, Bool.and_eq_true] at ih ⊢
    exact ⟨h.1, ih⟩
/-- What stands of the calls drawn so far: the next one comes at node n from minute m on. -/
structure Good (xs : List HaltV) (n m : Int) : Prop where
  all : xs.all callB = true
  chain : chainB xs = true
  last : ∀ p, xs.getLast? = some p → p.d < m ∧ p.n ≠ n
  n0 : 0 ≤ n
  n1 : n ≤ 5
  m0 : 0 ≤ m
  m1 : m ≤ 120 + 20 * xs.length
  up : ∀ p ∈ xs, p.d ≤ 400
theorem Good.next {xs : List HaltV} {n m q r n2 : Int} (h : Good xs n m) (hl : xs.length ≤ 12) (q0 : 0 ≤ q) (q1 : q < 4) (r0 : 0 ≤ r) (r1 : r < 14) (n0 : 0 ≤ n2) (n1 : n2 ≤ 5) (hn : n2 ≠ n) : Good (xs ++ [⟨n, m, m + q⟩]) n2 (m + q + 2 + r) := by
  have hm := h.m1
  have a0 := h.m0
  have b0 := h.n0
  have b1 := h.n1
  refine ⟨?_, chain_snoc _ _ h.chain (fun p hp => ?_), fun p hp => ?_, n0, n1, by omega, by simp; omega, fun p hp => ?_⟩
  · rw [List.all_append, h.all]
    simp [callB, inB]; omega
  · obtain ⟨l1, l2⟩ := h.last p hp
    simp [stepB, l1, l2]
  · simp at hp; subst hp
    exact ⟨by dsimp only; omega, by dsimp only; omega⟩
  · rcases List.mem_append.1 hp with hp | hp
    · exact h.up p hp
    · simp at hp; subst hp; dsimp only; omega
theorem next_ne (n r : Int) (r0 : 0 ≤ r) (r1 : r < 5) : 0 ≤ (n + 1 + r) % 6 ∧ (n + 1 + r) % 6 ≤ 5 ∧ (n + 1 + r) % 6 ≠ n := by omega
end Go.Proofs.YthlmaljgnhakfaaGreatDoor
