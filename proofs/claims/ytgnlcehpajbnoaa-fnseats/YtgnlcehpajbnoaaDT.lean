/- A drawn right train, and sales for it: the door. -/
import Derived.Test.YtgnlcehpajbnoaaDS
import Derived.Deep.RegionHeld3
namespace Go.Proofs.Ytgnlcehpajbnoaa
open Go.RowKit
/-- A right train and sales that are drawn. -/
def DrawnT (w : World) (e : Ending) (w' : World) : Prop :=
  ∃ (S P : Int) (hs : List BkV) (v : Value) (l : List SaV) (v2 : Value), e = .returned (.tuple #[.agg #[.int .i64 S, .int .i64 P, v], v2]) ∧ Tr S P hs ∧ l.length ≤ 22 ∧ w'.ownsRow w.heap.size 78 4 v hs.length (flatBks hs) ∧ w'.ownsRow w.heap.size 35 4 v2 l.length (flatSas l) ∧ Below w.heap.size w w'

set_option maxRecDepth 20000 in
set_option maxHeartbeats 6400000 in
theorem cDrawT (cap : Nat) (a : Option Addr) (bs : List Int) (w : World) (hz : Bytes w a bs) (hl : bs.length ≤ 1048576) :
    Calls Try.prog 13 #[.slice a bs.length cap] w (DrawnT w) := by
  have A1 := balloc w (.cells #[.int .i64 0, .int .i64 0, .slice none 0 0] 26)
  have R0 := heap_alloc_new w (.cells #[.int .i64 0, .int .i64 0, .slice none 0 0] 26)
  go_enter Try.func13, Try.ntmps13
  go_wp2_with fail
  refine (cnew a cap bs _ (hz.below A1) hl).mono ?_
  rintro e w1 ⟨cb, rfl, hcb, C, hb⟩
  have hB := btrans A1 hb
  replace R0 := blk_keep hb R0
  have hrl := lt_of_block R0
  rw [sz1] at hcb
  have hcl := C.lt (.inl rfl)
  clear A1 hb hz
  go_wp2_with fail
  refine (cDrawR cb cap a bs _ C hl).mono ?_
  rintro e w2 ⟨S, P, hs, v, rfl, hT, O, C2, G2⟩
  obtain ⟨ha, hcp, rfl⟩ := own_form O
  replace R0 := far_blk G2 R0 (fun j hj => by simp at hj; omega)
  have hs2 := G2.size
  have hO := own_from O (Nat.le_refl _)
  replace hB := hB.grown G2 hB.size (fun k hk => by simp at hk; omega)
  have A2 := balloc w2 (.cells #[.int .i64 S, .int .i64 P, .slice ha hs.length hcp] 26)
  have T0 := heap_alloc_new w2 (.cells #[.int .i64 S, .int .i64 P, .slice ha hs.length hcp] 26)
  replace O := own_keep O A2
  replace C2 := C2.below A2
  replace R0 := blk_keep A2 R0
  replace hB := btrans hB A2
  obtain ⟨S1, S2, P1, P2, hlen, -⟩ := id hT
  clear C G2 A2
  go_wp2_with fail
  generalize w2.alloc (.cells #[.int .i64 S, .int .i64 P, .slice ha hs.length hcp] 26) = w3 at *
  generalize w2.heap.size = tb at *
  have htr : tb ≠ w.heap.size := by omega
  have htr' : w.heap.size ≠ tb := by omega
  have hcr : cb ≠ w.heap.size := by omega
  have Cd := C2.below (Below.refl w3.heap.size w3).drew
  have CD : ∀ (n : Int) (w' : World), Cur w' cb a cap bs → 1 ≤ n → n ≤ 1000 → Calls Try.prog 46 #[.pointer (some ⟨cb, 0, none⟩), .int .i64 n, .int .i64 P] w' (fun e w2 => ∃ (l : List SaV) (va : Option Addr) (vc : Nat), e = .returned (.slice va l.length vc) ∧ (l.length : Int) < n ∧ w2.ownsRow w'.heap.size 35 4 (.slice va l.length vc) l.length (flatSas l) ∧ Cur w2 cb a cap bs ∧ w'.grownBy w2 (some cb)) := by
    intro n w' h h1 h2
    refine (cDrawS cb cap a bs n P w' h hl h1 h2 (by omega) (by omega)).mono ?_
    rintro e w2 ⟨l, v, rfl, hll, o, c, g⟩
    obtain ⟨va, vc, rfl⟩ := own_form o
    exact ⟨l, va, vc, rfl, hll, o, c, g⟩
  obtain ⟨⟨t0, t1, t2⟩, -⟩ := blk3 T0
  obtain ⟨⟨r0, r1, r2⟩, f0, f1, f2⟩ := blk3 R0
  have htl := lt_of_block T0
  go_region_held3 (fun w' => w'.cell? ⟨tb, 0, none⟩ = some (.int .i64 S) ∧ w'.cell? ⟨tb, 1, none⟩ = some (.int .i64 P) ∧ w'.cell? ⟨tb, 2, none⟩ = some (.slice ha hs.length hcp)) (go_keep) (first
    | (go_at_call 46; have vw : IntKind.i64.wrap (2 + sz) = 2 + sz := wrap_in _ (by omega) (by omega); with_reducible refine (CD (IntKind.i64.wrap (2 + sz)) _ Cd (by rw [vw]; omega) (by rw [vw]; omega)).mono ?_; rintro e w5 ⟨l, sa, sc, rfl, hll, O5, C5, G5⟩; replace G5 := undrewG G5; have T5 := far_blk G5 T0 (fun j hj => by simp at hj; omega); have R5 := far_blk G5 R0 (fun j hj => by simp at hj; omega); obtain ⟨⟨v0, v1, v2⟩, -⟩ := blk3 T5; obtain ⟨⟨u0, u1, u2⟩, g0, g1, g2⟩ := blk3 R5)
    | (go_at_call 47; with_reducible refine (csize a bs.length cap 20 _ hl (by omega) (by omega)).mono ?_; rintro e w4 ⟨sz, rfl, s1, s2, hw⟩; subst w4))
  have hll2 : l.length ≤ 22 := by rw [vw] at hll; omega
  have hs5 := G5.size
  have O6 := own_far O G5 (fun k hk e => by have := hO k hk; simp at e; omega)
  have B6 := hB.grown G5 hB.size (fun k hk => by simp at hk; omega)
  have nO : ∀ k, (Value.slice ha hs.length hcp).ownBlock = some k → k ≠ w.heap.size := fun k hk => by have := hO k hk; omega
  have nS : ∀ k, (Value.slice sa l.length sc).ownBlock = some k → k ≠ w.heap.size := fun k hk => by have := own_from O5 (Nat.le_refl _) k hk; (try simp at this); omega
  clear CD Cd C2 v0 v1 v2 t0 t1 t2 r0 r1 r2 f0 f1 f2 T5
  go_wp2
  refine bodyPost_ret (v := .tuple #[.agg #[.int .i64 S, .int .i64 P, .slice ha hs.length hcp], .slice sa l.length sc]) (by simp [results, Try.results13, go_sem, u0, u1, u2]) rfl ?_
  refine ⟨_, _, hs, _, l, _, rfl, hT, hll2, ?_, ?_, ?_⟩
  · repeat' (refine own_set ?_ nO)
    exact own_base O6 (by omega)
  · repeat' (refine own_set ?_ nS)
    exact own_base O5 (by first | omega | (simp; omega))
  · repeat' (refine below_set (Nat.le_refl _) ?_)
    exact B6
end Go.Proofs.Ytgnlcehpajbnoaa
