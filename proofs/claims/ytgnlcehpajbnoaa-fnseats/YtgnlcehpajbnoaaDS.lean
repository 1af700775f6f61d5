/- A drawn right train, and sales for it. -/
import Derived.Test.YtgnlcehpajbnoaaDR
import Derived.Test.YtgnlcehpajbnoaaTL
import Derived.Deep.RegionHeld3
namespace Go.Proofs.Ytgnlcehpajbnoaa
open Go.RowKit
theorem tr_play {S P : Int} (s1 : 1 ≤ S) (s2 : S ≤ 60) (p1 : 1 ≤ P) (p2 : P ≤ 11) (l : List SaV) : Tr S P (playA S P [] l).1 := by
  have h : Tr S P [] := ⟨s1, s2, p1, p2, by simp, Rt.nil _ _⟩
  unfold playA
  split
  · exact playV_tr h l
  · exact h
theorem own_base {w : World} {base base' e sz n : Nat} {v : Value} {xs : List Value} (h : w.ownsRow base e sz v n xs) (hb : base' ≤ base) : w.ownsRow base' e sz v n xs := Go.Joins.ownsRow_le h hb
theorem Cur.set {w : World} {cb cap B b i : Nat} {a : Option Addr} {zs : List Int} {u : Value} (h : Cur w cb a cap zs) (hB : ∀ k, OnCur cb a zs k → k < B) (hb : B ≤ b) : Cur (w.setCell ⟨b, i, none⟩ u) cb a cap zs :=
  h.grow hB (grown_set w b i u) (fun k hk => by simp at hk; omega)
theorem grown_setf {w w1 : World} {b i cb : Nat} {u : Value} (h : w.grownBy w1 (some cb)) (hb : w.heap.size ≤ b) : w.grownBy (w1.setCell ⟨b, i, none⟩ u) (some cb) :=
  grown_far h (grown_set w1 b i u) (fun k hk => by simp at hk; omega)
/-- A right train that is drawn. -/
def DrawnR (w : World) (cb : Nat) (a : Option Addr) (cap : Nat) (bs : List Int) (e : Ending) (w' : World) : Prop :=
  ∃ (S P : Int) (hs : List BkV) (v : Value), e = .returned (.agg #[.int .i64 S, .int .i64 P, v]) ∧ Tr S P hs ∧ w'.ownsRow w.heap.size 78 4 v hs.length (flatBks hs) ∧ Cur w' cb a cap bs ∧ w.grownBy w' (some cb)

set_option maxRecDepth 20000 in
set_option maxHeartbeats 6400000 in
theorem cDrawR (cb cap : Nat) (a : Option Addr) (bs : List Int) (w : World) (hc : Cur w cb a cap bs) (hl : bs.length ≤ 1048576) :
    Calls Try.prog 45 #[.pointer (some ⟨cb, 0, none⟩), .slice a bs.length cap] w (DrawnR w cb a cap bs) := by
  have hcl := hc.lt (.inl rfl)
  have hOn : ∀ k, OnCur cb a bs k → k < w.heap.size := fun k hk => hc.lt hk
  have A1 := balloc w (.cells #[.int .i64 0, .int .i64 0, .slice none 0 0] 26)
  have R0 := heap_alloc_new w (.cells #[.int .i64 0, .int .i64 0, .slice none 0 0] 26)
  have C1 := hc.below A1
  go_enter Try.func45, Try.ntmps45
  go_wp2_with fail
  refine (cbelow cb cap a bs 4 _ C1 hl (by omega) (by omega)).mono ?_
  rintro e w1 ⟨x, rfl, x0, x1, C2, G2⟩
  replace R0 := far_blk G2 R0 (fun j hj => by simp at hj; omega)
  have hG := gtrans (gofr (some cb) A1) G2
  clear C1 G2 A1
  go_wp2_with fail
  refine (cbelow cb cap a bs 6 _ C2 hl (by omega) (by omega)).mono ?_
  rintro e w2 ⟨y, rfl, y0, y1, C3, G2⟩
  replace R0 := far_blk G2 R0 (fun j hj => by simp at hj; omega)
  replace hG := gtrans hG G2
  have hrl := lt_of_block R0
  have A2 := balloc w2 (.cells #[.int .i64 (1 + x), .int .i64 (1 + y), .slice none 0 0] 26)
  have T0 := heap_alloc_new w2 (.cells #[.int .i64 (1 + x), .int .i64 (1 + y), .slice none 0 0] 26)
  replace C3 := C3.below A2
  replace R0 := blk_keep A2 R0
  replace hG := gtrans hG (gofr _ A2)
  clear C2 G2 A2 hc
  go_wp2_with fail
  generalize (w2.alloc (.cells #[.int .i64 (1 + x), .int .i64 (1 + y), .slice none 0 0] 26)) = w3 at *
  generalize w2.heap.size = tb at *
  have ntb : w.heap.size ≠ tb := by omega
  have ntb' : tb ≠ w.heap.size := by omega
  have Cd := C3.below (Below.refl w3.heap.size w3).drew
  have CP : ∀ (sa : Option Addr) (sc : Nat) (l : List SaV) (w' : World), Sas w' sa l → l.length ≤ 1048576 → Calls Try.prog 40 #[.agg #[.int .i64 (1 + x), .int .i64 (1 + y), .slice none 0 0], .slice sa l.length sc] w' (fun e w2 => ∃ (hs : List BkV) (va : Option Addr) (vc : Nat) (v2 : Value), e = .returned (.tuple #[.agg #[.int .i64 (1 + x), .int .i64 (1 + y), .slice va hs.length vc], v2]) ∧ Tr (1 + x) (1 + y) hs ∧ w2.ownsRow w'.heap.size 78 4 (.slice va hs.length vc) hs.length (flatBks hs) ∧ Below w'.heap.size w' w2) := by
    intro sa sc l w' h h2
    refine (cPlayS (1 + x) (1 + y) none 0 [] sa sc l w' (.inl rfl) (by simp) h h2).mono ?_
    rintro e w2 ⟨v, v2, rfl, o, -, hb⟩
    obtain ⟨va, vc, rfl⟩ := own_form o
    exact ⟨_, va, vc, v2, rfl, tr_play (by omega) (by omega) (by omega) (by omega) l, o, hb⟩
  have CD : ∀ (n : Int) (w' : World), Cur w' cb a cap bs → 1 ≤ n → n ≤ 1000 → Calls Try.prog 46 #[.pointer (some ⟨cb, 0, none⟩), .int .i64 n, .int .i64 (1 + y)] w' (fun e w2 => ∃ (l : List SaV) (v : Value), e = .returned v ∧ (l.length : Int) < n ∧ w2.ownsRow w'.heap.size 35 4 v l.length (flatSas l) ∧ Cur w2 cb a cap bs ∧ w'.grownBy w2 (some cb)) := fun n w' h h1 h2 => cDrawS cb cap a bs n (1 + y) w' h hl h1 h2 (by omega) (by omega)
  obtain ⟨⟨t0, t1, t2⟩, -⟩ := blk3 T0
  have htl := lt_of_block T0
  have hZ3 : Below w3.heap.size w3 (w3.alloc (.cells #[.int .i64 0, .int .i64 0, .slice none 0 0] 26)).drew := (balloc w3 (.cells #[.int .i64 0, .int .i64 0, .slice none 0 0] 26)).drew
  have CA := C3.below hZ3
  have hdr : Below w3.heap.size w3 w3.drew := (Below.refl w3.heap.size w3).drew
  have hA3 : w3.grownBy (w3.alloc (.cells #[.int .i64 0, .int .i64 0, .slice none 0 0] 26)).drew (some cb) := gofr (some cb) hZ3
  have ZA : (w3.alloc (.cells #[.int .i64 0, .int .i64 0, .slice none 0 0] 26)).drew.heap[w3.heap.size]? = some (.cells #[.int .i64 0, .int .i64 0, .slice none 0 0] 26) := heap_alloc_new w3 (.cells #[.int .i64 0, .int .i64 0, .slice none 0 0] 26)
  have h3t : tb ≠ w3.heap.size := by omega
  have h3u : w3.heap.size ≠ tb := by omega
  have hcb3 : cb < w3.heap.size := C3.lt (.inl rfl)
  go_region_held3 (fun w' => w'.cell? ⟨tb, 0, none⟩ = some (.int .i64 (1 + x)) ∧ w'.cell? ⟨tb, 1, none⟩ = some (.int .i64 (1 + y)) ∧ w'.cell? ⟨tb, 2, none⟩ = some (.slice none 0 0)) (go_keep) (first
    | (go_at_call 40; with_reducible refine (CP _ _ _ _ HS HSl).mono ?_; rintro e w6 ⟨hs, ha, hcp, vq, rfl, hTr, o6, hb6⟩; have ZB6 := blk_keep hb6 ZB5; have hlt6 := lt_of_block (blk_keep hb6 T5); obtain ⟨⟨v0, v1, v2⟩, -⟩ := blk3 (blk_keep hb6 T5); obtain ⟨⟨z0, z1, z2⟩, y3, y4, y5⟩ := blk3 ZB6; have zlt := lt_of_block ZB6)
    | (go_at_call 40; with_reducible refine (CP _ _ _ _ (HS.below (balloc w5 (.cells #[.int .i64 0, .int .i64 0, .slice none 0 0] 26))) HSl).mono ?_; rintro e w6 ⟨hs, ha, hcp, vq, rfl, hTr, o6, hb6⟩; have ZB6 := blk_keep hb6 (heap_alloc_new w5 (.cells #[.int .i64 0, .int .i64 0, .slice none 0 0] 26)); replace hb6 := btrans (balloc w5 (.cells #[.int .i64 0, .int .i64 0, .slice none 0 0] 26)) hb6; have hlt6 := lt_of_block (blk_keep hb6 T5); obtain ⟨⟨v0, v1, v2⟩, -⟩ := blk3 (blk_keep hb6 T5); obtain ⟨⟨z0, z1, z2⟩, y3, y4, y5⟩ := blk3 ZB6; have zlt := lt_of_block ZB6)
    | (go_at_call 40; with_reducible refine (CP _ _ _ _ HS HSl).mono ?_; rintro e w6 ⟨hs, ha, hcp, vq, rfl, hTr, o6, hb6⟩; have hlt6 := lt_of_block (blk_keep hb6 T5); obtain ⟨⟨v0, v1, v2⟩, -⟩ := blk3 (blk_keep hb6 T5))
    | (go_at_call 46; have vw : IntKind.i64.wrap (2 + sz) = 2 + sz := wrap_in _ (by omega) (by omega); with_reducible refine (CD (IntKind.i64.wrap (2 + sz)) _ Cd (by rw [vw]; omega) (by rw [vw]; omega)).mono ?_; rintro e w5 ⟨l, vl, rfl, hll, O5, C5, G5⟩; replace G5 := undrewG G5; obtain ⟨sa, sc, rfl⟩ := own_form O5; have HS := Sas.own O5; have HSl : l.length ≤ 1048576 := (by rw [vw] at hll; omega); have T5 := far_blk G5 T0 (fun j hj => by simp at hj; omega); have h5l := lt_of_block T5; have h5t : tb ≠ w5.heap.size := (by omega); have h5u : w5.heap.size ≠ tb := (by omega); obtain ⟨⟨v0, v1, v2⟩, -⟩ := blk3 T5)
    | (go_at_call 46; have vw : IntKind.i64.wrap (2 + sz) = 2 + sz := wrap_in _ (by omega) (by omega); with_reducible refine (CD (IntKind.i64.wrap (2 + sz)) _ CA (by rw [vw]; omega) (by rw [vw]; omega)).mono ?_; rintro e w5 ⟨l, vl, rfl, hll, O5, C5, G5⟩; have ZB5 := far_blk G5 ZA (fun j hj => by simp at hj; omega); replace G5 := gtrans hA3 G5; obtain ⟨sa, sc, rfl⟩ := own_form O5; have HS := Sas.own O5; have HSl : l.length ≤ 1048576 := (by rw [vw] at hll; omega); have T5 := far_blk G5 T0 (fun j hj => by simp at hj; omega); have zlt5 := lt_of_block ZB5; have h5l := lt_of_block T5; have h5t : tb ≠ w5.heap.size := (by omega); have h5u : w5.heap.size ≠ tb := (by omega); obtain ⟨⟨v0, v1, v2⟩, -⟩ := blk3 T5)
    | (go_at_call 47; with_reducible refine (csize a bs.length cap 16 _ hl (by omega) (by omega)).mono ?_; rintro e w4 ⟨sz, rfl, s1, s2, hw⟩; subst w4))
  · have hs5 := G5.size
    have hs6 := hb6.size
    have h03 := hG.size
    have R6 := blk_keep hb6 (far_blk G5 R0 (fun j hj => by simp at hj; omega))
    have C6 := C5.below hb6
    have G6 := gtrans (gtrans hG G5) (gofr _ hb6)
    have hO6 := own_from o6 (Nat.le_refl _)
    obtain ⟨⟨r0, r1, r2⟩, f0, f1, f2⟩ := blk3 R6
    have rlt := lt_of_block R6
    have nR : ∀ k, (Value.slice ha hs.length hcp).ownBlock = some k → k ≠ w.heap.size := fun k hk => by have := hO6 k hk; (try simp at this); omega
    have nR2 : w.heap.size ≠ w6.heap.size := by omega
    have hbx := balloc w6 (.cells #[.int .i64 (1 + x), .int .i64 (1 + y), .slice ha hs.length hcp] 26)
    have o7 := own_keep o6 hbx
    have C7 := C6.below hbx
    have G7 := gtrans G6 (gofr _ hbx)
    replace R6 := blk_keep hbx R6
    have X7 := heap_alloc_new w6 (.cells #[.int .i64 (1 + x), .int .i64 (1 + y), .slice ha hs.length hcp] 26)
    clear r0 r1 r2 f0 f1 f2 hbx
    obtain ⟨⟨r0, r1, r2⟩, f0, f1, f2⟩ := blk3 R6
    obtain ⟨⟨z0, z1, z2⟩, -⟩ := blk3 X7
    generalize w6.alloc (.cells #[.int .i64 (1 + x), .int .i64 (1 + y), .slice ha hs.length hcp] 26) = w7 at *
    clear v0 v1 v2 t0 t1 t2 CP CD CA Cd C3 O5 HS T5
    go_wp2
    refine bodyPost_ret (v := .agg #[.int .i64 (1 + x), .int .i64 (1 + y), .slice ha hs.length hcp]) (by simp [results, Try.results45, go_sem, r0, r1, r2]) rfl ?_
    refine ⟨_, _, hs, _, rfl, hTr, ?_, ?_, ?_⟩
    · repeat' (refine own_set ?_ nR)
      exact own_base o7 (by first | omega | (simp; omega))
    · repeat' (refine Cur.set ?_ hOn (Nat.le_refl _))
      exact C7
    · repeat' (refine grown_setf ?_ (Nat.le_refl _))
      exact G7
  · have hs5 := G5.size
    have hs6 := hb6.size
    have h03 := hG.size
    have R6 := blk_keep hb6 (far_blk G5 R0 (fun j hj => by simp at hj; omega))
    have C6 := C5.below hb6
    have G6 := gtrans (gtrans hG G5) (gofr _ hb6)
    have hO6 := own_from o6 (Nat.le_refl _)
    obtain ⟨⟨r0, r1, r2⟩, f0, f1, f2⟩ := blk3 R6
    have rlt := lt_of_block R6
    have nR : ∀ k, (Value.slice ha hs.length hcp).ownBlock = some k → k ≠ w.heap.size := fun k hk => by have := hO6 k hk; (try simp at this); omega
    have nR2 : w.heap.size ≠ w6.heap.size := by omega
    have nA : ∀ k, (Value.slice ha hs.length hcp).ownBlock = some k → k ≠ w5.heap.size := fun k hk => by have := hO6 k hk; (try simp at this); omega
    have q1 : w.heap.size ≠ w5.heap.size := by omega
    have q2 : w5.heap.size ≠ w.heap.size := by omega
    have q3 : w.heap.size ≤ w5.heap.size := by omega
    have q4 : w.heap.size < w5.heap.size := by omega
    clear v0 v1 v2 t0 t1 t2 CP CD CA Cd C3 O5 HS T5
    go_wp2
    refine bodyPost_ret (v := .agg #[.int .i64 (1 + x), .int .i64 (1 + y), .slice ha hs.length hcp]) (by simp [results, Try.results45, go_sem, r0, r1, r2]) rfl ?_
    refine ⟨_, _, hs, _, rfl, hTr, ?_, ?_, ?_⟩
    · repeat' (first | refine own_set ?_ nR | refine own_set ?_ nA)
      exact own_base o6 (by first | omega | (simp; omega))
    · repeat' (first | refine Cur.set ?_ hOn (Nat.le_refl _) | refine Cur.set ?_ hOn q3)
      exact C6
    · repeat' (first | refine grown_setf ?_ (Nat.le_refl _) | refine grown_setf ?_ q3)
      exact G6
  · have hs5 := G5.size
    have hs6 := hb6.size
    have h03 := hG.size
    have R6 := blk_keep hb6 (far_blk G5 R0 (fun j hj => by simp at hj; omega))
    have C6 := C5.below hb6
    have G6 := gtrans (gtrans hG G5) (gofr _ hb6)
    have hO6 := own_from o6 (Nat.le_refl _)
    obtain ⟨⟨r0, r1, r2⟩, f0, f1, f2⟩ := blk3 R6
    have rlt := lt_of_block R6
    have nR : ∀ k, (Value.slice ha hs.length hcp).ownBlock = some k → k ≠ w.heap.size := fun k hk => by have := hO6 k hk; (try simp at this); omega
    have nR2 : w.heap.size ≠ w6.heap.size := by omega
    have nA : ∀ k, (Value.slice ha hs.length hcp).ownBlock = some k → k ≠ w3.heap.size := fun k hk => by have := hO6 k hk; (try simp at this); omega
    have q1 : w.heap.size ≠ w3.heap.size := by omega
    have q2 : w3.heap.size ≠ w.heap.size := by omega
    have q3 : w.heap.size ≤ w3.heap.size := by omega
    have q4 : w.heap.size < w3.heap.size := by omega
    clear v0 v1 v2 t0 t1 t2 CP CD CA Cd C3 O5 HS T5
    go_wp2
    refine bodyPost_ret (v := .agg #[.int .i64 (1 + x), .int .i64 (1 + y), .slice ha hs.length hcp]) (by simp [results, Try.results45, go_sem, r0, r1, r2]) rfl ?_
    refine ⟨_, _, hs, _, rfl, hTr, ?_, ?_, ?_⟩
    · repeat' (first | refine own_set ?_ nR | refine own_set ?_ nA)
      exact own_base o6 (by first | omega | (simp; omega))
    · repeat' (first | refine Cur.set ?_ hOn (Nat.le_refl _) | refine Cur.set ?_ hOn q3)
      exact C6
    · repeat' (first | refine grown_setf ?_ (Nat.le_refl _) | refine grown_setf ?_ q3)
      exact G6
  · have hs5 := G5.size
    have hs6 := hb6.size
    have h03 := hG.size
    have R6 := blk_keep hb6 (far_blk G5 R0 (fun j hj => by simp at hj; omega))
    have C6 := C5.below hb6
    have G6 := gtrans (gtrans hG G5) (gofr _ hb6)
    have hO6 := own_from o6 (Nat.le_refl _)
    obtain ⟨⟨r0, r1, r2⟩, f0, f1, f2⟩ := blk3 R6
    have rlt := lt_of_block R6
    have nR : ∀ k, (Value.slice ha hs.length hcp).ownBlock = some k → k ≠ w.heap.size := fun k hk => by have := hO6 k hk; (try simp at this); omega
    have nR2 : w.heap.size ≠ w6.heap.size := by omega
    have nA : ∀ k, (Value.slice ha hs.length hcp).ownBlock = some k → k ≠ w3.heap.size := fun k hk => by have := hO6 k hk; (try simp at this); omega
    have q1 : w.heap.size ≠ w3.heap.size := by omega
    have q2 : w3.heap.size ≠ w.heap.size := by omega
    have q3 : w.heap.size ≤ w3.heap.size := by omega
    have q4 : w.heap.size < w3.heap.size := by omega
    clear v0 v1 v2 t0 t1 t2 CP CD CA Cd C3 O5 HS T5
    go_wp2
    refine bodyPost_ret (v := .agg #[.int .i64 (1 + x), .int .i64 (1 + y), .slice ha hs.length hcp]) (by simp [results, Try.results45, go_sem, r0, r1, r2]) rfl ?_
    refine ⟨_, _, hs, _, rfl, hTr, ?_, ?_, ?_⟩
    · repeat' (first | refine own_set ?_ nR | refine own_set ?_ nA)
      exact own_base o6 (by first | omega | (simp; omega))
    · repeat' (first | refine Cur.set ?_ hOn (Nat.le_refl _) | refine Cur.set ?_ hOn q3)
      exact C6
    · repeat' (first | refine grown_setf ?_ (Nat.le_refl _) | refine grown_setf ?_ q3)
      exact G6
end Go.Proofs.Ytgnlcehpajbnoaa
