/- Drawn sidings and shunts. -/
import Derived.Test.YtipechbhhpagiaaDD
import Derived.Deep.RegionHeld3
namespace Go.Proofs.Ytipechbhhpagiaa
open Go.RowKit
theorem ownsb {w : World} {B e sz n : Nat} {v : Value} {xs : List Value} (h : w.ownsRow B e sz v n xs) {B' : Nat} (hB : B' ≤ B) : w.ownsRow B' e sz v n xs := by
  refine ⟨h.1, ?_⟩
  rcases h.2 with h2 | ⟨g, cap', cur, rfl, hg, hr⟩
  · exact .inl h2
  · exact .inr ⟨g, cap', cur, rfl, Nat.le_trans hB hg, hr⟩
def DrawnY (w : World) (e : Ending) (w' : World) : Prop :=
  ∃ rm rws rv v vs l lv, e = .returned (.tuple #[.agg #[rv, v], lv]) ∧ SidP rm rws ∧ rws.length ≤ 4 ∧ l.length ≤ 17 ∧ SidO w.heap.size w' rv v vs rm rws ∧ w'.ownsRow w.heap.size 37 3 lv l.length (flatShs l) ∧ Below w.heap.size w w'
set_option maxRecDepth 20000 in
set_option maxHeartbeats 12800000 in
theorem cDrawY (cap : Nat) (a : Option Addr) (bs : List Int) (w : World) (hz : Bytes w a bs) (hl : bs.length ≤ 1048576) :
    Calls Try.prog 13 #[.slice a bs.length cap] w (DrawnY w) := by
  have b1 := balloc w (.cells #[.slice none 0 0, .slice none 0 0] 27)
  have k1 := heap_alloc_new w (.cells #[.slice none 0 0, .slice none 0 0] 27)
  have z1 := sz1 w (.cells #[.slice none 0 0, .slice none 0 0] 27)
  go_enter Try.func13, Try.ntmps13
  go_wp2_with fail
  generalize w.alloc (.cells #[.slice none 0 0, .slice none 0 0] 27) = W0 at *
  refine (cnew a cap bs _ (hz.below b1) hl).mono ?_
  rintro e w1 ⟨cb, rfl, hcb, C0, b0⟩
  have KR1 := blk_keep b0 k1
  have HB1 := btrans b1 b0
  have hcl := C0.lt (.inl rfl)
  go_wp2_with fail
  refine (cDrawR cb cap a bs _ C0 hl).mono ?_
  rintro e w2 ⟨rm, rws, rv, v, vs, rfl, hP, hn4, S2, C2, G2⟩
  have KR2 := far_blk G2 KR1 (fun j hj => by injection hj; omega)
  have HB2 : Below w.heap.size w w2 := HB1.grown G2 HB1.size (fun k hk => by cases hk; omega)
  obtain ⟨ra, rc, ta, tc, rfl, rfl, -⟩ := S2.arg
  have b3 := balloc w2 (.cells #[.slice ra rm.length rc, .slice ta rws.length tc] 27)
  have KQ3 := heap_alloc_new w2 (.cells #[.slice ra rm.length rc, .slice ta rws.length tc] 27)
  have KR3 := blk_keep b3 KR2
  have S3 := S2.below b3
  have C3 := C2.below b3
  have HB3 := btrans HB2 b3
  have hQ : w1.heap.size ≤ w2.heap.size := G2.size
  have z3 := sz1 w2 (.cells #[.slice ra rm.length rc, .slice ta rws.length tc] 27)
  clear b1 k1 b0 C0 KR1 HB1 S2 C2 G2 KR2 HB2 b3 hz
  go_upto_region 3 with fail
  generalize w2.alloc (.cells #[.slice ra rm.length rc, .slice ta rws.length tc] 27) = W3 at *
  have bd : Below W3.heap.size W3 W3.drew := bdraw (Below.refl _ _) 1
  have KQd := blk_keep bd KQ3
  have KRd := blk_keep bd KR3
  have Sd := S3.below bd
  have Cd := C3.below bd
  have HBd := btrans HB3 bd
  have zd : W3.drew.heap.size = w2.heap.size + 1 := z3
  clear bd KQ3 KR3 S3 C3 HB3 z3
  have CS := fun w hC => cDrawShs cb cap a bs (rws.length : Int) w hC hl (by have := hP.n1; omega) (by omega)
  obtain ⟨⟨y0, y1⟩, -⟩ := blk2 KQd
  refine wp_region_held_drew (S := (fun w' => w'.cell? ⟨w2.heap.size, 0, none⟩ = some (.slice ra rm.length rc) ∧ w'.cell? ⟨w2.heap.size, 1, none⟩ = some (.slice ta rws.length tc))) (by kernel_rfl) ?_ (fun hHeld => ?_)
  · exact ⟨y0, y1⟩
  generalize W3.drew = wd at *
  refine wpAnyH_take (i := 0) (v := .agg #[.slice ra rm.length rc, .slice ta rws.length tc]) rfl (by kernel_rfl) (by kernel_rfl) (by kernel_rfl) (fun _ _ _ h => h) (Or.inl ⟨by kernel_rfl, fun w hS => by (obtain ⟨hS0, hS1⟩ := hS; go_simp)⟩) hHeld ?_
  change wpAnyH _ _ _ _ _ _ _ { tmps := List.toArray (_ :: _ :: _ :: _ :: _ :: _ :: _ :: _ :: _ :: _ :: .agg #[.slice ra rm.length rc, .slice ta rws.length tc] :: _ :: _ :: _ :: _ :: _ :: _ :: []), defers := [] } _
  refine wpAnyH_take (i := 1) (v := .pointer (some ⟨cb, 0, none⟩)) rfl (by kernel_rfl) (by kernel_rfl) (by kernel_rfl) (fun _ _ _ h => h) (Or.inl ⟨by kernel_rfl, fun w hS => by go_simp⟩) hHeld ?_
  change wpAnyH _ _ _ _ _ _ _ { tmps := List.toArray (_ :: _ :: _ :: _ :: _ :: _ :: _ :: _ :: _ :: _ :: .agg #[.slice ra rm.length rc, .slice ta rws.length tc] :: .pointer (some ⟨cb, 0, none⟩) :: _ :: _ :: _ :: _ :: _ :: []), defers := [] } _
  refine wpAnyH_take (i := 2) (v := .slice a bs.length cap) rfl (by kernel_rfl) (by kernel_rfl) (by kernel_rfl) (fun _ _ _ h => h) (Or.inl ⟨by kernel_rfl, fun w hS => by go_simp⟩) hHeld ?_
  change wpAnyH _ _ _ _ _ _ _ { tmps := List.toArray (_ :: _ :: _ :: _ :: _ :: _ :: _ :: _ :: _ :: _ :: .agg #[.slice ra rm.length rc, .slice ta rws.length tc] :: .pointer (some ⟨cb, 0, none⟩) :: .slice a bs.length cap :: _ :: _ :: _ :: _ :: []), defers := [] } _
  refine wpAnyH_take (i := 3) (v := .pointer (some ⟨w2.heap.size, 1, none⟩)) rfl (by kernel_rfl) (by kernel_rfl) (by kernel_rfl) (fun _ _ _ h => h) (Or.inl ⟨by kernel_rfl, fun w hS => by go_simp⟩) hHeld ?_
  change wpAnyH _ _ _ _ _ _ _ { tmps := List.toArray (_ :: _ :: _ :: _ :: _ :: _ :: _ :: _ :: _ :: _ :: .agg #[.slice ra rm.length rc, .slice ta rws.length tc] :: .pointer (some ⟨cb, 0, none⟩) :: .slice a bs.length cap :: .pointer (some ⟨w2.heap.size, 1, none⟩) :: _ :: _ :: _ :: []), defers := [] } _
  refine wpAnyH_take (i := 4) (v := .slice ta rws.length tc) rfl (by kernel_rfl) (by kernel_rfl) (by kernel_rfl) (fun _ _ _ h => h) (Or.inl ⟨by kernel_rfl, fun w hS => by (obtain ⟨hS0, hS1⟩ := hS; go_simp)⟩) hHeld ?_
  change wpAnyH _ _ _ _ _ _ _ { tmps := List.toArray (_ :: _ :: _ :: _ :: _ :: _ :: _ :: _ :: _ :: _ :: .agg #[.slice ra rm.length rc, .slice ta rws.length tc] :: .pointer (some ⟨cb, 0, none⟩) :: .slice a bs.length cap :: .pointer (some ⟨w2.heap.size, 1, none⟩) :: .slice ta rws.length tc :: _ :: _ :: []), defers := [] } _
  refine wpAnyH_take (i := 5) (v := .int .i64 rws.length) rfl (by kernel_rfl) (by kernel_rfl) (by kernel_rfl) (fun _ _ _ h => h) (Or.inl ⟨by kernel_rfl, fun w hS => by go_simp⟩) hHeld ?_
  change wpAnyH _ _ _ _ _ _ _ { tmps := List.toArray (_ :: _ :: _ :: _ :: _ :: _ :: _ :: _ :: _ :: _ :: .agg #[.slice ra rm.length rc, .slice ta rws.length tc] :: .pointer (some ⟨cb, 0, none⟩) :: .slice a bs.length cap :: .pointer (some ⟨w2.heap.size, 1, none⟩) :: .slice ta rws.length tc :: .int .i64 rws.length :: _ :: []), defers := [] } _
  refine wpAnyH_ready (rs := [6]) (by kernel_rfl) (by simp) ?_
  refine (AllReadyH.cons rfl (fun KK hK => ?_) AllReadyH.nil)
  go_simp
  refine (CS _ Cd).mono ?_
  rintro e w4 ⟨l, lv, rfl, hll, O4, C4, G4⟩
  obtain ⟨la, lc, rfl⟩ := own_form O4
  have S4 := Sd.keep (fun k hk => G4.block k (Sd.blk k hk).2 (fun e => by have := (Sd.blk k hk).1; injection e; omega))
  have KQ4 := far_blk G4 KQd (fun j hj => by injection hj; omega)
  have KR4 := far_blk G4 KRd (fun j hj => by injection hj; omega)
  have HB4 : Below w.heap.size w w4 := HBd.grown G4 HBd.size (fun k hk => by cases hk; omega)
  obtain ⟨⟨s0, s1⟩, -⟩ := blk2 KQ4
  obtain ⟨⟨r0, r1⟩, f0, f1⟩ := blk2 KR4
  go_wp2_with fail
  clear hHeld
  refine hK.out _ _ (⟨s0, s1⟩) (fun hHeld => ?_)
  clear hK KK
  change wpAnyH _ _ _ _ _ _ _ { tmps := List.toArray (_ :: _ :: _ :: _ :: _ :: _ :: _ :: _ :: _ :: _ :: .agg #[.slice ra rm.length rc, .slice ta rws.length tc] :: .pointer (some ⟨cb, 0, none⟩) :: .slice a bs.length cap :: .pointer (some ⟨w2.heap.size, 1, none⟩) :: .slice ta rws.length tc :: .int .i64 rws.length :: .slice la l.length lc :: []), defers := [] } _
  refine wpAnyH_ready (rs := [7]) (by kernel_rfl) (by simp) ?_
  refine (AllReadyH.cons rfl (fun KK hK => ?_) AllReadyH.nil)
  have KV := box_set (p := .slice ra rm.length rc) (q := .slice ta rws.length tc) KR4
  have SV := S4.box (p := .slice ra rm.length rc) (q := .slice ta rws.length tc) KR4
  have OV : ((w4.setCell ⟨w.heap.size, 0, none⟩ (.slice ra rm.length rc)).setCell ⟨w.heap.size, 1, none⟩ (.slice ta rws.length tc)).ownsRow wd.heap.size 37 3 (.slice la l.length lc) l.length (flatShs l) := own_set (own_set O4 (fun k hk => by have := own_from O4 (Nat.le_refl _) k hk; omega)) (fun k hk => by have := own_from O4 (Nat.le_refl _) k hk; omega)
  have HBV : Below w.heap.size w ((w4.setCell ⟨w.heap.size, 0, none⟩ (.slice ra rm.length rc)).setCell ⟨w.heap.size, 1, none⟩ (.slice ta rws.length tc)) := below_set (by omega) (below_set (by omega) HB4)
  have KQV : ((w4.setCell ⟨w.heap.size, 0, none⟩ (.slice ra rm.length rc)).setCell ⟨w.heap.size, 1, none⟩ (.slice ta rws.length tc)).heap[w2.heap.size]? = _ := (heap_setCell (by omega)).trans ((heap_setCell (by omega)).trans KQ4)
  obtain ⟨⟨t0, t1⟩, -⟩ := blk2 KQV
  obtain ⟨⟨v0, v1⟩, -⟩ := blk2 KV
  go_simp
  clear hHeld
  refine hK.out _ _ (⟨t0, t1⟩) (fun hHeld => ?_)
  clear hK KK
  change wpAnyH _ _ _ _ _ _ _ { tmps := List.toArray (_ :: _ :: _ :: _ :: _ :: _ :: _ :: _ :: _ :: _ :: .agg #[.slice ra rm.length rc, .slice ta rws.length tc] :: .pointer (some ⟨cb, 0, none⟩) :: .slice a bs.length cap :: .pointer (some ⟨w2.heap.size, 1, none⟩) :: .slice ta rws.length tc :: .int .i64 rws.length :: .slice la l.length lc :: []), defers := [] } _
  refine wpAnyH_take (i := 8) (v := .slice la l.length lc) rfl (by kernel_rfl) (by kernel_rfl) (by kernel_rfl) (fun _ _ _ h => h) (Or.inl ⟨by kernel_rfl, fun w hS => by go_simp⟩) hHeld ?_
  change wpAnyH _ _ _ _ _ _ _ { tmps := List.toArray (_ :: _ :: _ :: .slice la l.length lc :: _ :: _ :: _ :: _ :: _ :: _ :: .agg #[.slice ra rm.length rc, .slice ta rws.length tc] :: .pointer (some ⟨cb, 0, none⟩) :: .slice a bs.length cap :: .pointer (some ⟨w2.heap.size, 1, none⟩) :: .slice ta rws.length tc :: .int .i64 rws.length :: .slice la l.length lc :: []), defers := [] } _
  refine wpAnyH_done (by kernel_rfl) ?_ _
  clear CS S4 O4 KV KR4 KQ4 KQV HB4 r0 r1 f0 f1 s0 s1 t0 t1 C4 G4
  generalize ((w4.setCell ⟨w.heap.size, 0, none⟩ (.slice ra rm.length rc)).setCell ⟨w.heap.size, 1, none⟩ (.slice ta rws.length tc)) = V9 at *
  go_wp2
  refine bodyPost_ret (v := .tuple #[.agg #[.slice ra rm.length rc, .slice ta rws.length tc], .slice la l.length lc]) (by simp [results, Try.results13, v0, v1, go_sem]) rfl ?_
  exact ⟨rm, rws, _, _, vs, l, _, rfl, hP, hn4, hll, SV.base (by omega), ownsb OV (by omega), HBV⟩
end Go.Proofs.Ytipechbhhpagiaa
