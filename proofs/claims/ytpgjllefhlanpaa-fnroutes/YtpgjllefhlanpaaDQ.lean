/- A right plant with ops for it, drawn from a code. -/
import Derived.Test.YtpgjllefhlanpaaDO
import Derived.Test.YtpgjllefhlanpaaML
import Derived.Deep.RegionHeld3
namespace Go.Proofs.Ytpgjllefhlanpaa
open Go.RowKit
theorem bgrow {B : Nat} {w w1 w2 : World} {r : Option Nat} (h : Below B w w1) (g : w1.grownBy w2 r) (hB : B ≤ w1.heap.size) (hr : ∀ k, r = some k → B ≤ k) : Below B w w2 :=
  ⟨g.os.trans h.os, g.tape.trans h.tape, g.output.trans h.output, Nat.le_trans h.size g.size, fun k hk => (g.block k (by omega) (fun e => by have := hr k e.symm; omega)).trans (h.block k hk)⟩
theorem Pt.free {w0 wr : World} {cb pb : Nat} {B : Int} {vu vr : Value} {us : List Int} {vs : List (Value × Value)} {rs : List RouteV} (h : Pt w0 wr cb pb B vu us vr vs rs) : Pt { wr with heap := #[] } wr cb pb B vu us vr vs rs :=
  ⟨h.out, h.own, h.row, h.len, h.each, h.usB, h.ok, ⟨rfl, rfl, rfl, by simp, fun k hk => by simp at hk⟩⟩
/-- What is drawn: a right plant with a few routes, a few ops. -/
def DrawnQ (w : World) (e : Ending) (w' : World) : Prop :=
  ∃ (p : PlantV) (os : List OpV) (au ar ao : Option Addr) (cu cr co : Nat), e = .returned (.tuple #[plantVal au cu ar cr p, .slice ao os.length co]) ∧ plantOk p = true ∧ PlantIn w' au ar p ∧ Small p ∧ 1 ≤ p.routes.length ∧ p.routes.length ≤ 5 ∧ p.blocks ≤ 7 ∧ p.under.length ≤ 4 ∧
    Ops w' ao os ∧ os.length ≤ 26 ∧ (∀ o ∈ os, opIn o) ∧ Below w.heap.size w w'
theorem Pt.ok' {w0 wr : World} {cb pb : Nat} {B : Int} {vu vr : Value} {us : List Int} {vs : List (Value × Value)} {rs : List RouteV} (h : Pt w0 wr cb pb B vu us vr vs rs) (h2 : 2 ≤ B) (h7 : B ≤ 7) (hu : us.length ≤ 4) (hr : rs.length ≤ 5) : plantOk ⟨us, B, rs⟩ = true := by
  simp only [plantOk, Bool.and_eq_true, decide_eq_true_eq, List.all_eq_true]
  exact ⟨⟨⟨⟨inB_yes (by omega) (by omega), by omega⟩, by omega⟩, fun x hx => inB_yes (h.usB x hx).1 (by have := (h.usB x hx).2; omega)⟩, h.ok⟩
theorem small_of {p : PlantV} (h : plantOk p = true) : Small p := by
  have hR := right_of h
  refine ⟨by have := hR.u16; omega, by have := hR.r12; omega, fun r hr => ?_⟩
  have := hR.rts r hr
  simp only [routeOk, Bool.and_eq_true] at this
  have h1 := needsGo_len this.1 (Int.le_refl _) (by omega)
  have h2 := path_len this.2 hR.b24
  have := hR.u16
  exact ⟨by omega, by omega⟩
theorem Pt.inn {w0 wr : World} {cb pb cu cr : Nat} {B : Int} {au ar : Option Addr} {us : List Int} {vs : List (Value × Value)} {rs : List RouteV} (h : Pt w0 wr cb pb B (.slice au us.length cu) us (.slice ar rs.length cr) vs rs) : PlantIn wr au ar ⟨us, B, rs⟩ :=
  ⟨Ints.own h.own rfl, h.routes⟩

set_option maxRecDepth 20000 in
set_option maxHeartbeats 6400000 in
theorem cDrawQ (cap : Nat) (a : Option Addr) (bs : List Int) (w : World) (hz : Bytes w a bs) (hl : bs.length ≤ 1048576) :
    Calls Try.prog 6 #[.slice a bs.length cap] w (DrawnQ w) := by
  have hW := balloc w (.cells #[.slice none 0 0, .int .i64 0, .slice none 0 0] 27)
  have R0 := one_block w (.cells #[.slice none 0 0, .int .i64 0, .slice none 0 0] 27)
  go_enter Try.func6, Try.ntmps6
  go_wp2_with fail
  refine (cnew a cap bs _ (hz.below hW) hl).mono ?_
  rintro e w1 ⟨cb, rfl, hcb, C, hb⟩
  have HB := btrans hW hb
  have R1 := blk_keep hb R0
  have hs1 := HB.size
  rw [sz1] at hcb
  clear R0 hW hb hz
  go_wp2_with fail
  refine (cDrawP cb cap a bs _ C hl).mono ?_
  rintro e w2 ⟨B, us, rs, vs, pb, au, cu, ar, cr, rfl, hpb, hB2, hB7, hul, hr1, hr5, T, C2⟩
  have HB2 := bgrow HB T.gr hs1 (fun k hk => by simp at hk; omega)
  have R2 := far_blk T.gr R1 (fun j hj => by simp at hj; omega)
  have hs2 := T.gr.size
  have hcl := C.lt (.inl rfl)
  have hrl := lt_of_block R1
  have hb3 := balloc w2 (.cells #[.slice au us.length cu, .int .i64 B, .slice ar rs.length cr] 27)
  have K := one_block w2 (.cells #[.slice au us.length cu, .int .i64 B, .slice ar rs.length cr] 27)
  have T3 := T.below hb3
  have C3 := C2.below hb3
  have R3 := blk_keep hb3 R2
  have HB3 := btrans HB2 hb3
  have hs3 := hb3.size
  clear HB C R1 T C2 R2 HB2
  go_upto_region 3 with fail
  have hK3 : w2.heap.size < (w2.alloc (.cells #[.slice au us.length cu, .int .i64 B, .slice ar rs.length cr] 27)).heap.size := by rw [sz1]; omega
  generalize w2.alloc (.cells #[.slice au us.length cu, .int .i64 B, .slice ar rs.length cr] 27) = w3 at *
  have hD := (Below.refl w3.heap.size w3).drew
  obtain ⟨⟨k0, k1, k2⟩, -⟩ := blk3 K
  obtain ⟨⟨y0, y1, y2⟩, f0, f1, f2⟩ := blk3 R3
  have CO := cDrawOps cb cap a bs au ar us.length cu rs.length cr B w3.drew (C3.below hD) hl hB2 hB7 hr5
  go_region_with (first
    | (go_simp; go_at_call 21; refine CO.mono ?_; rintro e w4 ⟨os, v, rfl, hol, hos, hO, C4, G4⟩; have G4' : w3.grownBy w4 (some cb) := ⟨G4.os, G4.tape, G4.output, G4.size, G4.block⟩; have K4 := far_blk G4' K (fun j hj => by simp at hj; omega); have R4 := far_blk G4' R3 (fun j hj => by simp at hj; omega); obtain ⟨⟨q0, q1, q2⟩, -⟩ := blk3 K4; obtain ⟨⟨z0, z1, z2⟩, g0, g1, g2⟩ := blk3 R4; dsimp only))
  all_goals (
    obtain ⟨ao, co, rfl⟩ := own_form hO
    have hne : w.heap.size ≠ w2.heap.size := by omega
    have T4 := (T3.cur (by omega) G4').free
    have T5 := ((T4.set (i := 0) (u := .slice au us.length cu) (t := w.heap.size) (by simp) (by omega)).set (i := 1) (u := .int .i64 B) (t := w.heap.size) (by simp) (by omega)).set (i := 2) (u := .slice ar rs.length cr) (t := w.heap.size) (by simp) (by omega)
    have hfr := own_from hO (Nat.le_refl _)
    have hd3 : w3.drew.heap.size = w3.heap.size := rfl
    have O5 := own_set (i := 2) (u := .slice ar rs.length cr) (b := w.heap.size) (own_set (i := 1) (u := .int .i64 B) (b := w.heap.size) (own_set (i := 0) (u := .slice au us.length cu) (b := w.heap.size) hO (fun k hk => by have := hfr k hk; omega)) (fun k hk => by have := hfr k hk; omega)) (fun k hk => by have := hfr k hk; omega)
    have HB4 := bgrow HB3 G4' (by omega) (fun k hk => by simp at hk; omega)
    have HB5 := bset (i := 2) (u := .slice ar rs.length cr) (b := w.heap.size) (bset (i := 1) (u := .int .i64 B) (b := w.heap.size) (bset (i := 0) (u := .slice au us.length cu) (b := w.heap.size) HB4 (Nat.le_refl _)) (Nat.le_refl _)) (Nat.le_refl _)
    clear CO K R3 k0 k1 k2 y0 y1 y2 f0 f1 f2 T3 C3 hD C4 G4 G4' K4 R4 T4
    go_wp2
    refine bodyPost_ret (v := .tuple #[.agg #[.slice au us.length cu, .int .i64 B, .slice ar rs.length cr], .slice ao os.length co]) (by simp [results, Try.results6, go_sem, z0, z1, z2]) rfl ?_
    have hok := T5.ok' hB2 hB7 hul hr5
    exact ⟨⟨us, B, rs⟩, os, au, ar, ao, cu, cr, co, rfl, hok, T5.inn, small_of hok, hr1, hr5, hB7, hul, Ops.own O5, hol, hos, HB5⟩)
end Go.Proofs.Ytpgjllefhlanpaa
