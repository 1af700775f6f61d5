/- The walks of the laws on UseOk and Clash. -/
import Derived.Test.YtbghfihlpbcomaaCC
import Derived.Deep.RegionHeld3
namespace Go.Proofs.Ytbghfihlpbcomaa
open Go.RowKit

theorem Bx5.parts {w : World} {b : Nat} {c0 c1 c2 c3 c4 : Value} (h : Bx5 w b c0 c1 c2 c3 c4) : w.cell? ⟨b, 0, none⟩ = some c0 ∧ w.cell? ⟨b, 1, none⟩ = some c1 ∧ w.cell? ⟨b, 2, none⟩ = some c2 ∧ w.cell? ⟨b, 3, none⟩ = some c3 ∧ w.cell? ⟨b, 4, none⟩ = some c4 := h

set_option maxHeartbeats 1600000 in
theorem walkUseOk (u : RideV) (w : World) : Calls Try.prog 4 #[u.val] w fun e w' => e = .returned (.bool true) ∧ Below w.heap.size w w' := by
  obtain ⟨ae, ad, af, at_, ap⟩ := u
  have hW := balloc w (.cells #[.int .i64 ae, .int .i64 ad, .int .i64 af, .int .i64 at_, .int .i64 ap] 43)
  have X := Bx5.new w (.int .i64 ae) (.int .i64 ad) (.int .i64 af) (.int .i64 at_) (.int .i64 ap) 43
  show Calls Try.prog 4 #[.agg #[.int .i64 ae, .int .i64 ad, .int .i64 af, .int .i64 at_, .int .i64 ap]] w _
  go_enter Try.func4, Try.ntmps4
  go_wp2_with fail
  refine (cToRideV ⟨ae, ad, af, at_, ap⟩ _).mono ?_
  rintro e w1 ⟨rfl, hb⟩
  have HB := btrans hW hb
  replace X := X.below hb
  clear hb hW
  obtain ⟨x0, x1, x2, x3, x4⟩ := id X
  go_wp2_with fail
  refine (cUseS ⟨ae, ad, af, at_, ap⟩ _).mono ?_
  rintro e w2 ⟨rfl, hb⟩
  replace HB := btrans HB hb
  replace X := X.below hb
  clear hb
  obtain ⟨x0, x1, x2, x3, x4⟩ := id X
  go_wp2_with fail
  refine (cToRideV ⟨ae, ad, af, at_, ap⟩ _).mono ?_
  rintro e w3 ⟨rfl, hb⟩
  replace HB := btrans HB hb
  clear hb X
  go_wp2_with fail
  refine (cUseI ⟨ae, ad, af, at_, ap⟩ _).mono ?_
  rintro e w4 ⟨rfl, hb⟩
  replace HB := btrans HB hb
  clear hb
  generalize rideB ⟨ae, ad, af, at_, ap⟩ = r at *
  go_wp2
  go_ret
  exact ⟨rfl, HB⟩

set_option maxHeartbeats 3200000 in
theorem walkClash (a b : RideV) (h : Int) (w : World) : Calls Try.prog 7 #[a.val, b.val, .int .i64 h] w fun e w' => e = .returned (.bool true) ∧ Below w.heap.size w w' := by
  obtain ⟨ae, ad, af, at_, ap⟩ := a
  obtain ⟨be, bd, bf, bt, bp⟩ := b
  have HB := btrans (balloc w (.cells #[.int .i64 ae, .int .i64 ad, .int .i64 af, .int .i64 at_, .int .i64 ap] 43)) (balloc _ (.cells #[.int .i64 be, .int .i64 bd, .int .i64 bf, .int .i64 bt, .int .i64 bp] 43))
  have X := (Bx5.new w (.int .i64 ae) (.int .i64 ad) (.int .i64 af) (.int .i64 at_) (.int .i64 ap) 43).below (balloc _ (.cells #[.int .i64 be, .int .i64 bd, .int .i64 bf, .int .i64 bt, .int .i64 bp] 43))
  have Y := Bx5.new1 w (.cells #[.int .i64 ae, .int .i64 ad, .int .i64 af, .int .i64 at_, .int .i64 ap] 43) (.int .i64 be) (.int .i64 bd) (.int .i64 bf) (.int .i64 bt) (.int .i64 bp) 43
  show Calls Try.prog 7 #[.agg #[.int .i64 ae, .int .i64 ad, .int .i64 af, .int .i64 at_, .int .i64 ap], .agg #[.int .i64 be, .int .i64 bd, .int .i64 bf, .int .i64 bt, .int .i64 bp], .int .i64 h] w _
  have PA := fun (V : World) => cToRideV ⟨ae, ad, af, at_, ap⟩ V
  have PB := fun (V : World) => cToRideV ⟨be, bd, bf, bt, bp⟩ V
  have PS := fun (V : World) => cClashS ⟨ae, ad, af, at_, ap⟩ ⟨be, bd, bf, bt, bp⟩ h V
  have PI := fun (V : World) => cClashI ⟨ae, ad, af, at_, ap⟩ ⟨be, bd, bf, bt, bp⟩ h V
  unfold RideV.val at PA PB PS PI
  dsimp only at PA PB PS PI
  generalize clashB ⟨ae, ad, af, at_, ap⟩ ⟨be, bd, bf, bt, bp⟩ h = r at *
  go_enter Try.func7, Try.ntmps7
  obtain ⟨x0, x1, x2, x3, x4⟩ := id X
  obtain ⟨y0, y1, y2, y3, y4⟩ := id Y
  go_wp2_with fail
  go_region_held3 (fun w' => w'.cell? ⟨w.heap.size, 0, none⟩ = some (.int .i64 ae) ∧ w'.cell? ⟨w.heap.size, 1, none⟩ = some (.int .i64 ad) ∧ w'.cell? ⟨w.heap.size, 2, none⟩ = some (.int .i64 af) ∧ w'.cell? ⟨w.heap.size, 3, none⟩ = some (.int .i64 at_) ∧ w'.cell? ⟨w.heap.size, 4, none⟩ = some (.int .i64 ap) ∧ w'.cell? ⟨w.heap.size + 1, 0, none⟩ = some (.int .i64 be) ∧ w'.cell? ⟨w.heap.size + 1, 1, none⟩ = some (.int .i64 bd) ∧ w'.cell? ⟨w.heap.size + 1, 2, none⟩ = some (.int .i64 bf) ∧ w'.cell? ⟨w.heap.size + 1, 3, none⟩ = some (.int .i64 bt) ∧ w'.cell? ⟨w.heap.size + 1, 4, none⟩ = some (.int .i64 bp)) (go_keep) (first
    | (go_at_call 19; with_reducible refine (PS _).mono ?_; rintro e wc ⟨rfl, hbc⟩; have Bc := btrans Bb hbc; clear hbc; obtain ⟨v0, v1, v2, v3, v4⟩ := (X.below Bc).parts; obtain ⟨u0, u1, u2, u3, u4⟩ := (Y.below Bc).parts)
    | (go_at_call 21; with_reducible refine (PB _).mono ?_; rintro e wb ⟨rfl, hbb⟩; have Bb := btrans Ba hbb; clear hbb; obtain ⟨v0, v1, v2, v3, v4⟩ := (X.below Bb).parts; obtain ⟨u0, u1, u2, u3, u4⟩ := (Y.below Bb).parts)
    | (go_at_call 21; with_reducible refine (PA _).mono ?_; rintro e wa ⟨rfl, hba⟩; have Ba := undrew hba; clear hba; obtain ⟨v0, v1, v2, v3, v4⟩ := (X.below Ba).parts; obtain ⟨u0, u1, u2, u3, u4⟩ := (Y.below Ba).parts))
  clear x0 x1 x2 x3 x4 y0 y1 y2 y3 y4
  replace HB := btrans HB Bc
  replace X := X.below Bc
  replace Y := Y.below Bc
  clear Ba Bb Bc v0 v1 v2 v3 v4 u0 u1 u2 u3 u4
  obtain ⟨x0, x1, x2, x3, x4⟩ := id X
  obtain ⟨y0, y1, y2, y3, y4⟩ := id Y
  go_wp2_with fail
  go_region_held3 (fun w' => w'.cell? ⟨w.heap.size, 0, none⟩ = some (.int .i64 ae) ∧ w'.cell? ⟨w.heap.size, 1, none⟩ = some (.int .i64 ad) ∧ w'.cell? ⟨w.heap.size, 2, none⟩ = some (.int .i64 af) ∧ w'.cell? ⟨w.heap.size, 3, none⟩ = some (.int .i64 at_) ∧ w'.cell? ⟨w.heap.size, 4, none⟩ = some (.int .i64 ap) ∧ w'.cell? ⟨w.heap.size + 1, 0, none⟩ = some (.int .i64 be) ∧ w'.cell? ⟨w.heap.size + 1, 1, none⟩ = some (.int .i64 bd) ∧ w'.cell? ⟨w.heap.size + 1, 2, none⟩ = some (.int .i64 bf) ∧ w'.cell? ⟨w.heap.size + 1, 3, none⟩ = some (.int .i64 bt) ∧ w'.cell? ⟨w.heap.size + 1, 4, none⟩ = some (.int .i64 bp)) (go_keep) (first
    | (go_at_call 18; with_reducible refine (PI _).mono ?_; rintro e wc ⟨rfl, hbc⟩; have Bc := btrans Bb hbc; clear hbc; obtain ⟨v0, v1, v2, v3, v4⟩ := (X.below Bc).parts; obtain ⟨u0, u1, u2, u3, u4⟩ := (Y.below Bc).parts)
    | (go_at_call 21; with_reducible refine (PB _).mono ?_; rintro e wb ⟨rfl, hbb⟩; have Bb := btrans Ba hbb; clear hbb; obtain ⟨v0, v1, v2, v3, v4⟩ := (X.below Bb).parts; obtain ⟨u0, u1, u2, u3, u4⟩ := (Y.below Bb).parts)
    | (go_at_call 21; with_reducible refine (PA _).mono ?_; rintro e wa ⟨rfl, hba⟩; have Ba := undrew hba; clear hba; obtain ⟨v0, v1, v2, v3, v4⟩ := (X.below Ba).parts; obtain ⟨u0, u1, u2, u3, u4⟩ := (Y.below Ba).parts))
  replace HB := btrans HB Bc
  go_wp2
  go_ret
  exact ⟨rfl, HB⟩
end Go.Proofs.Ytbghfihlpbcomaa
