/- The walk of the law on Settle. -/
import Derived.Test.YtbghfihlpbcomaaGreatSK
import Derived.Test.YtbghfihlpbcomaaGreatSB
import Derived.Test.YtbghfihlpbcomaaGreatND
namespace Go.Proofs.YtbghfihlpbcomaaGreat
open Go.RowKit
theorem TabO.onT_lt {B : Nat} {w : World} {v : Value} {vs : List (Value × Value)} {ts : List TripV} (T : TabO B w v vs ts) {b : Nat} (h : OnT v vs b) : b < w.heap.size := by
  rcases h with h | ⟨m, hm, h⟩
  · exact own_blk_lt T.own b h
  · rw [getD_v hm] at h
    exact (tripOwn_lt (T.each m hm) b h).2
theorem onT_row {v : Value} {vs : List (Value × Value)} {m : Nat} (hm : m < vs.length) {b : Nat} (h : vs[m].2.ownBlock = some b) : OnT v vs b := .inr ⟨m, hm, by rw [getD_v hm]; exact h⟩
theorem TabO.farO {B : Nat} {w w' : World} {v : Value} {vs : List (Value × Value)} {ts : List TripV} {r : Option Nat} (T : TabO B w v vs ts) (hg : w.grownBy w' r) (hne : ∀ b, OnT v vs b → r ≠ some b) : TabO B w' v vs ts :=
  ⟨own_far T.own hg (fun k hk e => hne k (.inl hk) e.symm), T.len, fun j hj => tripOwn_far (T.each j hj) hg (fun k hk => hne k (onT_row hj hk)), T.apart, T.pair⟩
theorem TabO.frO {P : Nat → Prop} {B : Nat} {w w' : World} {v : Value} {vs : List (Value × Value)} {ts : List TripV} (T : TabO B w v vs ts) (hs : Fr P w w') (hne : ∀ b, OnT v vs b → ¬ P b) : TabO B w' v vs ts :=
  ⟨own_fr T.own hs (fun k hk => hne k (.inl hk)), T.len, fun j hj => by
    obtain ⟨h1, a, c, h2, h3⟩ := T.each j hj
    exact ⟨h1, a, c, h2, own_fr h3 hs (fun k hk => hne k (onT_row hj (by rw [h2]; exact hk)))⟩, T.apart, T.pair⟩
theorem Fr.span {g hi : Nat} {w w' : World} (h : Span g hi w w') : Fr (fun b => g ≤ b ∧ b < hi) w w' := ⟨h.os, h.tape, h.output, h.size, fun k hk hn => h.block k hk (by omega)⟩
theorem SetA.fine {n : Int} {es : List EdgeV} {ts out : List TripV} {h : Int} {ms : List Int} (a : SetA n es ts h out ms) : out.length ≤ 24 ∧ ms.length ≤ 24 ∧ ∀ i, i < out.length → 1 ≤ (out.getD i TripV.zero).calls.length ∧ (out.getD i TripV.zero).calls.length ≤ 12 := by
  rcases a.fit with ⟨h1, h2, hT⟩ | ⟨rfl, rfl⟩
  · by_cases h0 : ts.length = 0
    · exact ⟨by omega, by omega, fun i hi => by omega⟩
    · obtain ⟨q, hq⟩ : ∃ q, ts.length = q + 1 := ⟨ts.length - 1, by omega⟩
      rw [hq] at hT
      have hc := hT.clean
      have hf := hc.few
      refine ⟨hf, by omega, fun i hi => ?_⟩
      have ht := hc.1.2.1.2.1 i hi
      obtain ⟨_, c2, c12, _, _⟩ := trip_parts ht
      omega
  · exact ⟨by simp, by simp, fun i hi => by simp at hi⟩
theorem SetA.small {n : Int} {es : List EdgeV} {ts out : List TripV} {h : Int} {ms : List Int} (a : SetA n es ts h out ms) (hS : Small ts) : Small out := by
  rcases a.fit with ⟨_, _, hT⟩ | ⟨rfl, _⟩
  · exact hT.small hS
  · exact ⟨by simp, fun t ht => by cases ht⟩

set_option maxRecDepth 20000 in
set_option maxHeartbeats 6400000 in
theorem walkSettleX (n : Int) (a : Option Addr) (p : Nat) (es : List EdgeV) (ta : Option Addr) (tc : Nat) (ts : List TripV) (hd : Int) (w : World) (he : Edges w a es) (hn : es.length ≤ maxLen) (hz : Trips w ta ts) (hB : Big ts) :
    Calls Tryz.prog 4 #[.agg #[.int .i64 n, .slice a es.length p], .slice ta ts.length tc, .int .i64 hd] w fun e w' => e = .returned (.bool true) ∧ Below w.heap.size w w' := by
  have A0 := one_block w (.cells #[.int .i64 n, .slice a es.length p] 45)
  have HB := balloc w (.cells #[.int .i64 n, .slice a es.length p] 45)
  go_enter Tryz.func4, Tryz.ntmps4
  go_wp2_with fail
  refine (cSzNet a es.length p _ 1048576 _ (by omega) (by omega) hn).mono ?_
  rintro e w1 ⟨r, rfl, hr, hb⟩
  replace HB := btrans HB hb
  replace A0 := blk_keep hb A0
  clear hb
  rcases hr with rfl | ⟨hr, hr0⟩
  · go_wp2
    go_ret
    exact ⟨rfl, HB⟩
  have hl : es.length ≤ 1048576 := by omega
  have hr1 : r ≤ 1048576 := by omega
  have hr2 : ¬ r < 0 := by omega
  clear hr
  go_wp2_with fail
  refine (cSzTrips ta tc ts r _ (hz.below HB) hr0 hr1 hB).mono ?_
  rintro e w2 ⟨r', rfl, hr, hb⟩
  replace HB := btrans HB hb
  replace A0 := blk_keep hb A0
  clear hb
  rcases hr with rfl | ⟨hr3, hr4, hS⟩
  · go_wp2
    go_ret
    exact ⟨rfl, HB⟩
  have hr5 : ¬ r' < 0 := by omega
  clear hr4 hB
  obtain ⟨⟨x0, x1⟩, -⟩ := blk2 A0
  go_wp2_with fail
  refine (cToNet a p n es _ (he.below HB) hl).mono ?_
  rintro e w3 ⟨g1, rfl, N1, hb⟩
  replace HB := btrans HB hb
  replace A0 := blk_keep hb A0
  clear hb x0 x1
  go_wp2_with fail
  refine (cToTrips ta tc ts _ (hz.below HB) hS).mono ?_
  rintro e w4 ⟨rfl, o1, hb⟩
  replace HB := btrans HB hb
  replace A0 := blk_keep hb A0
  replace N1 := N1.below hb
  clear hb
  go_wp2_with fail
  refine (cSettleS _ _ n es _ _ ts hd _ N1.edges hl o1.read hS).mono ?_
  rintro e w5 ⟨pa, pc, na, nc, vs5, out, ms, rfl, hA5, T5, O5, hb⟩
  have hs4 := HB.size
  replace HB := btrans HB hb
  replace A0 := blk_keep hb A0
  obtain ⟨f24, fm24, fc⟩ := hA5.fine
  have hSo := hA5.small hS
  have hol := hSo.1
  have lt5 := fun b (h : OnT _ vs5 b) => T5.onT_lt h
  have lo5 := own_blk_lt O5
  have hA5lt := lt_of_block A0
  replace fc := hide fc
  replace hA5 := hide hA5
  clear hb N1 o1
  obtain ⟨⟨x0, x1⟩, -⟩ := blk2 A0
  go_wp2_with fail
  refine (cToNet a p n es _ (he.below HB) hl).mono ?_
  rintro e w6 ⟨g2, rfl, N2, hb⟩
  have hs6 := HB.size
  have hg2 := own_from N2 (Nat.le_refl _) g2 rfl
  have hs6b := hb.size
  replace T5 := T5.below hb
  replace O5 := own_keep O5 hb
  replace HB := btrans HB hb
  replace A0 := blk_keep hb A0
  clear hb x0 x1
  have X0 := one_block w6 (.cells #[.int .i64 n, .slice (some ⟨g2, 0, none⟩) es.length es.length] 26)
  have hb6 := balloc w6 (.cells #[.int .i64 n, .slice (some ⟨g2, 0, none⟩) es.length es.length] 26)
  replace HB := btrans HB hb6
  replace A0 := blk_keep hb6 A0
  replace N2 := N2.below hb6
  replace T5 := T5.below hb6
  replace O5 := own_keep O5 hb6
  clear hb6
  go_wp2_with fail
  refine (cToTripsA ta tc ts _ (hz.below HB) hS).mono ?_
  rintro e w7 ⟨rfl, o2, T2, hb⟩
  rw [sz1] at o2 T2
  have hs7 := hb.size
  rw [sz1] at hs7
  have hg7 : w6.heap.size + 1 < w7.heap.size := by obtain ⟨_, _, h, _⟩ := o2; exact owns_lt h
  have hg2' := owns_lt N2
  rw [sz1] at hg2'
  replace T5 := T5.below hb
  replace O5 := own_keep O5 hb
  replace HB := btrans HB hb
  replace A0 := blk_keep hb A0
  replace X0 := blk_keep hb X0
  replace N2 := N2.below hb
  clear hb
  obtain ⟨⟨x0, x1⟩, -⟩ := blk2 X0
  go_wp2_with fail
  refine (cSettleI _ _ n es _ _ ts hd _ N2.edges hl o2.read hS).mono ?_
  rintro e w8 ⟨qa, qc, ma, mc, vs8, out8, ms8, rfl, hA8, T8, O8, hb⟩
  obtain ⟨e1, e2⟩ := hA8.uniq hA5.out
  subst out8 ms8
  have ge8 := fun b (h : OnT _ vs8 b) => T8.onT h
  have go8 := own_from O8 (Nat.le_refl _)
  clear hA8
  replace T5 := T5.below hb
  replace O5 := own_keep O5 hb
  replace T2 := T2.below hb
  replace HB := btrans HB hb
  replace A0 := blk_keep hb A0
  replace X0 := blk_keep hb X0
  replace N2 := N2.below hb
  replace o2 := o2.below hb
  clear hb x0 x1
  go_wp2_with fail
  refine (cEqTrips qa pa qc pc out _ T8.trips T5.trips hSo).mono ?_
  rintro e w8a ⟨rfl, hb⟩
  replace HB := btrans HB hb
  replace T5 := T5.below hb
  replace O5 := own_keep O5 hb
  replace T8 := T8.below hb
  replace O8 := own_keep O8 hb
  replace T2 := T2.below hb
  replace N2 := N2.below hb
  replace A0 := blk_keep hb A0
  replace X0 := blk_keep hb X0
  replace o2 := o2.below hb
  clear hb
  go_wp2_with fail
  refine (cEqNumsn _ _ ms.length _ _ ms _ rfl O8 O5 (by unfold maxLen; omega)).mono ?_
  rintro e w8b ⟨rfl, hb⟩
  replace HB := btrans HB hb
  replace T5 := T5.below hb
  replace O5 := own_keep O5 hb
  replace T8 := T8.below hb
  replace O8 := own_keep O8 hb
  replace T2 := T2.below hb
  replace N2 := N2.below hb
  replace A0 := blk_keep hb A0
  replace X0 := blk_keep hb X0
  replace o2 := o2.below hb
  clear hb
  obtain ⟨⟨x0, x1⟩, -⟩ := blk2 X0
  obtain ⟨⟨y0, y1⟩, -⟩ := blk2 A0
  have hE := he.below HB.drew
  go_wp2_with fail
  go_region_held3 (fun w' => w'.cell? ⟨w6.heap.size, 0, none⟩ = some (.int .i64 n) ∧ w'.cell? ⟨w6.heap.size, 1, none⟩ = some (.slice (some ⟨g2, 0, none⟩) es.length es.length) ∧ w'.cell? ⟨w.heap.size, 0, none⟩ = some (.int .i64 n) ∧ w'.cell? ⟨w.heap.size, 1, none⟩ = some (.slice a es.length p)) (go_keep) (first
    | (go_at_call 22; with_reducible refine (cEqNet _ _ _ _ n es _ P2 P3 hl).mono ?_; rintro e wb ⟨rfl, hbb⟩; have hb := btrans Bp hbb; clear hbb; obtain ⟨⟨v0, v1⟩, -⟩ := blk2 (blk_keep hb X0); obtain ⟨⟨v2, v3⟩, -⟩ := blk2 (blk_keep hb A0))
    | (go_at_call 18; with_reducible refine (cToNet a p n es _ hE hl).mono ?_; rintro e wp ⟨g4, rfl, N3, hbp⟩; have Bp := undrew hbp; have P2 := (N2.below Bp).edges; have P3 := N3.edges; clear hbp; obtain ⟨⟨v0, v1⟩, -⟩ := blk2 (blk_keep Bp X0); obtain ⟨⟨v2, v3⟩, -⟩ := blk2 (blk_keep Bp A0)))
  clear v0 v1 v2 v3 P2 P3 N3
  replace HB := btrans HB hb
  replace T5 := T5.below hb
  replace O5 := own_keep O5 hb
  replace T8 := T8.below hb
  replace O8 := own_keep O8 hb
  replace T2 := T2.below hb
  replace N2 := N2.below hb
  replace A0 := blk_keep hb A0
  replace X0 := blk_keep hb X0
  replace o2 := o2.below hb
  clear hb
  clear Bp hE x0 x1 y0 y1
  go_wp2_with fail
  refine (cToTrips ta tc ts _ (hz.below HB) hS).mono ?_
  rintro e w9 ⟨rfl, o3, hb⟩
  replace HB := btrans HB hb
  replace T5 := T5.below hb
  replace O5 := own_keep O5 hb
  replace T8 := T8.below hb
  replace O8 := own_keep O8 hb
  replace T2 := T2.below hb
  replace N2 := N2.below hb
  replace A0 := blk_keep hb A0
  replace X0 := blk_keep hb X0
  replace o2 := o2.below hb
  clear hb
  go_wp2_with fail
  refine (cEqTrips _ _ _ _ ts _ o2.read o3.read hS).mono ?_
  rintro e w10 ⟨rfl, hb⟩
  replace HB := btrans HB hb
  replace T5 := T5.below hb
  replace O5 := own_keep O5 hb
  replace T8 := T8.below hb
  replace O8 := own_keep O8 hb
  replace T2 := T2.below hb
  replace N2 := N2.below hb
  replace A0 := blk_keep hb A0
  replace X0 := blk_keep hb X0
  clear hb
  clear o2 o3
  obtain ⟨⟨x0, x1⟩, -⟩ := blk2 X0
  go_wp2_with fail
  refine (cMarkNet _ g2 n es _ N2 hl).mono ?_
  rintro e w11 ⟨rfl, G11⟩
  clear x0 x1
  replace T2 := T2.far G11 (by omega)
  replace T5 := T5.farO G11 (fun b h e => by cases e; have := lt5 _ h; omega)
  replace O5 := own_far O5 G11 (fun k hk e => by cases e; have := lo5 _ hk; omega)
  replace T8 := T8.farO G11 (fun b h e => by cases e; have := ge8 _ h; omega)
  replace O8 := own_far O8 G11 (fun k hk e => by cases e; have := go8 _ hk; omega)
  replace A0 := far_blk G11 A0 (fun j e => by cases e; omega)
  replace HB := grow_below HB G11 (fun k e => by cases e; omega)
  clear G11 N2 X0
  go_wp2_with fail
  refine (cMarkTrips _ _ ts _ _ T2 (by omega) hS (by omega) (by omega)).mono ?_
  rintro e w12 ⟨k12, rfl, hk12, S12⟩
  have hk0 : ¬ k12 < 0 := by omega
  have F12 := Fr.span S12
  replace hk12 := hide hk12
  replace T5 := T5.frO F12 (fun b h e => by have := lt5 _ h; omega)
  replace O5 := own_fr O5 F12 (fun k hk e => by have := lo5 _ hk; omega)
  replace T8 := T8.frO F12 (fun b h e => by have := ge8 _ h; omega)
  replace O8 := own_fr O8 F12 (fun k hk e => by have := go8 _ hk; omega)
  replace A0 := blk_fr F12 A0 (by omega)
  replace HB := F12.below HB (by omega)
  clear S12 F12 T2
  go_wp2_with fail
  refine (cEqTrips qa pa qc pc out _ T8.trips T5.trips hSo).mono ?_
  rintro e w13 ⟨rfl, hb⟩
  replace HB := btrans HB hb
  replace T5 := T5.below hb
  replace O5 := own_keep O5 hb
  replace T8 := T8.below hb
  replace O8 := own_keep O8 hb
  replace A0 := blk_keep hb A0
  clear hb
  go_wp2_with fail
  refine (cEqNumsn _ _ ms.length _ _ ms _ rfl O8 O5 (by unfold maxLen; omega)).mono ?_
  rintro e w13b ⟨rfl, hb⟩
  replace HB := btrans HB hb
  replace T5 := T5.below hb
  replace O5 := own_keep O5 hb
  replace T8 := T8.below hb
  replace O8 := own_keep O8 hb
  replace A0 := blk_keep hb A0
  clear hb
  have hofI := hide (offT_in (k := 1) (by omega) fc.out out.length (Nat.le_refl _))
  go_wp2_with fail
  refine (cMarkTs _ _ vs8 out 1 _ T8 f24 fc.out (by omega) (by omega)).mono ?_
  rintro e w14 ⟨rfl, M8, F14⟩
  replace T5 := T5.frO F14 (fun b h e => by have h1 := lt5 _ h; have h2 := ge8 _ e; omega)
  replace O5 := own_fr O5 F14 (fun k hk e => by have h1 := lo5 _ hk; have h2 := ge8 _ e; omega)
  replace O8 := own_fr O8 F14 (fun k hk e => by
    rcases e with e | ⟨m, hm, e⟩
    · exact own_other O8 T8.own (by decide) k hk e.symm
    · rw [getD_v hm] at e
      obtain ⟨_, a9, c9, t2, t3⟩ := T8.each m hm
      rw [t2] at e
      exact own_other O8 t3 (by decide) k hk e.symm)
  replace A0 := blk_fr F14 A0 (fun e => by have h2 := ge8 _ e; omega)
  replace HB := F14.below HB (fun k e => by have h2 := ge8 _ e; omega)
  clear F14 T8
  obtain ⟨q0, q1⟩ := hofI.out
  generalize HQ : offT 1 out out.length = q at *
  go_wp2_with fail
  refine (cMarkNums _ ms.length _ ms q _ rfl O8 (by omega) q0 (by omega)).mono ?_
  rintro e w15 ⟨rfl, R8, G15⟩
  replace M8 := M8.far O8 (by decide) (by decide) G15
  replace T5 := T5.farO G15 (fun b h e => by have h1 := lt5 _ h; have h2 := go8 _ e; omega)
  replace O5 := own_far O5 G15 (fun k hk e => by have h1 := lo5 _ hk; have h2 := go8 _ e.symm; omega)
  replace A0 := far_blk G15 A0 (fun j e => by have h2 := go8 _ e; omega)
  replace HB := grow_below HB G15 (fun k e => by have h2 := go8 _ e; omega)
  clear G15 O8
  have CH : ∀ w', MkT w' w7.heap.size (.slice qa out.length qc) out 1 → Calls Tryz.prog 26 #[.slice qa out.length qc, .int .i64 1] w' fun e w2 => e = .returned (.int .i64 q) ∧ Below w'.heap.size w' w2 := by
    intro w' hM
    have := cHeldTs _ _ out 1 w' hM f24 fc.out (by omega) (by omega)
    rw [HQ] at this
    exact this
  have q2 : ¬ q < 0 := by omega
  have q3 : ¬ q + (ms.length : Int) < 0 := by omega
  go_wp2_with fail
  refine (CH _ M8).mono ?_
  rintro e w16 ⟨rfl, hb⟩
  replace HB := btrans HB hb
  replace T5 := T5.below hb
  replace O5 := own_keep O5 hb
  replace M8 := M8.keep hb
  replace R8 := own_keep R8 hb
  replace A0 := blk_keep hb A0
  clear hb
  go_wp2_with fail
  refine (cHeldNums _ ms.length _ q _ R8 (by omega) q0 (by omega)).mono ?_
  rintro e w17 ⟨rfl, hw⟩
  subst w17
  obtain ⟨⟨x0, x1⟩, -⟩ := blk2 A0
  go_wp2_with fail
  refine (cToNet a p n es _ (he.below HB) hl).mono ?_
  rintro e w18 ⟨g4, rfl, N4, hb⟩
  replace HB := btrans HB hb
  replace T5 := T5.below hb
  replace O5 := own_keep O5 hb
  replace M8 := M8.keep hb
  replace R8 := own_keep R8 hb
  replace A0 := blk_keep hb A0
  clear hb
  clear x0 x1 A0
  go_wp2_with fail
  refine (cToTrips ta tc ts _ (hz.below HB) hS).mono ?_
  rintro e w19 ⟨rfl, o4, hb⟩
  replace N4 := N4.below hb
  replace HB := btrans HB hb
  replace T5 := T5.below hb
  replace O5 := own_keep O5 hb
  replace M8 := M8.keep hb
  replace R8 := own_keep R8 hb
  clear hb
  go_wp2_with fail
  refine (cSettleI _ _ n es _ _ ts hd _ N4.edges hl o4.read hS).mono ?_
  rintro e w20 ⟨ra, rc, ka, kc, vs9, out9, ms9, rfl, hA9, T9, O9, hb⟩
  obtain ⟨e1, e2⟩ := hA9.uniq hA5.out
  subst out9 ms9
  clear hA9 N4 o4
  replace HB := btrans HB hb
  replace T5 := T5.below hb
  replace O5 := own_keep O5 hb
  replace M8 := M8.keep hb
  replace R8 := own_keep R8 hb
  clear hb
  go_wp2_with fail
  refine (cEqTrips ra pa rc pc out _ T9.trips T5.trips hSo).mono ?_
  rintro e w21 ⟨rfl, hb⟩
  replace O9 := own_keep O9 hb
  replace HB := btrans HB hb
  replace T5 := T5.below hb
  replace O5 := own_keep O5 hb
  replace M8 := M8.keep hb
  replace R8 := own_keep R8 hb
  clear hb
  clear T9 T5
  go_wp2_with fail
  refine (cEqNumsn _ _ ms.length _ _ ms _ rfl O9 O5 (by unfold maxLen; omega)).mono ?_
  rintro e w22 ⟨rfl, hb⟩
  replace HB := btrans HB hb
  replace M8 := M8.keep hb
  replace R8 := own_keep R8 hb
  clear hb O9 O5
  go_wp2_with fail
  refine (CH _ M8).mono ?_
  rintro e w23 ⟨rfl, hb⟩
  replace HB := btrans HB hb
  replace R8 := own_keep R8 hb
  clear hb M8 CH
  go_wp2_with fail
  refine (cHeldNums _ ms.length _ q _ R8 (by omega) q0 (by omega)).mono ?_
  rintro e w24 ⟨rfl, hw⟩
  subst w24
  clear R8
  go_wp2
  go_ret
  exact ⟨rfl, HB⟩
end Go.Proofs.YtbghfihlpbcomaaGreat
