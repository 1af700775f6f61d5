/- The model's reach, walked. -/
import Derived.Test.YtajeiiebddnchaaGreatDoorRA
namespace Go.Proofs.YtajeiiebddnchaaGreatDoor
open Go.RowKit

/-- A call of a trip out of the list. -/
theorem call_cells {w : World} {n : Option Addr} {ts : List TripV} {i k : Nat} (h : Halts w n (ts.getD i TripV.zero).calls) (hk : k < ncA ts i) :
    ∃ b off, n = some ⟨b, off, none⟩ ∧ w.cell? ⟨b, off + k * 3, none⟩ = some (.int .i64 (hcA ts i k).n) ∧ w.cell? ⟨b, off + k * 3 + 1, none⟩ = some (.int .i64 (hcA ts i k).a) ∧ w.cell? ⟨b, off + k * 3 + 2, none⟩ = some (.int .i64 (hcA ts i k).d) := by
  rcases h with h | ⟨b, off, rfl, hc⟩
  · unfold ncA at hk; rw [h] at hk; simp at hk
  · exact ⟨b, off, rfl, hc k hk⟩

theorem mins_le {ts : List TripV} {s : Qn} {ch : Int} {h j : Nat} {A : List Int} (hg : Gd ts) (hm : s.m ≤ 200000) (hA : Mins (reachP ts s ch h) A) (hj : j < 30) : A.getD j 0 ≤ 200000 := by
  rcases hA.2 j hj with ⟨h1, _⟩ | ⟨h1, _⟩
  · rw [h1]; decide
  · rcases Jr.most (q := ⟨(j : Int), A.getD j 0⟩) hg h1 with h2 | ⟨_, _, _, h2⟩
    · have h3 : A.getD j 0 = s.m := congrArg Qn.m h2
      rw [h3]; exact hm
    · exact Int.le_trans h2 (by decide)
theorem mins_ge {ts : List TripV} {s : Qn} {ch : Int} {h j : Nat} {A : List Int} (hg : Gd ts) (hc : 0 ≤ ch) (hm : 0 ≤ s.m) (hA : Mins (reachP ts s ch h) A) (hj : j < 30) : -1 ≤ A.getD j 0 := by
  rcases hA.2 j hj with ⟨h1, _⟩ | ⟨h1, _⟩
  · rw [h1]; decide
  · have h3 : s.m ≤ A.getD j 0 := Jr.ge (q := ⟨(j : Int), A.getD j 0⟩) hg hc h1
    exact Int.le_trans (Int.le_trans (by decide) hm) h3

theorem leg_set {ts : List TripV} {s : Qn} {ch : Int} {h i k l j : Nat} {A N : List Int} (hg : Gd ts) (hc : 0 ≤ ch) (hs : 0 ≤ s.m) (hS : Mins (Seen ts s ch h A i k l) N) (hl : LegIn ts i k l) (hcan : Can ts s ch A i k) (hj : (hcA ts i l).n = j) (hj30 : j < 30) (hx : N.getD j 0 < 0 ∨ (hcA ts i l).a < N.getD j 0) :
    Mins (Seen ts s ch h A i k (l + 1)) (N.set j (hcA ts i l).a) := (hS.set (Seen.pos hg hc hs _ _ _) hj30 hx).congr (seen_leg hl hcan hj)
theorem leg_keep {ts : List TripV} {s : Qn} {ch : Int} {h i k l j : Nat} {A N : List Int} (hg : Gd ts) (hc : 0 ≤ ch) (hs : 0 ≤ s.m) (hS : Mins (Seen ts s ch h A i k l) N) (hl : LegIn ts i k l) (hcan : Can ts s ch A i k) (hj : (hcA ts i l).n = j) (hj30 : j < 30) (hx : ¬ (N.getD j 0 < 0 ∨ (hcA ts i l).a < N.getD j 0)) :
    Mins (Seen ts s ch h A i k (l + 1)) N := (hS.keep (Seen.pos hg hc hs _ _ _) hj30 hx).congr (seen_leg hl hcan hj)

set_option maxRecDepth 20000 in
set_option maxHeartbeats 6400000 in
theorem cReach (a : Option Addr) (cap : Nat) (ts : List TripV) (f m ch : Int) (H : Nat) (w : World) (hz : Trips w a ts) (hg : Gd ts) (hf0 : 0 ≤ f) (hf1 : f ≤ 29) (hm0 : 0 ≤ m) (hm1 : m ≤ 200000) (hc0 : 0 ≤ ch) (hc1 : ch ≤ 60) (hH : H ≤ 5) :
    Calls Tryz.prog 20 #[.slice a ts.length cap, .int .i64 f, .int .i64 m, .int .i64 ch, .int .i64 H] w fun e w' => ∃ v, e = .returned v ∧ ∃ L, Mins (reachP ts ⟨f, m⟩ ch H) L ∧ w'.ownsRow w.heap.size 3 1 v 30 (L.map (.int .i64)) ∧ Below w.heap.size w w' := by
  obtain ⟨i0, hi, hz0, hz1, hz2⟩ := info_parts infoInts
  obtain ⟨fn, rfl⟩ : ∃ fn : Nat, f = fn := ⟨f.toNat, by omega⟩
  have hfn : fn < 30 := by omega
  have hfew := hg.few
  have hst := mins_start ts ⟨(fn : Int), m⟩ ch hf0 hf1
  have e0 : ((fn : Int)).toNat = fn := by omega
  simp only [e0] at hst
  clear e0
  go_enter Tryz.func20, Tryz.ntmps20
  go_wp2
  go_loopw [11, 12] (fun o i wr => ∃ k : Nat, k ≤ 30 ∧ i = .int .i64 k ∧ wr.ownsRow w.heap.size 3 1 o k ((List.replicate k (-1)).map (.int .i64)) ∧ Below w.heap.size w wr) (fun _ i _ => 30 - (intOf i).toNat)
  case atStart => exact ⟨0, Nat.zero_le _, rfl, by simpa using World.ownsRow_made w #[] 0 (Nat.le_refl _) (by omega) rfl, balloc _ _⟩
  case round =>
    obtain ⟨k, hk, rfl, hown, hb⟩ := hrel
    by_cases hlt : k < 30
    · have hlt' : (k : Int) < 30 := by omega
      have hsz := hb.size
      go_wp2_with (at_builtin; refine wpList_append_own _ rfl _ _ 55 rfl w.heap.size 3 i0 (.int .i64 0) 1 8 Tryz.underlying55 hi hz0 hz1 hz2 rfl (by decide) _ _ _ rfl (hown.alloc _) ⟨wr.heap.size, 0, none⟩ 1 1 [.int .i64 (-1)] rfl rfl ?c1 ?c2 ?c3 ?c4 ?c5 ?_)
      case c1 =>
        intro j u hj
        match j, hj with
        | 0, hj => simp at hj; subst hj; simp [Addr.add]
      case c2 => intro u hu; simp at hu; subst hu; rfl
      case c3 => unfold maxLen; omega
      case c4 => omega
      case c5 => simp; omega
      intro v' w5 hown' hgrow _
      have hfrom := own_from hown (Nat.le_refl _)
      have hbel' : Below w.heap.size w w5 := (hb.alloc hsz _).grown hgrow (by simp; omega) (fun j e => by have := hfrom j e; omega)
      have hown2 : w5.ownsRow w.heap.size 3 1 v' (k + 1) ((List.replicate (k + 1) (-1)).map (.int .i64)) := by
        rw [List.replicate_succ', List.map_append, List.map_replicate]; exact hown'
      clear hown hown' hgrow hb hfrom
      go_wp2
      go_roundw
      case rel => exact ⟨k + 1, by omega, by go_num, hown2, hbel'⟩
      case measure => simp [intOf]; omega
    · have hlt' : ¬ (k : Int) < 30 := by omega
      have hk30 : k = 30 := by omega
      have hown' : wr.ownsRow w.heap.size 3 1 u11 30 ((List.replicate 30 (-1)).map (.int .i64)) := by rw [hk30] at hown; exact hown
      obtain ⟨gA, cA, rfl, hgA, R0, -⟩ := row30_of hown'
      clear hown' hown hk30
      have x0 := R0.cell hfn
      have f0 := R0.frozen fn
      have R1 := R0.set fn m
      have hb1 := below_set (o := fn) (v := .int .i64 m) hgA hb
      have hfn' : (fn : Int) < 30 := by omega
      clear hlt hk R0 hb
      go_wp2
      clear hlt'
      go_loopw [11, 13] (fun o hh wr => ∃ (h g c : Nat) (A : List Int), h ≤ H ∧ hh = .int .i64 h ∧ o = .slice (some ⟨g, 0, none⟩) 30 c ∧ w.heap.size ≤ g ∧ Row30 wr g c A ∧ Mins (reachP ts ⟨(fn : Int), m⟩ ch h) A ∧ Below w.heap.size w wr) (fun _ hh _ => H - (intOf hh).toNat)
      case atStart => exact ⟨0, gA, cA, _, Nat.zero_le _, rfl, rfl, hgA, R1, hst, hb1⟩
      case round =>
        clear R1 hb1 x0 f0 hgA hst
        obtain ⟨h, g, c, A, hh, rfl, rfl, hg0, RA, hA, hb⟩ := hrel
        by_cases hlt : h < H
        · have hlt' : (h : Int) < (H : Int) := by omega
          have CC := fun w1 (hb1 : Below wr.heap.size wr w1) => cCopyInts (some ⟨g, 0, none⟩) c A w1 (Ints.of_owns (RA.below hb1)) (by have := RA.len; omega)
          rw [RA.len] at CC
          go_wp2_with fail
          refine (CC _ (Below.refl _ _)).mono ?_
          rintro e w2 ⟨v2, rfl, ho2, hb2⟩
          obtain ⟨gN, cN, rfl, hgN, RN, -⟩ := row30_of ho2
          have RA2 := RA.below hb2
          have HB2 := btrans hb hb2
          have hne : g ≠ gN := by have := RA.lt; omega
          have hN0 : w.heap.size ≤ gN := by have := hb.size; omega
          have hS0 : Mins (Seen ts ⟨(fn : Int), m⟩ ch h A 0 0 1) A := hA.congr (fun n m => seen_start n m)
          have hA' := hide hA
          clear CC ho2 hb2 hb RA hA hgN
          go_wp2
          go_loopw [15] (fun ii wr => ∃ (i : Nat) (N : List Int), i ≤ ts.length ∧ ii = .int .i64 i ∧ Row30 wr g c A ∧ Row30 wr gN cN N ∧ Mins (Seen ts ⟨(fn : Int), m⟩ ch h A i 0 1) N ∧ Below w.heap.size w wr) (fun ii _ => ts.length - (intOf ii).toNat)
          case atStart => exact ⟨0, A, Nat.zero_le _, rfl, RA2, RN, hS0, HB2⟩
          case round =>
            clear RA2 RN hS0 HB2
            obtain ⟨i, N, hil, rfl, RA, RN, hS, hb⟩ := hrel
            by_cases hilt : i < ts.length
            · have hilt' : (i : Int) < (ts.length : Int) := by omega
              obtain ⟨b, off, n, cn, rfl, -, c2, hcn, hHl⟩ := hz.at hilt
              have c2' : wr.cell? ⟨b, off + i * 2 + 1, none⟩ = some (.slice n (ncA ts i) cn) := ble hb c2
              have hnc := (hg.len i hilt).2
              clear c2 hcn
              go_wp2
              go_loopw [17] (fun kk wr => ∃ (k : Nat) (N : List Int), k ≤ ncA ts i ∧ kk = .int .i64 k ∧ Row30 wr g c A ∧ Row30 wr gN cN N ∧ Mins (Seen ts ⟨(fn : Int), m⟩ ch h A i k (k + 1)) N ∧ Below w.heap.size w wr) (fun kk _ => ncA ts i - (intOf kk).toNat)
              case atStart => exact ⟨0, N, Nat.zero_le _, rfl, RA, RN, hS, hb⟩
              case round =>
                clear RA RN hS hb c2'
                obtain ⟨k, N, hkl, rfl, RA, RN, hS, hb⟩ := hrel
                by_cases hklt : k < ncA ts i
                · have hklt' : (k : Int) < (ncA ts i : Int) := by omega
                  obtain ⟨⟨hn0, hn1⟩, ha0, had, hd1⟩ := hg.rng i k hilt hklt
                  obtain ⟨b2, off2, rfl, q0, q1, q2⟩ := call_cells (hHl.below hb) hklt
                  obtain ⟨j, hj⟩ : ∃ j : Nat, (hcA ts i k).n = j := ⟨(hcA ts i k).n.toNat, by omega⟩
                  have hj30 : j < 30 := by omega
                  have hj30' : (j : Int) < 30 := by omega
                  have x0 := RA.cell hj30
                  have hcan : Can ts ⟨(fn : Int), m⟩ ch A i k ↔ (0 ≤ A.getD j 0 ∧ A.getD j 0 + (if (j : Int) = (fn : Int) then 0 else ch) ≤ (hcA ts i k).d) := by
                    unfold Can waitA atA
                    rw [hj, show ((j : Int)).toNat = j by omega]
                  have hA29 := mins_le hg hm1 hA'.out hj30
                  have hA0 := mins_ge hg hc0 hm0 hA'.out hj30
                  rw [hj] at q0
                  replace hcan := hide hcan
                  generalize hdk : (hcA ts i k).d = d at *
                  generalize A.getD j 0 = y at *
                  replace hj := hide hj
                  replace hdk := hide hdk
                  have hb2l : b2 < w.heap.size := by
                    obtain ⟨b3, off3, hE, p0, -⟩ := call_cells hHl hklt
                    simp only [Option.some.injEq, Addr.mk.injEq, and_true] at hE
                    obtain ⟨rfl, rfl⟩ := hE
                    exact cell_lt p0
                  clear hn0 hn1 ha0 had q1
                  by_cases hjf : fn = j
                  · rw [if_pos (by omega)] at hcan
                    subst hjf
                    have hw1 : IntKind.i64.wrap y = y := wrap_in _ (by omega) (by omega)
                    by_cases hy : y < 0
                    · have hS2 : Mins (Seen ts ⟨(fn : Int), m⟩ ch h A i (k + 1) (k + 1 + 1)) N := hS.congr (fun n m => seen_skip (fun hq => by have := hcan.out.1 hq; omega) n m)
                      clear hS hcan
                      go_wp2
                      go_roundw
                      case rel => exact ⟨k + 1, N, by omega, by go_num, RA, RN, hS2, hb⟩
                      case measure => simp [intOf]; omega
                    by_cases hdy : d < y
                    · have hS2 : Mins (Seen ts ⟨(fn : Int), m⟩ ch h A i (k + 1) (k + 1 + 1)) N := hS.congr (fun n m => seen_skip (fun hq => by have := hcan.out.1 hq; omega) n m)
                      clear hS hcan
                      go_wp2
                      go_roundw
                      case rel => exact ⟨k + 1, N, by omega, by go_num, RA, RN, hS2, hb⟩
                      case measure => simp [intOf]; omega
                    · have hcn2 : Can ts ⟨(fn : Int), m⟩ ch A i k := hcan.out.2 ⟨by omega, by omega⟩
                      have hwk : IntKind.i64.wrap ((k : Int) + 1) = (k : Int) + 1 := wrap_in _ (by omega) (by omega)
                      clear hcan
                      go_wp2
                      go_loopw [20] (fun mm wr => ∃ (l : Nat) (N : List Int), k + 1 ≤ l ∧ l ≤ ncA ts i ∧ mm = .int .i64 l ∧ Row30 wr g c A ∧ Row30 wr gN cN N ∧ Mins (Seen ts ⟨(fn : Int), m⟩ ch h A i k l) N ∧ Below w.heap.size w wr) (fun mm _ => ncA ts i - (intOf mm).toNat)
                      case atStart => exact ⟨k + 1, N, Nat.le_refl _, hklt, by go_num, RA, RN, hS, hb⟩
                      case round =>
                        clear RA RN hS hb q0 q2 x0
                        obtain ⟨l, N, hkl2, hll, rfl, RA, RN, hS, hb⟩ := hrel
                        by_cases hllt : l < ncA ts i
                        · have hllt' : (l : Int) < (ncA ts i : Int) := by omega
                          have hleg : LegIn ts i k l := ⟨hilt, by omega, hllt⟩
                          obtain ⟨⟨hn0, hn1⟩, ha0, had, hd2⟩ := hg.rng i l hilt hllt
                          obtain ⟨b3, off3, hE, p0, p1, -⟩ := call_cells (hHl.below hb) hllt
                          simp only [Option.some.injEq, Addr.mk.injEq, and_true] at hE
                          obtain ⟨rfl, rfl⟩ := hE
                          obtain ⟨jl, hjl⟩ : ∃ jl : Nat, (hcA ts i l).n = jl := ⟨(hcA ts i l).n.toNat, by omega⟩
                          have hjl30 : jl < 30 := by omega
                          have hjl30' : (jl : Int) < 30 := by omega
                          have z0 := RN.cell hjl30
                          have f0 := RN.frozen jl
                          have hS2 := leg_set hg hc0 hm0 hS hleg hcn2 hjl hjl30
                          have hS2' := leg_keep hg hc0 hm0 hS hleg hcn2 hjl hjl30
                          rw [hjl] at p0
                          have hb2ne : b2 ≠ gN := by omega
                          generalize (hcA ts i l).a = x at *
                          generalize N.getD jl 0 = z at *
                          replace hjl := hide hjl
                          clear hn0 hn1 ha0 had hd2
                          by_cases hz2 : z < 0
                          · have R2 := RN.set jl x
                            have R1 := RA.far (j := jl) (u := .int .i64 x) hne
                            have hb2 := below_set (o := jl) (v := .int .i64 x) hN0 hb
                            have hS3 := hS2 (.inl hz2)
                            clear RN RA hb hS hS2 hS2'
                            go_wp2_with fail
                            go_region
                            all_goals
                              go_wp2
                              go_roundw
                              case rel => exact ⟨l + 1, _, by omega, by omega, by go_num, R1, R2, hS3, hb2.drew⟩
                              case measure => simp [intOf]; omega
                          by_cases hx2 : x < z
                          · have R2 := RN.set jl x
                            have R1 := RA.far (j := jl) (u := .int .i64 x) hne
                            have hb2 := below_set (o := jl) (v := .int .i64 x) hN0 hb
                            have hS3 := hS2 (.inr hx2)
                            clear RN RA hb hS hS2 hS2'
                            go_wp2_with fail
                            go_region
                            all_goals
                              go_wp2
                              go_roundw
                              case rel => exact ⟨l + 1, _, by omega, by omega, by go_num, R1, R2, hS3, hb2.drew⟩
                              case measure => simp [intOf]; omega
                          · have hS3 := hS2' (by omega)
                            clear hS2 hS2' hS
                            go_wp2
                            go_roundw
                            case rel => exact ⟨l + 1, N, by omega, by omega, by go_num, RA, RN, hS3, hb⟩
                            case measure => simp [intOf]; omega
                        · have hllt' : ¬ (l : Int) < (ncA ts i : Int) := by omega
                          have hlk : l = ncA ts i := by omega
                          have hS2 : Mins (Seen ts ⟨(fn : Int), m⟩ ch h A i (k + 1) (k + 1 + 1)) N := by rw [hlk] at hS; exact hS.congr (fun n m => seen_call n m)
                          clear hS hlk
                          go_wp2
                          go_roundw
                          case rel => exact ⟨k + 1, N, by omega, by go_num, RA, RN, hS2, hb⟩
                          case measure => simp [intOf]; omega
                  · have hjf' : ¬ ((j : Int) = (fn : Int)) := by omega
                    rw [if_neg hjf'] at hcan
                    have hw1 : IntKind.i64.wrap (y + ch) = y + ch := wrap_in _ (by omega) (by omega)
                    by_cases hy : y < 0
                    · have hS2 : Mins (Seen ts ⟨(fn : Int), m⟩ ch h A i (k + 1) (k + 1 + 1)) N := hS.congr (fun n m => seen_skip (fun hq => by have := hcan.out.1 hq; omega) n m)
                      clear hS hcan
                      go_wp2
                      go_roundw
                      case rel => exact ⟨k + 1, N, by omega, by go_num, RA, RN, hS2, hb⟩
                      case measure => simp [intOf]; omega
                    by_cases hdy : d < y + ch
                    · have hS2 : Mins (Seen ts ⟨(fn : Int), m⟩ ch h A i (k + 1) (k + 1 + 1)) N := hS.congr (fun n m => seen_skip (fun hq => by have := hcan.out.1 hq; omega) n m)
                      clear hS hcan
                      go_wp2
                      go_roundw
                      case rel => exact ⟨k + 1, N, by omega, by go_num, RA, RN, hS2, hb⟩
                      case measure => simp [intOf]; omega
                    · have hcn2 : Can ts ⟨(fn : Int), m⟩ ch A i k := hcan.out.2 ⟨by omega, by omega⟩
                      have hwk : IntKind.i64.wrap ((k : Int) + 1) = (k : Int) + 1 := wrap_in _ (by omega) (by omega)
                      clear hcan
                      go_wp2
                      go_loopw [20] (fun mm wr => ∃ (l : Nat) (N : List Int), k + 1 ≤ l ∧ l ≤ ncA ts i ∧ mm = .int .i64 l ∧ Row30 wr g c A ∧ Row30 wr gN cN N ∧ Mins (Seen ts ⟨(fn : Int), m⟩ ch h A i k l) N ∧ Below w.heap.size w wr) (fun mm _ => ncA ts i - (intOf mm).toNat)
                      case atStart => exact ⟨k + 1, N, Nat.le_refl _, hklt, by go_num, RA, RN, hS, hb⟩
                      case round =>
                        clear RA RN hS hb q0 q2 x0
                        obtain ⟨l, N, hkl2, hll, rfl, RA, RN, hS, hb⟩ := hrel
                        by_cases hllt : l < ncA ts i
                        · have hllt' : (l : Int) < (ncA ts i : Int) := by omega
                          have hleg : LegIn ts i k l := ⟨hilt, by omega, hllt⟩
                          obtain ⟨⟨hn0, hn1⟩, ha0, had, hd2⟩ := hg.rng i l hilt hllt
                          obtain ⟨b3, off3, hE, p0, p1, -⟩ := call_cells (hHl.below hb) hllt
                          simp only [Option.some.injEq, Addr.mk.injEq, and_true] at hE
                          obtain ⟨rfl, rfl⟩ := hE
                          obtain ⟨jl, hjl⟩ : ∃ jl : Nat, (hcA ts i l).n = jl := ⟨(hcA ts i l).n.toNat, by omega⟩
                          have hjl30 : jl < 30 := by omega
                          have hjl30' : (jl : Int) < 30 := by omega
                          have z0 := RN.cell hjl30
                          have f0 := RN.frozen jl
                          have hS2 := leg_set hg hc0 hm0 hS hleg hcn2 hjl hjl30
                          have hS2' := leg_keep hg hc0 hm0 hS hleg hcn2 hjl hjl30
                          rw [hjl] at p0
                          have hb2ne : b2 ≠ gN := by omega
                          generalize (hcA ts i l).a = x at *
                          generalize N.getD jl 0 = z at *
                          replace hjl := hide hjl
                          clear hn0 hn1 ha0 had hd2
                          by_cases hz2 : z < 0
                          · have R2 := RN.set jl x
                            have R1 := RA.far (j := jl) (u := .int .i64 x) hne
                            have hb2 := below_set (o := jl) (v := .int .i64 x) hN0 hb
                            have hS3 := hS2 (.inl hz2)
                            clear RN RA hb hS hS2 hS2'
                            go_wp2_with fail
                            go_region
                            all_goals
                              go_wp2
                              go_roundw
                              case rel => exact ⟨l + 1, _, by omega, by omega, by go_num, R1, R2, hS3, hb2.drew⟩
                              case measure => simp [intOf]; omega
                          by_cases hx2 : x < z
                          · have R2 := RN.set jl x
                            have R1 := RA.far (j := jl) (u := .int .i64 x) hne
                            have hb2 := below_set (o := jl) (v := .int .i64 x) hN0 hb
                            have hS3 := hS2 (.inr hx2)
                            clear RN RA hb hS hS2 hS2'
                            go_wp2_with fail
                            go_region
                            all_goals
                              go_wp2
                              go_roundw
                              case rel => exact ⟨l + 1, _, by omega, by omega, by go_num, R1, R2, hS3, hb2.drew⟩
                              case measure => simp [intOf]; omega
                          · have hS3 := hS2' (by omega)
                            clear hS2 hS2' hS
                            go_wp2
                            go_roundw
                            case rel => exact ⟨l + 1, N, by omega, by omega, by go_num, RA, RN, hS3, hb⟩
                            case measure => simp [intOf]; omega
                        · have hllt' : ¬ (l : Int) < (ncA ts i : Int) := by omega
                          have hlk : l = ncA ts i := by omega
                          have hS2 : Mins (Seen ts ⟨(fn : Int), m⟩ ch h A i (k + 1) (k + 1 + 1)) N := by rw [hlk] at hS; exact hS.congr (fun n m => seen_call n m)
                          clear hS hlk
                          go_wp2
                          go_roundw
                          case rel => exact ⟨k + 1, N, by omega, by go_num, RA, RN, hS2, hb⟩
                          case measure => simp [intOf]; omega
                · have hklt' : ¬ (k : Int) < (ncA ts i : Int) := by omega
                  have hkk : k = ncA ts i := by omega
                  have hS2 : Mins (Seen ts ⟨(fn : Int), m⟩ ch h A (i + 1) 0 1) N := by rw [hkk] at hS; exact hS.congr (fun n m => seen_trip n m)
                  clear hS hkk
                  go_wp2
                  go_roundw
                  case rel => exact ⟨i + 1, N, by omega, by go_num, RA, RN, hS2, hb⟩
                  case measure => simp [intOf]; omega
            · have hilt' : ¬ (i : Int) < (ts.length : Int) := by omega
              obtain rfl : i = ts.length := by omega
              have hA2 : Mins (reachP ts ⟨(fn : Int), m⟩ ch (h + 1)) N := hS.congr (fun n m => seen_all hg hc0 hm0 hA'.out n m)
              clear hS RA
              go_wp2
              go_roundw
              case rel => exact ⟨h + 1, gN, cN, N, by omega, by go_num, rfl, hN0, RN, hA2, hb⟩
              case measure => simp [intOf]; omega
        · have hlt' : ¬ (h : Int) < (H : Int) := by omega
          obtain rfl : h = H := by omega
          go_wp2
          go_ret
          exact ⟨_, rfl, A, hA, RA.own hg0, hb⟩
end Go.Proofs.YtajeiiebddnchaaGreatDoor
