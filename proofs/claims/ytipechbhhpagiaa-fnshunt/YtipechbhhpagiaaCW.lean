/- A shunt in the yard of the program. -/
import Derived.Test.YtipechbhhpagiaaCX
import Derived.BigQuiet
namespace Go.Proofs.Ytipechbhhpagiaa
open Go.RowKit
theorem code_bad {room : List Int} {rows : List (List Int)} {x : ShV} (h : ¬ (inB x.f 0 ((rows.length : Int) - 1) = true ∧ inB x.t 0 ((rows.length : Int) - 1) = true ∧ x.f ≠ x.t ∧ 1 ≤ x.m)) : codeS room rows x = 1 ∧ leftS room rows x = rows := by
  have h1 : codeS room rows x = 1 := by unfold codeS; rw [if_neg h]
  exact ⟨h1, by unfold leftS; rw [h1]; rfl⟩
theorem code_few {room : List Int} {rows : List (List Int)} {x : ShV} (h : inB x.f 0 ((rows.length : Int) - 1) = true ∧ inB x.t 0 ((rows.length : Int) - 1) = true ∧ x.f ≠ x.t ∧ 1 ≤ x.m) (h2 : ((rwA rows x.f.toNat).length : Int) < x.m) : codeS room rows x = 2 ∧ leftS room rows x = rows := by
  have h1 : codeS room rows x = 2 := by unfold codeS; rw [if_pos h, if_pos h2]
  exact ⟨h1, by unfold leftS; rw [h1]; rfl⟩
theorem code_full {room : List Int} {rows : List (List Int)} {x : ShV} (h : inB x.f 0 ((rows.length : Int) - 1) = true ∧ inB x.t 0 ((rows.length : Int) - 1) = true ∧ x.f ≠ x.t ∧ 1 ≤ x.m) (h2 : ¬ ((rwA rows x.f.toNat).length : Int) < x.m) (h3 : room.getD x.t.toNat 0 < (rwA rows x.t.toNat).length + x.m) : codeS room rows x = 3 ∧ leftS room rows x = rows := by
  have h1 : codeS room rows x = 3 := by unfold codeS; rw [if_pos h, if_neg h2, if_pos h3]
  exact ⟨h1, by unfold leftS; rw [h1]; rfl⟩
theorem code_done {room : List Int} {rows : List (List Int)} {x : ShV} (h : inB x.f 0 ((rows.length : Int) - 1) = true ∧ inB x.t 0 ((rows.length : Int) - 1) = true ∧ x.f ≠ x.t ∧ 1 ≤ x.m) (h2 : ¬ ((rwA rows x.f.toNat).length : Int) < x.m) (h3 : ¬ room.getD x.t.toNat 0 < (rwA rows x.t.toNat).length + x.m) : codeS room rows x = 0 ∧ leftS room rows x = moveR rows x.f.toNat x.t.toNat x.m.toNat := by
  have h1 : codeS room rows x = 0 := by unfold codeS; rw [if_pos h, if_neg h2, if_neg h3]
  exact ⟨h1, by unfold leftS; rw [h1]; rfl⟩
/-- What a shunt leaves, and tells. -/
def ShPost (B Y : Nat) (rv v : Value) (room : List Int) (rows : List (List Int)) (x : ShV) (w : World) (e : Ending) (w' : World) : Prop :=
  e = .returned (.int .i64 (codeS room rows x)) ∧ (∃ vs', YardO B w' Y rv v vs' room (leftS room rows x)) ∧ Below B w w'
theorem shPost_no {B Y : Nat} {rv v : Value} {vs : List Value} {room : List Int} {rows : List (List Int)} {x : ShV} {w w' : World} {c : Int} (h : codeS room rows x = c ∧ leftS room rows x = rows) (hY : YardO B w' Y rv v vs room rows) (hb : Below B w w') : ShPost B Y rv v room rows x w (.returned (.int .i64 c)) w' :=
  ⟨by rw [h.1], ⟨vs, by rw [h.2]; exact hY⟩, hb⟩
set_option maxRecDepth 20000 in
set_option maxHeartbeats 12800000 in
theorem cShunt (B Y : Nat) (rv v : Value) (vs : List Value) (room : List Int) (rows : List (List Int)) (x : ShV) (w : World) (h : YardO B w Y rv v vs room rows) (hP : SidP room rows) :
    Calls Try.prog 53 #[.pointer (some ⟨Y, 0, none⟩), x.val] w (ShPost B Y rv v room rows x w) := by
  have lR : rows.length ≤ 1048576 := by have := hP.n6; omega
  have hB := h.size
  obtain ⟨xf, xt, xm⟩ := x
  unfold ShV.val
  dsimp only
  have hW := balloc w (.cells #[.int .i64 xf, .int .i64 xt, .int .i64 xm] 37)
  have HB : Below B w (w.alloc (.cells #[.int .i64 xf, .int .i64 xt, .int .i64 xm] 37)) := hW.mono hB
  have hY := h.keep hW
  have CH := fun y => cHasRow B Y rv v vs room rows y _ hY lR
  have K0 := heap_alloc_new w (.cells #[.int .i64 xf, .int .i64 xt, .int .i64 xm] 37)
  have R1 := fun hh => hide (shPost_no (w := w) (code_bad (room := room) (rows := rows) (x := ⟨xf, xt, xm⟩) hh) hY HB)
  clear hW h
  cases h1 : inB xf 0 ((rows.length : Int) - 1)
  · have R := R1 (fun q => by rw [show inB (ShV.mk xf xt xm).f 0 ((rows.length : Int) - 1) = false from h1] at q; simp at q)
    clear R1
    go_enter Try.func53, Try.ntmps53
    go_wp2_with (first | (go_at_call 77; refine (CH _).mono ?_; rintro e w9 ⟨rfl, hw9⟩; subst w9))
    go_ret
    exact R.out
  cases h2 : inB xt 0 ((rows.length : Int) - 1)
  · have R := R1 (fun q => by rw [show inB (ShV.mk xf xt xm).t 0 ((rows.length : Int) - 1) = false from h2] at q; simp at q)
    clear R1
    go_enter Try.func53, Try.ntmps53
    go_wp2_with (first | (go_at_call 77; refine (CH _).mono ?_; rintro e w9 ⟨rfl, hw9⟩; subst w9))
    go_ret
    exact R.out
  by_cases h3 : xf = xt
  · have R := R1 (fun q => q.2.2.1 h3)
    clear R1
    subst h3
    go_enter Try.func53, Try.ntmps53
    go_wp2_with (first | (go_at_call 77; refine (CH _).mono ?_; rintro e w9 ⟨rfl, hw9⟩; subst w9))
    go_ret
    exact R.out
  by_cases h4 : xm < 1
  · have R := R1 (fun q => by have : 1 ≤ xm := q.2.2.2; omega)
    clear R1
    go_enter Try.func53, Try.ntmps53
    go_wp2_with (first | (go_at_call 77; refine (CH _).mono ?_; rintro e w9 ⟨rfl, hw9⟩; subst w9))
    go_ret
    exact R.out
  clear R1
  have hok : inB (ShV.mk xf xt xm).f 0 ((rows.length : Int) - 1) = true ∧ inB (ShV.mk xf xt xm).t 0 ((rows.length : Int) - 1) = true ∧ (ShV.mk xf xt xm).f ≠ (ShV.mk xf xt xm).t ∧ 1 ≤ (ShV.mk xf xt xm).m := ⟨h1, h2, h3, by show 1 ≤ xm; omega⟩
  have g1 := inB_true h1
  have g2 := inB_true h2
  obtain ⟨f, rfl⟩ : ∃ f : Nat, xf = f := ⟨xf.toNat, by omega⟩
  obtain ⟨t, rfl⟩ : ∃ t : Nat, xt = t := ⟨xt.toNat, by omega⟩
  have hfl : f < rows.length := by omega
  have htl : t < rows.length := by omega
  have hft : f ≠ t := fun e => h3 (by rw [e])
  have hvl := hide hY.tab.len
  have hfv : f < vs.length := by have := hvl.out; omega
  have htv : t < vs.length := by have := hvl.out; omega
  obtain ⟨T, tc, rfl⟩ : ∃ T tc, v = .slice (some ⟨T, 0, none⟩) rows.length tc := by
    rcases hY.tab.own.2 with ⟨_, e2⟩ | ⟨g, cc, _, e, _⟩
    · omega
    · exact ⟨g, cc, e⟩
  have hrf := hY.tab.each f hfv
  have hrt := hY.tab.each t htv
  obtain ⟨fa, fc, hvf, -, hfc, -⟩ := hrf.form
  obtain ⟨ta, tcc, hvt, -, -⟩ := hrt.form
  have pf := hY.tab.cell hfv
  have pt := hY.tab.cell htv
  rw [hvf] at pf
  rw [hvt] at pt
  obtain ⟨ra, rc, hrv, hIr, -⟩ := hY.room.form
  obtain ⟨rb, ro, rfl, hrc⟩ : ∃ b off, ra = some ⟨b, off, none⟩ ∧ ∀ i, i < room.length → (w.alloc (.cells #[.int .i64 f, .int .i64 t, .int .i64 xm] 37)).cell? ⟨b, off + i, none⟩ = some (Value.int .i64 (room.getD i 0)) := by
    rcases hIr with q | q
    · have := hP.len; simp [q] at this; omega
    · exact q
  have pr := hrc t (by have := hP.len; omega)
  obtain ⟨⟨y0, y1⟩, -⟩ := blk2 hY.blk
  rw [hrv] at y0
  have x0 : (w.alloc (.cells #[.int .i64 f, .int .i64 t, .int .i64 xm] 37)).cell? ⟨w.heap.size, 0, none⟩ = some (.int .i64 f) := by rw [cell_blk K0]; rfl
  have x1 : (w.alloc (.cells #[.int .i64 f, .int .i64 t, .int .i64 xm] 37)).cell? ⟨w.heap.size, 1, none⟩ = some (.int .i64 t) := by rw [cell_blk K0]; rfl
  have x2 : (w.alloc (.cells #[.int .i64 f, .int .i64 t, .int .i64 xm] 37)).cell? ⟨w.heap.size, 2, none⟩ = some (.int .i64 xm) := by rw [cell_blk K0]; rfl
  have hlF := hP.len40 hfl
  have hlT := hP.len40 htl
  have hrm := rowB_iff.1 (hP.row t htl)
  have htr : t < room.length := by have := hP.len; omega
  have R2 := fun n n' hh => hide (shPost_no (w := w) (code_few (room := room) (rows := rows) (x := ⟨f, t, xm⟩) hok hh) ((hY.keep (bdraw (Below.refl _ _) n)).keep (bdraw (Below.refl _ _) n')) (bdraw (bdraw HB n) n'))
  have R3 := fun n n' n'' hh h9 => hide (shPost_no (w := w) (code_full (room := room) (rows := rows) (x := ⟨f, t, xm⟩) hok hh h9) (((hY.keep (bdraw (Below.refl _ _) n)).keep (bdraw (Below.refl _ _) n')).keep (bdraw (Below.refl _ _) n'')) (bdraw (bdraw (bdraw HB n) n') n''))
  have R4 := fun hh h9 => hide (code_done (room := room) (rows := rows) (x := ⟨f, t, xm⟩) hok hh h9)
  dsimp only [Int.toNat_natCast] at R2 R3 R4
  have hroom := hide (show (room.getD t 0 : Int) ≤ 40 from hrm.2.1)
  have hrlH := hide hP.len
  clear hrc hIr hok g1 g2 hP
  generalize hLF : (rwA rows f).length = LF at *
  generalize hLT : (rwA rows t).length = LT at *
  generalize hrk : room.getD t 0 = rk at *
  have hrk1 : rk ≤ 40 := hroom.out
  have hrk0 : 1 ≤ rk := hrm.1
  have n3 : ((f : Int) == (t : Int)) = false := by simp only [beq_eq_false_iff_ne]; exact h3
  clear hrm
  by_cases hfew : (LF : Int) < xm
  · have R := fun n n' => R2 n n' hfew
    clear R2 R3 R4
    subst hrv
    go_enter Try.func53, Try.ntmps53
    go_wp2_with (first | (go_at_call 77; refine (CH _).mono ?_; rintro e w9 ⟨rfl, hw9⟩; subst w9))
    go_quiet (fail)
    go_wp2
    go_quiet (fail)
    go_wp2
    go_ret
    exact (R _ _).out
  by_cases hfull : rk < (LT : Int) + xm
  · have R := fun n n' n'' => R3 n n' n'' hfew hfull
    clear R2 R3 R4
    subst hrv
    have hwr : IntKind.i64.wrap ((LT : Int) + xm) = (LT : Int) + xm := wrap_in _ (by omega) (by omega)
    go_enter Try.func53, Try.ntmps53
    go_wp2_with (first | (go_at_call 77; refine (CH _).mono ?_; rintro e w9 ⟨rfl, hw9⟩; subst w9))
    go_quiet (fail)
    go_wp2
    go_quiet (fail)
    go_wp2
    go_quiet (fail)
    go_wp2
    go_ret
    exact (R _ _ _).out
  have hD := R4 hfew hfull
  clear R2 R3 R4
  obtain ⟨m, rfl⟩ : ∃ m : Nat, xm = m := ⟨xm.toNat, by omega⟩
  obtain ⟨K, hK⟩ : ∃ K, K + m = LF := ⟨LF - m, by omega⟩
  have hwr : IntKind.i64.wrap ((LT : Int) + (m : Int)) = (LT : Int) + (m : Int) := wrap_in _ (by omega) (by omega)
  have hLF1 : 1 ≤ (rwA rows f).length := by omega
  obtain ⟨g, fc', -, hvf2, -⟩ := hrf.block hLF1
  rw [hLF, hvf] at hvf2
  simp only [Value.slice.injEq] at hvf2
  obtain ⟨rfl, -, rfl⟩ := hvf2
  have hrfH := hide hrf
  have CD : ∀ n, Calls Try.prog 79 #[.pointer (some ⟨T, f, none⟩), .int .i64 m] ((w.alloc (.cells #[.int .i64 f, .int .i64 t, .int .i64 m] 37)).drewN n) fun e w' => e = .returned (.slice (some ⟨g, K, none⟩) m m) ∧ YardO B w' Y rv (.slice (some ⟨T, 0, none⟩) rows.length tc) (vs.set f (.slice (some ⟨g, 0, none⟩) K K)) room (setR rows f ((rwA rows f).take K)) ∧ Ints w' (some ⟨g, K, none⟩) ((rwA rows f).drop K) ∧ Below B w w' := fun n => by
    have hYn := hY.keep (bdraw (Below.refl _ _) n)
    have pn := hYn.tab.cell hfv
    rw [hvf] at pn
    have hrn := hYn.tab.each f hfv
    rw [hvf, ← hLF] at hrn
    have hcut := hrn.cut (K := K) (by omega) hLF1
    have htl2 := hrn.tail K
    have hlt9 := hYn.turn hfv (World.grownBy.refl _ _) hcut (.inl (by rw [hvf]; rfl))
    have hTne : ∀ k, (Value.slice (some ⟨g, 0, none⟩) (rwA rows f).length fc).ownBlock = some k → k ≠ T := fun k hk e => row_apart hYn.tab.own hrn (by decide) k hk (by rw [e]; rfl)
    have hI9 : Ints (((w.alloc (.cells #[.int .i64 f, .int .i64 t, .int .i64 m] 37)).drewN n).setCell ⟨T, f, none⟩ (.slice (some ⟨g, 0, none⟩) K K)) (some ⟨g, K, none⟩) ((rwA rows f).drop K) := (hrn.same (fun k hk => heap_setCell (hTne k hk))).tail K
    refine (cDraw T f g LF K m fc _ pn ((hYn.tab.ownN rfl).frozenAt f) (by omega) hK (by omega) (by omega)).mono ?_
    rintro e w9 ⟨rfl, rfl⟩
    exact ⟨rfl, hlt9, hI9, below_set (hYn.tab.own.lt T rfl).1 (bdraw HB n)⟩
  have hvtH := hide hvt
  have hvfH := hide hvf
  have hLTH := hide hLT
  have hLFH := hide hLF
  have hlen9 : Hid (((rwA rows f).drop K).length = m) := hide (by rw [List.length_drop]; omega)
  have hrvH := hide hrv
  have hKH := hide hK
  clear hLF hLT hvt hvf hrf hrt hlF hlT hK
  subst hrv
  go_enter Try.func53, Try.ntmps53
  go_wp2_with (first | (go_at_call 77; refine (CH _).mono ?_; rintro e w9 ⟨rfl, hw9⟩; subst w9))
  go_quiet (fail)
  go_wp2
  go_quiet (fail)
  go_wp2
  go_quiet (fail)
  go_wp2_with fail
  refine (CD _).mono ?_
  rintro e w2 ⟨rfl, hY2, hI2, hB2⟩
  clear CD hY HB x0 x1 x2 y0 y1 pf pt pr CH K0
  have htv2 : t < (vs.set f (Value.slice (some ⟨g, 0, none⟩) K K)).length := by rw [List.length_set]; exact htv
  have hr2 := hY2.tab.each t htv2
  rw [List.getElem_set_ne hft, rwA_set hfl, if_neg (fun e => hft e.symm)] at hr2
  have hl3 : (rwA rows t).length + ((rwA rows f).drop K).length ≤ 1000000000 := by rw [hlen9.out, hLTH.out]; omega
  obtain ⟨v2, w3, hrun, hrow, hgrow, hwhere⟩ := app_row hr2 (some ⟨g, K, none⟩) m hI2 hl3 hY2.size
  rw [hlen9.out] at hrun
  obtain ⟨a2, c2, rfl, -⟩ := hrow.form
  have hge : (vs.set f (Value.slice (some ⟨g, 0, none⟩) K K))[t] = vs[t] := List.getElem_set_ne hft _
  have hY3 := hY2.turn htv2 (by rw [hge]; exact hgrow) hrow (by rw [hge]; exact hwhere.imp id (fun e k hk => Nat.le_of_eq (by rw [e] at hk; exact Option.some.inj hk)))
  have hmv : setR (setR rows f ((rwA rows f).take K)) t (rwA rows t ++ (rwA rows f).drop K) = moveR rows f t m := by
    rw [setR_comm hft]
    unfold moveR
    rw [show (rwA rows f).length - m = K by rw [hLFH.out]; have := hKH.out; omega]
  rw [hmv] at hY3
  have pc2 := hY2.tab.cell htv2
  rw [hge] at pc2
  have hT2 := hY2.tab.apart (by decide) t htv2
  rw [hge] at hT2
  have hTw : T < w2.heap.size := owns_lt (hY2.tab.ownN (by rw [setR_len]))
  have hc3 : w3.cell? ⟨T, t, none⟩ = some vs[t] := by
    rw [World.cell?_of_block (w := w2) (hgrow.block T hTw (fun e => hT2 T e.symm rfl))]
    exact pc2
  have hf3 : w3.frozen? ⟨T, t, none⟩ = false := by
    rw [World.frozen?_of_block (w := w2) (hgrow.block T hTw (fun e => hT2 T e.symm rfl))]
    exact (hY2.tab.ownN (by rw [setR_len])).frozenAt t
  have CP := cPush T t vs[t] a2 _ c2 (some ⟨g, K, none⟩) m m w2 w3 pc2 hrun hc3 hf3
  have HB3 : Below B w (w3.setCell ⟨T, t, none⟩ (.slice a2 (rwA rows t ++ (rwA rows f).drop K).length c2)) := below_set (hY2.tab.own.lt T rfl).1 (hB2.grown hgrow hY2.size (fun k hk => (hr2.blk k hk).1))
  clear hI2 hr2 hrun hrow hgrow hwhere pc2 hT2 hc3 hf3 hge hY2 hB2
  generalize (rwA rows t ++ (rwA rows f).drop K).length = N2 at *
  go_wp2_with fail
  refine CP.mono ?_
  rintro e w5 ⟨rfl, rfl⟩
  go_wp2
  go_ret
  exact ⟨by rw [hD.out.1]; rfl, ⟨_, by rw [hD.out.2]; exact hY3⟩, HB3⟩
end Go.Proofs.Ytipechbhhpagiaa
