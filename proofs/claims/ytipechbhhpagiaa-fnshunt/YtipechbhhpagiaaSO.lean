/- ShuntOne of the model. -/
import Derived.Test.YtipechbhhpagiaaSC
import Derived.BigQuiet
namespace Go.Proofs.Ytipechbhhpagiaa
open Go.RowKit
theorem OwnAll.below {B : Nat} {w w' : World} {vs : List Value} {rows : List (List Int)} (h : OwnAll B w vs rows) (hb : Below w.heap.size w w') : OwnAll B w' vs rows := fun j hj => own_keep (h j hj) hb
theorem SidO.turn {B g c n : Nat} {w w2 : World} {rv u : Value} {vs : List Value} {room ys : List Int} {rows : List (List Int)} (h : SidO B w rv (.slice (some ⟨g, 0, none⟩) n c) vs room rows) {j : Nat} (hj : j < vs.length)
    (hg : w.grownBy w2 vs[j].ownBlock) (hr : RowI w2 B u ys) (hw : u.ownBlock = vs[j].ownBlock ∨ ∀ k, u.ownBlock = some k → w.heap.size ≤ k) :
    SidO B (w2.setCell ⟨g, j, none⟩ u) rv (.slice (some ⟨g, 0, none⟩) n c) (vs.set j u) room (setR rows j ys) := by
  have hP := h.tab.put (by decide) hj hg hr hw
  have hRf := h.room.far hg (fun k hk e => h.far j hj k e hk)
  have hTg : ∀ k, rv.ownBlock = some k → k ≠ g := fun k hk e => row_apart h.tab.own h.room (by decide) k hk (by rw [e]; rfl)
  refine ⟨hRf.same (fun k hk => heap_setCell (hTg k hk)), hP, fun i hi k hk => ?_⟩
  rw [List.length_set] at hi
  by_cases e : i = j
  · subst e
    rw [List.getElem_set_self] at hk
    rcases hw with hw | hw
    · exact h.far i hj k (hw ▸ hk)
    · intro e2; have := (h.room.blk k e2).2.1; have := hw k hk; omega
  · rw [List.getElem_set_ne (fun q => e q.symm)] at hk
    exact h.far i hi k hk
theorem keepBlk {B T n b j N c : Nat} {w w3 : World} {u u2 : Value} {vs l : List Value} {cs : Array Value} {ty : TypeId} (hot : w.ownsRow B 3 1 u N l) (hT : w.ownsRow B 24 1 (.slice (some ⟨T, 0, none⟩) n c) n vs) (hgrow : w.grownBy w3 u.ownBlock) (hb : w.heap[b]? = some (.cells cs ty (0, 0))) (h1 : ty ≠ 3) (h2 : ty ≠ 24) :
    w3.heap[b]? = some (.cells cs ty (0, 0)) ∧ (w3.setCell ⟨T, j, none⟩ u2).heap[b]? = some (.cells cs ty (0, 0)) := by
  have q : w3.heap[b]? = some (.cells cs ty (0, 0)) := (hgrow.block b (lt_of_block hb) (fun e => own_blk_ne hot hb h1 b e.symm rfl)).trans hb
  exact ⟨q, (heap_setCell (fun e => own_blk_ne hT hb h2 T rfl e.symm)).trans q⟩
theorem OwnAll.turn {B g c n : Nat} {w w2 : World} {rv u : Value} {vs : List Value} {room ys : List Int} {rows : List (List Int)} (hS : SidO B w rv (.slice (some ⟨g, 0, none⟩) n c) vs room rows) (h : OwnAll B w vs rows) {j : Nat} (hj : j < vs.length)
    (hg : w.grownBy w2 vs[j].ownBlock) (hr : w2.ownsRow B 3 1 u ys.length (enc ys)) : OwnAll B (w2.setCell ⟨g, j, none⟩ u) (vs.set j u) (setR rows j ys) := by
  have hl := hS.tab.len
  have hT2 : w2.ownsRow B 24 1 (.slice (some ⟨g, 0, none⟩) n c) rows.length vs := own_far hS.tab.own hg (fun k hk e => hS.tab.apart (by decide) j hj k e.symm hk)
  have ne : ∀ (v : Value) (xs : List Int), w2.ownsRow B 3 1 v xs.length (enc xs) → ∀ k, v.ownBlock = some k → k ≠ g := fun v xs hv k hk e => by
    obtain ⟨-, -, c1, h1⟩ := own_type hv k hk
    obtain ⟨-, -, c2, h2⟩ := own_type hT2 g rfl
    subst e
    rw [h1] at h2
    simp only [Option.some.injEq, Obj.cells.injEq] at h2
    exact absurd h2.2.1 (by decide)
  intro i hi
  have hi0 : i < vs.length := by simpa using hi
  rw [rwA_set (by omega)]
  by_cases e : i = j
  · subst e
    rw [if_pos rfl, List.getElem_set_self]
    exact own_same hr (fun k hk => heap_setCell (ne _ _ hr k hk))
  · rw [if_neg e, List.getElem_set_ne (fun q => e q.symm)]
    have h2 := own_far (h i hi0) hg (fun k hk e1 => hS.tab.pair i j hi0 hj e k hk e1.symm)
    exact own_same h2 (fun k hk => heap_setCell (ne _ _ h2 k hk))
theorem setR_self {rows : List (List Int)} {t : Nat} (h : t < rows.length) : setR rows t (rwA rows t) = rows := rows_ext (setR_len _ _ _) (fun i _ => by
  rw [rwA_set h]
  by_cases e : i = t
  · subst e; rw [if_pos rfl]
  · rw [if_neg e])
theorem setR_twice {rows : List (List Int)} {t : Nat} {x y : List Int} : setR (setR rows t x) t y = setR rows t y := by unfold setR; exact List.set_set ..
/-- What the model's ShuntOne tells. -/
def OnePost (w : World) (room : List Int) (rows : List (List Int)) (x : ShV) : Ending → World → Prop := AnsSid w room (oneR room rows x) (.int .i64 (oneC room rows x))
theorem one_code {room : List Int} {rows : List (List Int)} {x : ShV} (hP : SidP room rows) {c : Int} (h : codeS room rows x = c ∧ leftS room rows x = rows) : oneC room rows x = c ∧ oneR room rows x = rows := ⟨(one_yes hP x).1.trans h.1, (one_yes hP x).2.trans h.2⟩

set_option maxRecDepth 20000 in
set_option maxHeartbeats 12800000 in
theorem cOneS (ra : Option Addr) (rc : Nat) (room : List Int) (a : Option Addr) (c : Nat) (us : List Value) (rows : List (List Int)) (x : ShV) (w : World) (hM : Ints w ra room) (hR : RowsW w a us rows) (lM : room.length ≤ 1048576) (lR : rows.length ≤ 1048576) (lr : ∀ i, i < rows.length → (rwA rows i).length ≤ 1048576) :
    Calls Try.prog 32 #[.agg #[.slice ra room.length rc, .slice a rows.length c], x.val] w (OnePost w room rows x) := by
  obtain ⟨xf, xt, xm⟩ := x
  obtain ⟨HB, A0, A1, A2, hz⟩ := al3 w (.cells #[.slice ra room.length rc, .slice a rows.length c] 27) (.cells #[.int .i64 xf, .int .i64 xt, .int .i64 xm] 37) (.cells #[.slice none 0 0, .slice none 0 0] 27)
  have R0 := fun h => hide (one_no (room := room) (rows := rows) h ⟨xf, xt, xm⟩)
  unfold ShV.val
  dsimp only
  go_enter Try.func32, Try.ntmps32
  go_wp2_with fail
  generalize (((w.alloc (Obj.cells #[Value.slice ra room.length rc, Value.slice a rows.length c] 27)).alloc (Obj.cells #[Value.int IntKind.i64 xf, Value.int IntKind.i64 xt, Value.int IntKind.i64 xm] 37)).alloc (Obj.cells #[Value.slice none 0 0, Value.slice none 0 0] 27)) = W at *
  refine (cCopyS ra rc room a c us rows W (hM.below HB) (hR.below HB) lM lR lr).mono ?_
  rintro e w1 ⟨ra2, rc2, a2, c2, vs, rfl, hS, hA, hb⟩
  replace HB := btrans HB hb
  replace A0 := blk_keep hb A0
  replace A1 := blk_keep hb A1
  replace A2 := blk_keep hb A2
  have hOz : w.heap.size + 1 + 1 < w1.heap.size := lt_of_block A2
  clear hb
  have hb := balloc w1 (.cells #[.slice ra2 room.length rc2, .slice a2 rows.length c2] 27)
  have KO := heap_alloc_new w1 (.cells #[.slice ra2 room.length rc2, .slice a2 rows.length c2] 27)
  replace HB := btrans HB hb
  replace A0 := blk_keep hb A0
  replace A1 := blk_keep hb A1
  replace A2 := blk_keep hb A2
  replace hS := hS.below hb
  replace hA := OwnAll.below hA hb
  clear hb
  obtain ⟨⟨x0, x1⟩, -⟩ := blk2 A0
  have CS := fun w h1 h2 => cSidS ra rc room a c us rows w h1 h2 lr
  unfold sidVal at CS
  go_wp2_with fail
  refine (CS _ (hM.below HB) (hR.below HB)).mono ?_
  rintro e w2 ⟨rfl, hb⟩
  replace HB := btrans HB hb
  replace A0 := blk_keep hb A0
  replace A1 := blk_keep hb A1
  replace A2 := blk_keep hb A2
  replace KO := blk_keep hb KO
  replace hS := hS.below hb
  replace hA := OwnAll.below hA hb
  clear hb
  generalize hO : w1.heap.size = O at *
  clear CS x0 x1
  cases hok : sidB room rows
  · have R := R0 hok
    clear R0
    obtain ⟨⟨o0, o1⟩, -⟩ := blk2 KO
    obtain ⟨⟨r0, r1⟩, f0, f1⟩ := blk2 A2
    have hSV := hS.box (p := .slice ra2 room.length rc2) (q := .slice a2 rows.length c2) A2
    have KV := box_set (p := .slice ra2 room.length rc2) (q := .slice a2 rows.length c2) A2
    have HBV : Below w.heap.size w ((w2.setCell ⟨w.heap.size + 1 + 1, 0, none⟩ (.slice ra2 room.length rc2)).setCell ⟨w.heap.size + 1 + 1, 1, none⟩ (.slice a2 rows.length c2)) := below_set (by omega) (below_set (by omega) HB)
    obtain ⟨⟨v0, v1⟩, -⟩ := blk2 KV
    clear hS HB KV KO A0 A2 hA
    go_wp2
    generalize (w2.setCell ⟨w.heap.size + 1 + 1, 0, none⟩ (.slice ra2 room.length rc2)).setCell ⟨w.heap.size + 1 + 1, 1, none⟩ (.slice a2 rows.length c2) = V at *
    refine bodyPost_ret (v := .tuple #[.agg #[.slice ra2 room.length rc2, .slice a2 rows.length c2], .int .i64 1]) (by simp [results, Try.results32, v0, v1, go_sem]) rfl ?_
    exact ⟨_, _, _, by rw [R.out.1], by rw [R.out.2]; exact hSV.base (by omega), HBV⟩
  have hP := sidB_iff.1 hok
  clear R0
  have R1 := fun h => hide (one_code hP (code_bad (room := room) (rows := rows) (x := ⟨xf, xt, xm⟩) h))
  have x0 : w2.cell? ⟨w.heap.size, 1, none⟩ = some (.slice a rows.length c) := by rw [cell_blk A0]; rfl
  have m0 : w2.cell? ⟨w.heap.size + 1, 0, none⟩ = some (.int .i64 xf) := by rw [cell_blk A1]; rfl
  have m1 : w2.cell? ⟨w.heap.size + 1, 1, none⟩ = some (.int .i64 xt) := by rw [cell_blk A1]; rfl
  have m2 : w2.cell? ⟨w.heap.size + 1, 2, none⟩ = some (.int .i64 xm) := by rw [cell_blk A1]; rfl
  cases h1 : inB xf 0 ((rows.length : Int) - 1)
  · have R := R1 (fun q => by rw [show inB (ShV.mk xf xt xm).f 0 ((rows.length : Int) - 1) = false from h1] at q; simp at q)
    clear R1
    obtain ⟨⟨o0, o1⟩, -⟩ := blk2 KO
    obtain ⟨⟨r0, r1⟩, f0, f1⟩ := blk2 A2
    have hSV := hS.box (p := .slice ra2 room.length rc2) (q := .slice a2 rows.length c2) A2
    have KV := box_set (p := .slice ra2 room.length rc2) (q := .slice a2 rows.length c2) A2
    have HBV : Below w.heap.size w ((w2.setCell ⟨w.heap.size + 1 + 1, 0, none⟩ (.slice ra2 room.length rc2)).setCell ⟨w.heap.size + 1 + 1, 1, none⟩ (.slice a2 rows.length c2)) := below_set (by omega) (below_set (by omega) HB)
    obtain ⟨⟨v0, v1⟩, -⟩ := blk2 KV
    clear hS HB KV KO A0 A2 hA
    go_wp2_with (first | (go_at_call 68; refine (cIn _ _ _ _).mono ?_; rintro e w9 ⟨rfl, hw9⟩; subst w9))
    generalize (w2.setCell ⟨w.heap.size + 1 + 1, 0, none⟩ (.slice ra2 room.length rc2)).setCell ⟨w.heap.size + 1 + 1, 1, none⟩ (.slice a2 rows.length c2) = V at *
    refine bodyPost_ret (v := .tuple #[.agg #[.slice ra2 room.length rc2, .slice a2 rows.length c2], .int .i64 1]) (by simp [results, Try.results32, v0, v1, go_sem]) rfl ?_
    exact ⟨_, _, _, by rw [R.out.1], by rw [R.out.2]; exact hSV.base (by omega), HBV⟩
  cases h2 : inB xt 0 ((rows.length : Int) - 1)
  · have R := R1 (fun q => by rw [show inB (ShV.mk xf xt xm).t 0 ((rows.length : Int) - 1) = false from h2] at q; simp at q)
    clear R1
    obtain ⟨⟨o0, o1⟩, -⟩ := blk2 KO
    obtain ⟨⟨r0, r1⟩, f0, f1⟩ := blk2 A2
    have hSV := hS.box (p := .slice ra2 room.length rc2) (q := .slice a2 rows.length c2) A2
    have KV := box_set (p := .slice ra2 room.length rc2) (q := .slice a2 rows.length c2) A2
    have HBV : Below w.heap.size w ((w2.setCell ⟨w.heap.size + 1 + 1, 0, none⟩ (.slice ra2 room.length rc2)).setCell ⟨w.heap.size + 1 + 1, 1, none⟩ (.slice a2 rows.length c2)) := below_set (by omega) (below_set (by omega) HB)
    obtain ⟨⟨v0, v1⟩, -⟩ := blk2 KV
    clear hS HB KV KO A0 A2 hA
    go_wp2_with (first | (go_at_call 68; refine (cIn _ _ _ _).mono ?_; rintro e w9 ⟨rfl, hw9⟩; subst w9))
    generalize (w2.setCell ⟨w.heap.size + 1 + 1, 0, none⟩ (.slice ra2 room.length rc2)).setCell ⟨w.heap.size + 1 + 1, 1, none⟩ (.slice a2 rows.length c2) = V at *
    refine bodyPost_ret (v := .tuple #[.agg #[.slice ra2 room.length rc2, .slice a2 rows.length c2], .int .i64 1]) (by simp [results, Try.results32, v0, v1, go_sem]) rfl ?_
    exact ⟨_, _, _, by rw [R.out.1], by rw [R.out.2]; exact hSV.base (by omega), HBV⟩
  by_cases h3 : xf = xt
  · have R := R1 (fun q => q.2.2.1 h3)
    clear R1
    subst h3
    obtain ⟨⟨o0, o1⟩, -⟩ := blk2 KO
    obtain ⟨⟨r0, r1⟩, f0, f1⟩ := blk2 A2
    have hSV := hS.box (p := .slice ra2 room.length rc2) (q := .slice a2 rows.length c2) A2
    have KV := box_set (p := .slice ra2 room.length rc2) (q := .slice a2 rows.length c2) A2
    have HBV : Below w.heap.size w ((w2.setCell ⟨w.heap.size + 1 + 1, 0, none⟩ (.slice ra2 room.length rc2)).setCell ⟨w.heap.size + 1 + 1, 1, none⟩ (.slice a2 rows.length c2)) := below_set (by omega) (below_set (by omega) HB)
    obtain ⟨⟨v0, v1⟩, -⟩ := blk2 KV
    clear hS HB KV KO A0 A2 hA
    go_wp2_with (first | (go_at_call 68; refine (cIn _ _ _ _).mono ?_; rintro e w9 ⟨rfl, hw9⟩; subst w9))
    generalize (w2.setCell ⟨w.heap.size + 1 + 1, 0, none⟩ (.slice ra2 room.length rc2)).setCell ⟨w.heap.size + 1 + 1, 1, none⟩ (.slice a2 rows.length c2) = V at *
    refine bodyPost_ret (v := .tuple #[.agg #[.slice ra2 room.length rc2, .slice a2 rows.length c2], .int .i64 1]) (by simp [results, Try.results32, v0, v1, go_sem]) rfl ?_
    exact ⟨_, _, _, by rw [R.out.1], by rw [R.out.2]; exact hSV.base (by omega), HBV⟩
  by_cases h4 : xm < 1
  · have R := R1 (fun q => by have : 1 ≤ xm := q.2.2.2; omega)
    clear R1
    obtain ⟨⟨o0, o1⟩, -⟩ := blk2 KO
    obtain ⟨⟨r0, r1⟩, f0, f1⟩ := blk2 A2
    have hSV := hS.box (p := .slice ra2 room.length rc2) (q := .slice a2 rows.length c2) A2
    have KV := box_set (p := .slice ra2 room.length rc2) (q := .slice a2 rows.length c2) A2
    have HBV : Below w.heap.size w ((w2.setCell ⟨w.heap.size + 1 + 1, 0, none⟩ (.slice ra2 room.length rc2)).setCell ⟨w.heap.size + 1 + 1, 1, none⟩ (.slice a2 rows.length c2)) := below_set (by omega) (below_set (by omega) HB)
    obtain ⟨⟨v0, v1⟩, -⟩ := blk2 KV
    clear hS HB KV KO A0 A2 hA
    go_wp2_with (first | (go_at_call 68; refine (cIn _ _ _ _).mono ?_; rintro e w9 ⟨rfl, hw9⟩; subst w9))
    generalize (w2.setCell ⟨w.heap.size + 1 + 1, 0, none⟩ (.slice ra2 room.length rc2)).setCell ⟨w.heap.size + 1 + 1, 1, none⟩ (.slice a2 rows.length c2) = V at *
    refine bodyPost_ret (v := .tuple #[.agg #[.slice ra2 room.length rc2, .slice a2 rows.length c2], .int .i64 1]) (by simp [results, Try.results32, v0, v1, go_sem]) rfl ?_
    exact ⟨_, _, _, by rw [R.out.1], by rw [R.out.2]; exact hSV.base (by omega), HBV⟩
  clear R1 x0 m0 m1 m2
  have hokk : inB (ShV.mk xf xt xm).f 0 ((rows.length : Int) - 1) = true ∧ inB (ShV.mk xf xt xm).t 0 ((rows.length : Int) - 1) = true ∧ (ShV.mk xf xt xm).f ≠ (ShV.mk xf xt xm).t ∧ 1 ≤ (ShV.mk xf xt xm).m := ⟨h1, h2, h3, by show 1 ≤ xm; omega⟩
  have g1 := inB_true h1
  have g2 := inB_true h2
  obtain ⟨f, rfl⟩ : ∃ f : Nat, xf = f := ⟨xf.toNat, by omega⟩
  obtain ⟨t, rfl⟩ : ∃ t : Nat, xt = t := ⟨xt.toNat, by omega⟩
  have hfl : f < rows.length := by omega
  have htl : t < rows.length := by omega
  have hft : f ≠ t := fun e => h3 (by rw [e])
  have hul := hide hR.len
  obtain ⟨bb, off, rfl, hcc⟩ : ∃ b off, a = some ⟨b, off, none⟩ ∧ ∀ i, (hi : i < us.length) → w.cell? ⟨b, off + i, none⟩ = some us[i] := by
    rcases hR.cell with q | q
    · simp [q] at hfl
    · exact q
  have hfu : f < us.length := by have := hul.out; omega
  have htu : t < us.length := by have := hul.out; omega
  obtain ⟨fa, fc, hvf, hIf, hfc⟩ := hR.each f hfu
  obtain ⟨ta, tc, hvt, -, -⟩ := hR.each t htu
  have pf0 := hcc f hfu
  have pt0 := hcc t htu
  rw [hvf] at pf0
  rw [hvt] at pt0
  obtain ⟨rb, ro, rfl, hrc⟩ : ∃ b off, ra = some ⟨b, off, none⟩ ∧ ∀ i, i < room.length → w.cell? ⟨b, off + i, none⟩ = some (Value.int .i64 (room.getD i 0)) := by
    rcases hM with q | q
    · have := hP.len; simp [q] at this; omega
    · exact q
  have htr : t < room.length := by have := hP.len; omega
  have pr0 := hrc t htr
  have hlF := hP.len40 hfl
  have hlT := hP.len40 htl
  have hrm := rowB_iff.1 (hP.row t htl)
  have hrk1 : room.getD t 0 ≤ 40 := hrm.2.1
  have hrk0 : 1 ≤ room.getD t 0 := hrm.1
  have R2 := fun hh => hide (one_code hP (code_few (room := room) (rows := rows) (x := ⟨f, t, xm⟩) hokk hh))
  have R3 := fun hh h9 => hide (one_code hP (code_full (room := room) (rows := rows) (x := ⟨f, t, xm⟩) hokk hh h9))
  have R4 := fun hh h9 => hide (show oneC room rows ⟨f, t, xm⟩ = 0 ∧ oneR room rows ⟨f, t, xm⟩ = moveR rows f t xm.toNat from ⟨(one_yes hP _).1.trans (code_done (room := room) (rows := rows) (x := ⟨f, t, xm⟩) hokk hh h9).1, (one_yes hP _).2.trans (code_done (room := room) (rows := rows) (x := ⟨f, t, xm⟩) hokk hh h9).2⟩)
  dsimp only [Int.toNat_natCast] at R2 R3 R4
  have hLFw : Hid ((rwA rows f).length = (rwA rows f).length) := hide rfl
  have n3 : ((f : Int) == (t : Int)) = false := by simp only [beq_eq_false_iff_ne]; exact h3
  clear hrm hrc hcc hvf hvt hokk g1 g2
  generalize hLF : (rwA rows f).length = LF at *
  generalize hLT : (rwA rows t).length = LT at *
  generalize hrk : room.getD t 0 = rk at *
  have m0 : w2.cell? ⟨w.heap.size + 1, 0, none⟩ = some (.int .i64 f) := by rw [cell_blk A1]; rfl
  have m1 : w2.cell? ⟨w.heap.size + 1, 1, none⟩ = some (.int .i64 t) := by rw [cell_blk A1]; rfl
  have m2 : w2.cell? ⟨w.heap.size + 1, 2, none⟩ = some (.int .i64 xm) := by rw [cell_blk A1]; rfl
  obtain ⟨⟨s0, s1⟩, -⟩ := blk2 A0
  have pf := ble HB pf0
  have pt := ble HB pt0
  have pr := ble HB pr0
  by_cases hfew : (LF : Int) < xm
  · have R := R2 hfew
    clear R2 R3 R4
    go_wp2_with (first | (go_at_call 68; refine (cIn _ _ _ _).mono ?_; rintro e w9 ⟨rfl, hw9⟩; subst w9))
    go_quiet (fail)
    clear m0 m1 m2 s0 s1 pf pt pr
    have hb := bdraw (Below.refl w2.heap.size w2) nq
    replace HB := btrans HB hb
    replace A0 := blk_keep hb A0
    replace A1 := blk_keep hb A1
    replace A2 := blk_keep hb A2
    replace KO := blk_keep hb KO
    replace hS := hS.below hb
    replace hA := OwnAll.below hA hb
    clear hb
    generalize w2.drewN nq = w3 at *
    obtain ⟨⟨o0, o1⟩, -⟩ := blk2 KO
    obtain ⟨⟨r0, r1⟩, f0, f1⟩ := blk2 A2
    have hSV := hS.box (p := .slice ra2 room.length rc2) (q := .slice a2 rows.length c2) A2
    have KV := box_set (p := .slice ra2 room.length rc2) (q := .slice a2 rows.length c2) A2
    have HBV : Below w.heap.size w ((w3.setCell ⟨w.heap.size + 1 + 1, 0, none⟩ (.slice ra2 room.length rc2)).setCell ⟨w.heap.size + 1 + 1, 1, none⟩ (.slice a2 rows.length c2)) := below_set (by omega) (below_set (by omega) HB)
    obtain ⟨⟨v0, v1⟩, -⟩ := blk2 KV
    clear hS HB KV KO A0 A2 hA
    go_wp2
    generalize (w3.setCell ⟨w.heap.size + 1 + 1, 0, none⟩ (.slice ra2 room.length rc2)).setCell ⟨w.heap.size + 1 + 1, 1, none⟩ (.slice a2 rows.length c2) = V at *
    refine bodyPost_ret (v := .tuple #[.agg #[.slice ra2 room.length rc2, .slice a2 rows.length c2], .int .i64 2]) (by simp [results, Try.results32, v0, v1, go_sem]) rfl ?_
    exact ⟨_, _, _, by rw [R.out.1], by rw [R.out.2]; exact hSV.base (by omega), HBV⟩
  go_wp2_with (first | (go_at_call 68; refine (cIn _ _ _ _).mono ?_; rintro e w9 ⟨rfl, hw9⟩; subst w9))
  go_quiet (fail)
  clear m0 m1 m2 s0 s1 pf pt pr
  have hb := bdraw (Below.refl w2.heap.size w2) nq
  replace HB := btrans HB hb
  replace A0 := blk_keep hb A0
  replace A1 := blk_keep hb A1
  replace A2 := blk_keep hb A2
  replace KO := blk_keep hb KO
  replace hS := hS.below hb
  replace hA := OwnAll.below hA hb
  clear hb
  generalize w2.drewN nq = w3 at *
  have m0 : w3.cell? ⟨w.heap.size + 1, 0, none⟩ = some (.int .i64 f) := by rw [cell_blk A1]; rfl
  have m1 : w3.cell? ⟨w.heap.size + 1, 1, none⟩ = some (.int .i64 t) := by rw [cell_blk A1]; rfl
  have m2 : w3.cell? ⟨w.heap.size + 1, 2, none⟩ = some (.int .i64 xm) := by rw [cell_blk A1]; rfl
  obtain ⟨⟨s0, s1⟩, -⟩ := blk2 A0
  have pf := ble HB pf0
  have pt := ble HB pt0
  have pr := ble HB pr0
  have hwr : IntKind.i64.wrap (rk - (LT : Int)) = rk - (LT : Int) := wrap_in _ (by omega) (by omega)
  by_cases hfull : rk < (LT : Int) + xm
  · have R := R3 hfew hfull
    have hfl2 : rk - (LT : Int) < xm := by omega
    clear R2 R3 R4 hfull
    go_wp2
    go_quiet (fail)
    clear m0 m1 m2 s0 s1 pf pt pr
    have hb := bdraw (Below.refl w3.heap.size w3) nq
    replace HB := btrans HB hb
    replace A0 := blk_keep hb A0
    replace A1 := blk_keep hb A1
    replace A2 := blk_keep hb A2
    replace KO := blk_keep hb KO
    replace hS := hS.below hb
    replace hA := OwnAll.below hA hb
    clear hb
    generalize w3.drewN nq = w4 at *
    obtain ⟨⟨o0, o1⟩, -⟩ := blk2 KO
    obtain ⟨⟨r0, r1⟩, f0, f1⟩ := blk2 A2
    have hSV := hS.box (p := .slice ra2 room.length rc2) (q := .slice a2 rows.length c2) A2
    have KV := box_set (p := .slice ra2 room.length rc2) (q := .slice a2 rows.length c2) A2
    have HBV : Below w.heap.size w ((w4.setCell ⟨w.heap.size + 1 + 1, 0, none⟩ (.slice ra2 room.length rc2)).setCell ⟨w.heap.size + 1 + 1, 1, none⟩ (.slice a2 rows.length c2)) := below_set (by omega) (below_set (by omega) HB)
    obtain ⟨⟨v0, v1⟩, -⟩ := blk2 KV
    clear hS HB KV KO A0 A2 hA
    go_wp2
    generalize (w4.setCell ⟨w.heap.size + 1 + 1, 0, none⟩ (.slice ra2 room.length rc2)).setCell ⟨w.heap.size + 1 + 1, 1, none⟩ (.slice a2 rows.length c2) = V at *
    refine bodyPost_ret (v := .tuple #[.agg #[.slice ra2 room.length rc2, .slice a2 rows.length c2], .int .i64 3]) (by simp [results, Try.results32, v0, v1, go_sem]) rfl ?_
    exact ⟨_, _, _, by rw [R.out.1], by rw [R.out.2]; exact hSV.base (by omega), HBV⟩
  have hfl2 : ¬ (rk - (LT : Int) < xm) := by omega
  have R := R4 hfew (by omega)
  clear R2 R3 R4 hfull
  obtain ⟨m, rfl⟩ : ∃ m : Nat, xm = m := ⟨xm.toNat, by omega⟩
  obtain ⟨K, hK⟩ : ∃ K, K + m = LF := ⟨LF - m, by omega⟩
  go_wp2
  go_quiet (fail)
  clear m0 m1 m2 s0 s1 pf pt pr
  have hb := bdraw (Below.refl w3.heap.size w3) nq
  replace HB := btrans HB hb
  replace A0 := blk_keep hb A0
  replace A1 := blk_keep hb A1
  replace A2 := blk_keep hb A2
  replace KO := blk_keep hb KO
  replace hS := hS.below hb
  replace hA := OwnAll.below hA hb
  clear hb
  generalize w3.drewN nq = w4 at *
  have m0 : w4.cell? ⟨w.heap.size + 1, 0, none⟩ = some (.int .i64 f) := by rw [cell_blk A1]; rfl
  have m1 : w4.cell? ⟨w.heap.size + 1, 1, none⟩ = some (.int .i64 t) := by rw [cell_blk A1]; rfl
  have m2 : w4.cell? ⟨w.heap.size + 1, 2, none⟩ = some (.int .i64 m) := by rw [cell_blk A1]; rfl
  obtain ⟨⟨s0, s1⟩, -⟩ := blk2 A0
  have pf := ble HB pf0
  have pt := ble HB pt0
  have pr := ble HB pr0
  have e1 : (LF : Int) - (m : Int) = (K : Int) := by omega
  have hwr2 : IntKind.i64.wrap (K : Int) = (K : Int) := wrap_in _ (by omega) (by omega)
  go_wp2
  go_quiet (fail)
  clear m0 m1 m2 s0 s1 pf pt pr
  have hb := bdraw (Below.refl w4.heap.size w4) nq
  replace HB := btrans HB hb
  replace A0 := blk_keep hb A0
  replace A1 := blk_keep hb A1
  replace A2 := blk_keep hb A2
  replace KO := blk_keep hb KO
  replace hS := hS.below hb
  replace hA := OwnAll.below hA hb
  clear hb
  generalize w4.drewN nq = w5 at *
  clear e1 hwr2 hwr hfl2
  go_wp2
  obtain ⟨i1, hi1, hy0, hy1, hy2⟩ := info_parts infoInts
  obtain ⟨T, rfl⟩ : ∃ T, a2 = some ⟨T, 0, none⟩ := by
    rcases hS.tab.own.2 with ⟨_, e2⟩ | ⟨g, _, _, e, _⟩
    · omega
    · simp only [Value.slice.injEq] at e; exact ⟨g, e.1⟩
  obtain ⟨xb, xo, rfl, qx⟩ : ∃ b off, fa = some ⟨b, off, none⟩ ∧ ∀ i, i < LF → w.cell? ⟨b, off + i, none⟩ = some (Value.int .i64 ((rwA rows f).getD i 0)) := by
    rcases hIf with q | q
    · rw [q] at hLF; simp at hLF; omega
    · rw [hLF] at q; exact q
  replace qx := hide qx
  replace hK := hide hK
  replace hLF := hide hLF
  replace hLT := hide hLT
  generalize hBw : W.heap.size = Bw at *
  have hBw2 : w.heap.size + 1 + 1 < Bw := by omega
  replace hz := hide hz
  have hm40 : m ≤ 40 := by omega
  have hK40 : K ≤ 40 := by have := hK.out; omega
  have hSt : SidO Bw w5 (.slice ra2 room.length rc2) (.slice (some ⟨T, 0, none⟩) rows.length c2) vs room (setR rows t (rwA rows t)) := by rw [setR_self htl]; exact hS
  have hAt : OwnAll Bw w5 vs (setR rows t (rwA rows t)) := by rw [setR_self htl]; exact hA
  go_loopw [8] (fun i wr => ∃ (I j : Nat) (vs : List Value) (ys : List Int), j ≤ m ∧ i = .int .i64 I ∧ Hid (I = K + j) ∧ Hid (ys = rwA rows t ++ ((rwA rows f).drop K).take j) ∧ SidO Bw wr (.slice ra2 room.length rc2) (.slice (some ⟨T, 0, none⟩) rows.length c2) vs room (setR rows t ys) ∧ OwnAll Bw wr vs (setR rows t ys) ∧ wr.heap[w.heap.size]? = some (.cells #[.slice (some ⟨rb, ro, none⟩) room.length rc, .slice (some ⟨bb, off, none⟩) rows.length c] 27 (0, 0)) ∧ wr.heap[w.heap.size + 1]? = some (.cells #[.int .i64 f, .int .i64 t, .int .i64 m] 37 (0, 0)) ∧ wr.heap[w.heap.size + 1 + 1]? = some (.cells #[.slice none 0 0, .slice none 0 0] 27 (0, 0)) ∧ wr.heap[O]? = some (.cells #[.slice ra2 room.length rc2, .slice (some ⟨T, 0, none⟩) rows.length c2] 27 (0, 0)) ∧ Below w.heap.size w wr) (fun i _ => LF - (intOf i).toNat)
  case atStart => exact ⟨K, 0, vs, rwA rows t, by omega, rfl, hide (by omega), hide (by simp), hSt, hAt, A0, A1, A2, KO, HB⟩
  case round =>
    clear hSt hAt hS hA A0 A1 A2 KO HB
    obtain ⟨I, j, vs, ys, hj, rfl, hI, hysE, hS, hA, A0, A1, A2, KO, HB⟩ := hrel
    have hI40 : I ≤ 80 := by have := hI.out; omega
    have k0 : wr.cell? ⟨O, 1, none⟩ = some (.slice (some ⟨T, 0, none⟩) rows.length c2) := by rw [cell_blk KO]; rfl
    have k1 : wr.cell? ⟨w.heap.size + 1, 0, none⟩ = some (.int .i64 f) := by rw [cell_blk A1]; rfl
    have k2 : wr.cell? ⟨w.heap.size + 1, 1, none⟩ = some (.int .i64 t) := by rw [cell_blk A1]; rfl
    have k3 : wr.cell? ⟨w.heap.size, 1, none⟩ = some (.slice (some ⟨bb, off, none⟩) rows.length c) := by rw [cell_blk A0]; rfl
    have k4 : wr.cell? ⟨bb, off + f, none⟩ = some (.slice (some ⟨xb, xo, none⟩) LF fc) := ble HB pf0
    by_cases hjm : j < m
    · have hIL : I < LF := by have := hI.out; have := hK.out; omega
      have px0 := qx.out I hIL
      have hIr : I < (rwA rows f).length := by have := hLF.out; omega
      have ex : (rwA rows f).getD I 0 = (rwA rows f)[I] := by simp [List.getD, hIr]
      rw [ex] at px0
      have hys2 : Hid (ys ++ [(rwA rows f)[I]] = rwA rows t ++ ((rwA rows f).drop K).take (j + 1)) := hide (by
        have hjd : j < ((rwA rows f).drop K).length := by rw [List.length_drop]; have := hI.out; omega
        have e9 : ((rwA rows f).drop K)[j] = (rwA rows f)[I] := by rw [List.getElem_drop]; congr 1; have := hI.out; omega
        rw [hysE.out, List.take_succ_eq_append_getElem hjd, ← List.append_assoc, e9])
      have hI2 : Hid (I + 1 = K + (j + 1)) := hide (by have := hI.out; omega)
      have hyl : ys.length ≤ 80 := by
        rw [hysE.out, List.length_append, List.length_take, hLT.out]; omega
      generalize (rwA rows f)[I] = x at *
      have hlen9 := hS.tab.len
      rw [setR_len] at hlen9
      have htv : t < vs.length := by omega
      replace hlen9 := hide hlen9
      have hbd : Below wr.heap.size wr wr.drew := bdraw (Below.refl _ _) 1
      have HBd : Below w.heap.size w wr.drew := bdraw HB 1
      have hSd := hS.below hbd
      have hAd := OwnAll.below hA hbd
      have A0d := blk_keep hbd A0
      have A1d := blk_keep hbd A1
      have A2d := blk_keep hbd A2
      have KOd := blk_keep hbd KO
      have hot := hAd t htv
      rw [rwA_set htl, if_pos rfl] at hot
      obtain ⟨ua, uc, hvt⟩ := own_form hot
      have pTd := hSd.tab.cell htv
      rw [hvt] at hot pTd
      have hsd : w.heap.size ≤ wr.drew.heap.size := HBd.size
      have hBd : Bw ≤ wr.drew.heap.size := by have := (own_type hSd.tab.own T rfl); omega
      clear hS hA A0 A1 A2 KO ex hbd
      generalize hNl : ys.length = N at *
      replace hNl := hide hNl
      have d0 : wr.drew.cell? ⟨O, 1, none⟩ = some (.slice (some ⟨T, 0, none⟩) rows.length c2) := by rw [cell_blk KOd]; rfl
      have d1 : wr.drew.cell? ⟨w.heap.size + 1, 0, none⟩ = some (.int .i64 f) := by rw [cell_blk A1d]; rfl
      have d2 : wr.drew.cell? ⟨w.heap.size + 1, 1, none⟩ = some (.int .i64 t) := by rw [cell_blk A1d]; rfl
      have d3 : wr.drew.cell? ⟨w.heap.size, 1, none⟩ = some (.slice (some ⟨bb, off, none⟩) rows.length c) := by rw [cell_blk A0d]; rfl
      have d4 : wr.drew.cell? ⟨bb, off + f, none⟩ = some (.slice (some ⟨xb, xo, none⟩) LF fc) := ble HBd pf0
      have d5 : wr.drew.cell? ⟨xb, xo + I, none⟩ = some (.int .i64 x) := ble HBd px0
      go_wp2_with fail
      clear k0 k1 k2 k3 k4
      refine wp_region_held_drew (S := (fun w' => w'.cell? ⟨O, 1, none⟩ = some (.slice (some ⟨T, 0, none⟩) rows.length c2) ∧ w'.cell? ⟨w.heap.size + 1, 0, none⟩ = some (.int .i64 f) ∧ w'.cell? ⟨w.heap.size + 1, 1, none⟩ = some (.int .i64 t) ∧ w'.cell? ⟨w.heap.size, 1, none⟩ = some (.slice (some ⟨bb, off, none⟩) rows.length c) ∧ w'.cell? ⟨bb, off + f, none⟩ = some (.slice (some ⟨xb, xo, none⟩) LF fc) ∧ w'.cell? ⟨xb, xo + I, none⟩ = some (.int .i64 x))) (by kernel_rfl) ?_ (fun hHeld => ?_)
      · exact ⟨d0, d1, d2, d3, d4, d5⟩
      generalize wr.drew = wd at *
      refine wpAnyH_take (i := 0) (v := .pointer (some ⟨O, 1, none⟩)) rfl (by kernel_rfl) (by kernel_rfl) (by kernel_rfl) (fun _ _ _ h => h) (Or.inl ⟨by kernel_rfl, fun w hS => by go_simp⟩) hHeld ?_
      change wpAnyH _ _ _ _ _ _ _ { tmps := List.toArray (_ :: _ :: _ :: _ :: _ :: _ :: _ :: _ :: _ :: _ :: _ :: _ :: _ :: _ :: _ :: _ :: _ :: _ :: _ :: _ :: _ :: _ :: _ :: _ :: _ :: _ :: _ :: _ :: _ :: _ :: _ :: _ :: _ :: _ :: _ :: _ :: _ :: _ :: _ :: _ :: _ :: _ :: _ :: _ :: _ :: _ :: _ :: _ :: _ :: _ :: _ :: _ :: _ :: _ :: _ :: _ :: _ :: _ :: _ :: _ :: _ :: _ :: _ :: _ :: _ :: _ :: _ :: _ :: _ :: _ :: _ :: _ :: _ :: _ :: _ :: _ :: _ :: _ :: _ :: _ :: _ :: _ :: _ :: _ :: _ :: _ :: _ :: _ :: _ :: _ :: _ :: _ :: _ :: _ :: _ :: _ :: _ :: _ :: .pointer (some ⟨O, 1, none⟩) :: _ :: _ :: _ :: _ :: _ :: _ :: _ :: _ :: _ :: _ :: _ :: _ :: _ :: _ :: _ :: _ :: _ :: _ :: _ :: _ :: _ :: _ :: _ :: _ :: _ :: _ :: _ :: _ :: _ :: _ :: _ :: _ :: _ :: _ :: _ :: _ :: []), defers := [] } _
      refine wpAnyH_take (i := 1) (v := .slice (some ⟨T, 0, none⟩) rows.length c2) rfl (by kernel_rfl) (by kernel_rfl) (by kernel_rfl) (fun _ _ _ h => h) (Or.inl ⟨by kernel_rfl, fun w hS => by (obtain ⟨hS0, hS1, hS2, hS3, hS4, hS5⟩ := hS; go_simp)⟩) hHeld ?_
      change wpAnyH _ _ _ _ _ _ _ { tmps := List.toArray (_ :: _ :: _ :: _ :: _ :: _ :: _ :: _ :: _ :: _ :: _ :: _ :: _ :: _ :: _ :: _ :: _ :: _ :: _ :: _ :: _ :: _ :: _ :: _ :: _ :: _ :: _ :: _ :: _ :: _ :: _ :: _ :: _ :: _ :: _ :: _ :: _ :: _ :: _ :: _ :: _ :: _ :: _ :: _ :: _ :: _ :: _ :: _ :: _ :: _ :: _ :: _ :: _ :: _ :: _ :: _ :: _ :: _ :: _ :: _ :: _ :: _ :: _ :: _ :: _ :: _ :: _ :: _ :: _ :: _ :: _ :: _ :: _ :: _ :: _ :: _ :: _ :: _ :: _ :: _ :: _ :: _ :: _ :: _ :: _ :: _ :: _ :: _ :: _ :: _ :: _ :: _ :: _ :: _ :: _ :: _ :: _ :: _ :: .pointer (some ⟨O, 1, none⟩) :: .slice (some ⟨T, 0, none⟩) rows.length c2 :: _ :: _ :: _ :: _ :: _ :: _ :: _ :: _ :: _ :: _ :: _ :: _ :: _ :: _ :: _ :: _ :: _ :: _ :: _ :: _ :: _ :: _ :: _ :: _ :: _ :: _ :: _ :: _ :: _ :: _ :: _ :: _ :: _ :: _ :: _ :: []), defers := [] } _
      refine wpAnyH_take (i := 2) (v := .pointer (some ⟨w.heap.size + 1, 1, none⟩)) rfl (by kernel_rfl) (by kernel_rfl) (by kernel_rfl) (fun _ _ _ h => h) (Or.inl ⟨by kernel_rfl, fun w hS => by go_simp⟩) hHeld ?_
      change wpAnyH _ _ _ _ _ _ _ { tmps := List.toArray (_ :: _ :: _ :: _ :: _ :: _ :: _ :: _ :: _ :: _ :: _ :: _ :: _ :: _ :: _ :: _ :: _ :: _ :: _ :: _ :: _ :: _ :: _ :: _ :: _ :: _ :: _ :: _ :: _ :: _ :: _ :: _ :: _ :: _ :: _ :: _ :: _ :: _ :: _ :: _ :: _ :: _ :: _ :: _ :: _ :: _ :: _ :: _ :: _ :: _ :: _ :: _ :: _ :: _ :: _ :: _ :: _ :: _ :: _ :: _ :: _ :: _ :: _ :: _ :: _ :: _ :: _ :: _ :: _ :: _ :: _ :: _ :: _ :: _ :: _ :: _ :: _ :: _ :: _ :: _ :: _ :: _ :: _ :: _ :: _ :: _ :: _ :: _ :: _ :: _ :: _ :: _ :: _ :: _ :: _ :: _ :: _ :: _ :: .pointer (some ⟨O, 1, none⟩) :: .slice (some ⟨T, 0, none⟩) rows.length c2 :: .pointer (some ⟨w.heap.size + 1, 1, none⟩) :: _ :: _ :: _ :: _ :: _ :: _ :: _ :: _ :: _ :: _ :: _ :: _ :: _ :: _ :: _ :: _ :: _ :: _ :: _ :: _ :: _ :: _ :: _ :: _ :: _ :: _ :: _ :: _ :: _ :: _ :: _ :: _ :: _ :: _ :: []), defers := [] } _
      refine wpAnyH_take (i := 3) (v := .int .i64 t) rfl (by kernel_rfl) (by kernel_rfl) (by kernel_rfl) (fun _ _ _ h => h) (Or.inl ⟨by kernel_rfl, fun w hS => by (obtain ⟨hS0, hS1, hS2, hS3, hS4, hS5⟩ := hS; go_simp)⟩) hHeld ?_
      change wpAnyH _ _ _ _ _ _ _ { tmps := List.toArray (_ :: _ :: _ :: _ :: _ :: _ :: _ :: _ :: _ :: _ :: _ :: _ :: _ :: _ :: _ :: _ :: _ :: _ :: _ :: _ :: _ :: _ :: _ :: _ :: _ :: _ :: _ :: _ :: _ :: _ :: _ :: _ :: _ :: _ :: _ :: _ :: _ :: _ :: _ :: _ :: _ :: _ :: _ :: _ :: _ :: _ :: _ :: _ :: _ :: _ :: _ :: _ :: _ :: _ :: _ :: _ :: _ :: _ :: _ :: _ :: _ :: _ :: _ :: _ :: _ :: _ :: _ :: _ :: _ :: _ :: _ :: _ :: _ :: _ :: _ :: _ :: _ :: _ :: _ :: _ :: _ :: _ :: _ :: _ :: _ :: _ :: _ :: _ :: _ :: _ :: _ :: _ :: _ :: _ :: _ :: _ :: _ :: _ :: .pointer (some ⟨O, 1, none⟩) :: .slice (some ⟨T, 0, none⟩) rows.length c2 :: .pointer (some ⟨w.heap.size + 1, 1, none⟩) :: .int .i64 t :: _ :: _ :: _ :: _ :: _ :: _ :: _ :: _ :: _ :: _ :: _ :: _ :: _ :: _ :: _ :: _ :: _ :: _ :: _ :: _ :: _ :: _ :: _ :: _ :: _ :: _ :: _ :: _ :: _ :: _ :: _ :: _ :: _ :: []), defers := [] } _
      refine wpAnyH_take (i := 4) (v := .pointer (some ⟨O, 1, none⟩)) rfl (by kernel_rfl) (by kernel_rfl) (by kernel_rfl) (fun _ _ _ h => h) (Or.inl ⟨by kernel_rfl, fun w hS => by go_simp⟩) hHeld ?_
      change wpAnyH _ _ _ _ _ _ _ { tmps := List.toArray (_ :: _ :: _ :: _ :: _ :: _ :: _ :: _ :: _ :: _ :: _ :: _ :: _ :: _ :: _ :: _ :: _ :: _ :: _ :: _ :: _ :: _ :: _ :: _ :: _ :: _ :: _ :: _ :: _ :: _ :: _ :: _ :: _ :: _ :: _ :: _ :: _ :: _ :: _ :: _ :: _ :: _ :: _ :: _ :: _ :: _ :: _ :: _ :: _ :: _ :: _ :: _ :: _ :: _ :: _ :: _ :: _ :: _ :: _ :: _ :: _ :: _ :: _ :: _ :: _ :: _ :: _ :: _ :: _ :: _ :: _ :: _ :: _ :: _ :: _ :: _ :: _ :: _ :: _ :: _ :: _ :: _ :: _ :: _ :: _ :: _ :: _ :: _ :: _ :: _ :: _ :: _ :: _ :: _ :: _ :: _ :: _ :: _ :: .pointer (some ⟨O, 1, none⟩) :: .slice (some ⟨T, 0, none⟩) rows.length c2 :: .pointer (some ⟨w.heap.size + 1, 1, none⟩) :: .int .i64 t :: .pointer (some ⟨O, 1, none⟩) :: _ :: _ :: _ :: _ :: _ :: _ :: _ :: _ :: _ :: _ :: _ :: _ :: _ :: _ :: _ :: _ :: _ :: _ :: _ :: _ :: _ :: _ :: _ :: _ :: _ :: _ :: _ :: _ :: _ :: _ :: _ :: _ :: []), defers := [] } _
      refine wpAnyH_take (i := 5) (v := .slice (some ⟨T, 0, none⟩) rows.length c2) rfl (by kernel_rfl) (by kernel_rfl) (by kernel_rfl) (fun _ _ _ h => h) (Or.inl ⟨by kernel_rfl, fun w hS => by (obtain ⟨hS0, hS1, hS2, hS3, hS4, hS5⟩ := hS; go_simp)⟩) hHeld ?_
      change wpAnyH _ _ _ _ _ _ _ { tmps := List.toArray (_ :: _ :: _ :: _ :: _ :: _ :: _ :: _ :: _ :: _ :: _ :: _ :: _ :: _ :: _ :: _ :: _ :: _ :: _ :: _ :: _ :: _ :: _ :: _ :: _ :: _ :: _ :: _ :: _ :: _ :: _ :: _ :: _ :: _ :: _ :: _ :: _ :: _ :: _ :: _ :: _ :: _ :: _ :: _ :: _ :: _ :: _ :: _ :: _ :: _ :: _ :: _ :: _ :: _ :: _ :: _ :: _ :: _ :: _ :: _ :: _ :: _ :: _ :: _ :: _ :: _ :: _ :: _ :: _ :: _ :: _ :: _ :: _ :: _ :: _ :: _ :: _ :: _ :: _ :: _ :: _ :: _ :: _ :: _ :: _ :: _ :: _ :: _ :: _ :: _ :: _ :: _ :: _ :: _ :: _ :: _ :: _ :: _ :: .pointer (some ⟨O, 1, none⟩) :: .slice (some ⟨T, 0, none⟩) rows.length c2 :: .pointer (some ⟨w.heap.size + 1, 1, none⟩) :: .int .i64 t :: .pointer (some ⟨O, 1, none⟩) :: .slice (some ⟨T, 0, none⟩) rows.length c2 :: _ :: _ :: _ :: _ :: _ :: _ :: _ :: _ :: _ :: _ :: _ :: _ :: _ :: _ :: _ :: _ :: _ :: _ :: _ :: _ :: _ :: _ :: _ :: _ :: _ :: _ :: _ :: _ :: _ :: _ :: _ :: []), defers := [] } _
      refine wpAnyH_take (i := 6) (v := .pointer (some ⟨w.heap.size + 1, 1, none⟩)) rfl (by kernel_rfl) (by kernel_rfl) (by kernel_rfl) (fun _ _ _ h => h) (Or.inl ⟨by kernel_rfl, fun w hS => by go_simp⟩) hHeld ?_
      change wpAnyH _ _ _ _ _ _ _ { tmps := List.toArray (_ :: _ :: _ :: _ :: _ :: _ :: _ :: _ :: _ :: _ :: _ :: _ :: _ :: _ :: _ :: _ :: _ :: _ :: _ :: _ :: _ :: _ :: _ :: _ :: _ :: _ :: _ :: _ :: _ :: _ :: _ :: _ :: _ :: _ :: _ :: _ :: _ :: _ :: _ :: _ :: _ :: _ :: _ :: _ :: _ :: _ :: _ :: _ :: _ :: _ :: _ :: _ :: _ :: _ :: _ :: _ :: _ :: _ :: _ :: _ :: _ :: _ :: _ :: _ :: _ :: _ :: _ :: _ :: _ :: _ :: _ :: _ :: _ :: _ :: _ :: _ :: _ :: _ :: _ :: _ :: _ :: _ :: _ :: _ :: _ :: _ :: _ :: _ :: _ :: _ :: _ :: _ :: _ :: _ :: _ :: _ :: _ :: _ :: .pointer (some ⟨O, 1, none⟩) :: .slice (some ⟨T, 0, none⟩) rows.length c2 :: .pointer (some ⟨w.heap.size + 1, 1, none⟩) :: .int .i64 t :: .pointer (some ⟨O, 1, none⟩) :: .slice (some ⟨T, 0, none⟩) rows.length c2 :: .pointer (some ⟨w.heap.size + 1, 1, none⟩) :: _ :: _ :: _ :: _ :: _ :: _ :: _ :: _ :: _ :: _ :: _ :: _ :: _ :: _ :: _ :: _ :: _ :: _ :: _ :: _ :: _ :: _ :: _ :: _ :: _ :: _ :: _ :: _ :: _ :: _ :: []), defers := [] } _
      refine wpAnyH_take (i := 7) (v := .int .i64 t) rfl (by kernel_rfl) (by kernel_rfl) (by kernel_rfl) (fun _ _ _ h => h) (Or.inl ⟨by kernel_rfl, fun w hS => by (obtain ⟨hS0, hS1, hS2, hS3, hS4, hS5⟩ := hS; go_simp)⟩) hHeld ?_
      change wpAnyH _ _ _ _ _ _ _ { tmps := List.toArray (_ :: _ :: _ :: _ :: _ :: _ :: _ :: _ :: _ :: _ :: _ :: _ :: _ :: _ :: _ :: _ :: _ :: _ :: _ :: _ :: _ :: _ :: _ :: _ :: _ :: _ :: _ :: _ :: _ :: _ :: _ :: _ :: _ :: _ :: _ :: _ :: _ :: _ :: _ :: _ :: _ :: _ :: _ :: _ :: _ :: _ :: _ :: _ :: _ :: _ :: _ :: _ :: _ :: _ :: _ :: _ :: _ :: _ :: _ :: _ :: _ :: _ :: _ :: _ :: _ :: _ :: _ :: _ :: _ :: _ :: _ :: _ :: _ :: _ :: _ :: _ :: _ :: _ :: _ :: _ :: _ :: _ :: _ :: _ :: _ :: _ :: _ :: _ :: _ :: _ :: _ :: _ :: _ :: _ :: _ :: _ :: _ :: _ :: .pointer (some ⟨O, 1, none⟩) :: .slice (some ⟨T, 0, none⟩) rows.length c2 :: .pointer (some ⟨w.heap.size + 1, 1, none⟩) :: .int .i64 t :: .pointer (some ⟨O, 1, none⟩) :: .slice (some ⟨T, 0, none⟩) rows.length c2 :: .pointer (some ⟨w.heap.size + 1, 1, none⟩) :: .int .i64 t :: _ :: _ :: _ :: _ :: _ :: _ :: _ :: _ :: _ :: _ :: _ :: _ :: _ :: _ :: _ :: _ :: _ :: _ :: _ :: _ :: _ :: _ :: _ :: _ :: _ :: _ :: _ :: _ :: _ :: []), defers := [] } _
      refine wpAnyH_take (i := 8) (v := .pointer (some ⟨T, t, none⟩)) rfl (by kernel_rfl) (by kernel_rfl) (by kernel_rfl) (fun _ _ _ h => h) (Or.inl ⟨by kernel_rfl, fun w hS => by go_simp⟩) hHeld ?_
      change wpAnyH _ _ _ _ _ _ _ { tmps := List.toArray (_ :: _ :: _ :: _ :: _ :: _ :: _ :: _ :: _ :: _ :: _ :: _ :: _ :: _ :: _ :: _ :: _ :: _ :: _ :: _ :: _ :: _ :: _ :: _ :: _ :: _ :: _ :: _ :: _ :: _ :: _ :: _ :: _ :: _ :: _ :: _ :: _ :: _ :: _ :: _ :: _ :: _ :: _ :: _ :: _ :: _ :: _ :: _ :: _ :: _ :: _ :: _ :: _ :: _ :: _ :: _ :: _ :: _ :: _ :: _ :: _ :: _ :: _ :: _ :: _ :: _ :: _ :: _ :: _ :: _ :: _ :: _ :: _ :: _ :: _ :: _ :: _ :: _ :: _ :: _ :: _ :: _ :: _ :: _ :: _ :: _ :: _ :: _ :: _ :: _ :: _ :: _ :: _ :: _ :: _ :: _ :: _ :: _ :: .pointer (some ⟨O, 1, none⟩) :: .slice (some ⟨T, 0, none⟩) rows.length c2 :: .pointer (some ⟨w.heap.size + 1, 1, none⟩) :: .int .i64 t :: .pointer (some ⟨O, 1, none⟩) :: .slice (some ⟨T, 0, none⟩) rows.length c2 :: .pointer (some ⟨w.heap.size + 1, 1, none⟩) :: .int .i64 t :: .pointer (some ⟨T, t, none⟩) :: _ :: _ :: _ :: _ :: _ :: _ :: _ :: _ :: _ :: _ :: _ :: _ :: _ :: _ :: _ :: _ :: _ :: _ :: _ :: _ :: _ :: _ :: _ :: _ :: _ :: _ :: _ :: _ :: []), defers := [] } _
      refine wpAnyH_take (i := 10) (v := .pointer (some ⟨w.heap.size, 1, none⟩)) rfl (by kernel_rfl) (by kernel_rfl) (by kernel_rfl) (fun _ _ _ h => h) (Or.inl ⟨by kernel_rfl, fun w hS => by go_simp⟩) hHeld ?_
      change wpAnyH _ _ _ _ _ _ _ { tmps := List.toArray (_ :: _ :: _ :: _ :: _ :: _ :: _ :: _ :: _ :: _ :: _ :: _ :: _ :: _ :: _ :: _ :: _ :: _ :: _ :: _ :: _ :: _ :: _ :: _ :: _ :: _ :: _ :: _ :: _ :: _ :: _ :: _ :: _ :: _ :: _ :: _ :: _ :: _ :: _ :: _ :: _ :: _ :: _ :: _ :: _ :: _ :: _ :: _ :: _ :: _ :: _ :: _ :: _ :: _ :: _ :: _ :: _ :: _ :: _ :: _ :: _ :: _ :: _ :: _ :: _ :: _ :: _ :: _ :: _ :: _ :: _ :: _ :: _ :: _ :: _ :: _ :: _ :: _ :: _ :: _ :: _ :: _ :: _ :: _ :: _ :: _ :: _ :: _ :: _ :: _ :: _ :: _ :: _ :: _ :: _ :: _ :: _ :: _ :: .pointer (some ⟨O, 1, none⟩) :: .slice (some ⟨T, 0, none⟩) rows.length c2 :: .pointer (some ⟨w.heap.size + 1, 1, none⟩) :: .int .i64 t :: .pointer (some ⟨O, 1, none⟩) :: .slice (some ⟨T, 0, none⟩) rows.length c2 :: .pointer (some ⟨w.heap.size + 1, 1, none⟩) :: .int .i64 t :: .pointer (some ⟨T, t, none⟩) :: _ :: .pointer (some ⟨w.heap.size, 1, none⟩) :: _ :: _ :: _ :: _ :: _ :: _ :: _ :: _ :: _ :: _ :: _ :: _ :: _ :: _ :: _ :: _ :: _ :: _ :: _ :: _ :: _ :: _ :: _ :: _ :: _ :: _ :: []), defers := [] } _
      refine wpAnyH_take (i := 11) (v := .slice (some ⟨bb, off, none⟩) rows.length c) rfl (by kernel_rfl) (by kernel_rfl) (by kernel_rfl) (fun _ _ _ h => h) (Or.inl ⟨by kernel_rfl, fun w hS => by (obtain ⟨hS0, hS1, hS2, hS3, hS4, hS5⟩ := hS; go_simp)⟩) hHeld ?_
      change wpAnyH _ _ _ _ _ _ _ { tmps := List.toArray (_ :: _ :: _ :: _ :: _ :: _ :: _ :: _ :: _ :: _ :: _ :: _ :: _ :: _ :: _ :: _ :: _ :: _ :: _ :: _ :: _ :: _ :: _ :: _ :: _ :: _ :: _ :: _ :: _ :: _ :: _ :: _ :: _ :: _ :: _ :: _ :: _ :: _ :: _ :: _ :: _ :: _ :: _ :: _ :: _ :: _ :: _ :: _ :: _ :: _ :: _ :: _ :: _ :: _ :: _ :: _ :: _ :: _ :: _ :: _ :: _ :: _ :: _ :: _ :: _ :: _ :: _ :: _ :: _ :: _ :: _ :: _ :: _ :: _ :: _ :: _ :: _ :: _ :: _ :: _ :: _ :: _ :: _ :: _ :: _ :: _ :: _ :: _ :: _ :: _ :: _ :: _ :: _ :: _ :: _ :: _ :: _ :: _ :: .pointer (some ⟨O, 1, none⟩) :: .slice (some ⟨T, 0, none⟩) rows.length c2 :: .pointer (some ⟨w.heap.size + 1, 1, none⟩) :: .int .i64 t :: .pointer (some ⟨O, 1, none⟩) :: .slice (some ⟨T, 0, none⟩) rows.length c2 :: .pointer (some ⟨w.heap.size + 1, 1, none⟩) :: .int .i64 t :: .pointer (some ⟨T, t, none⟩) :: _ :: .pointer (some ⟨w.heap.size, 1, none⟩) :: .slice (some ⟨bb, off, none⟩) rows.length c :: _ :: _ :: _ :: _ :: _ :: _ :: _ :: _ :: _ :: _ :: _ :: _ :: _ :: _ :: _ :: _ :: _ :: _ :: _ :: _ :: _ :: _ :: _ :: _ :: _ :: []), defers := [] } _
      refine wpAnyH_take (i := 12) (v := .pointer (some ⟨w.heap.size + 1, 0, none⟩)) rfl (by kernel_rfl) (by kernel_rfl) (by kernel_rfl) (fun _ _ _ h => h) (Or.inl ⟨by kernel_rfl, fun w hS => by go_simp⟩) hHeld ?_
      change wpAnyH _ _ _ _ _ _ _ { tmps := List.toArray (_ :: _ :: _ :: _ :: _ :: _ :: _ :: _ :: _ :: _ :: _ :: _ :: _ :: _ :: _ :: _ :: _ :: _ :: _ :: _ :: _ :: _ :: _ :: _ :: _ :: _ :: _ :: _ :: _ :: _ :: _ :: _ :: _ :: _ :: _ :: _ :: _ :: _ :: _ :: _ :: _ :: _ :: _ :: _ :: _ :: _ :: _ :: _ :: _ :: _ :: _ :: _ :: _ :: _ :: _ :: _ :: _ :: _ :: _ :: _ :: _ :: _ :: _ :: _ :: _ :: _ :: _ :: _ :: _ :: _ :: _ :: _ :: _ :: _ :: _ :: _ :: _ :: _ :: _ :: _ :: _ :: _ :: _ :: _ :: _ :: _ :: _ :: _ :: _ :: _ :: _ :: _ :: _ :: _ :: _ :: _ :: _ :: _ :: .pointer (some ⟨O, 1, none⟩) :: .slice (some ⟨T, 0, none⟩) rows.length c2 :: .pointer (some ⟨w.heap.size + 1, 1, none⟩) :: .int .i64 t :: .pointer (some ⟨O, 1, none⟩) :: .slice (some ⟨T, 0, none⟩) rows.length c2 :: .pointer (some ⟨w.heap.size + 1, 1, none⟩) :: .int .i64 t :: .pointer (some ⟨T, t, none⟩) :: _ :: .pointer (some ⟨w.heap.size, 1, none⟩) :: .slice (some ⟨bb, off, none⟩) rows.length c :: .pointer (some ⟨w.heap.size + 1, 0, none⟩) :: _ :: _ :: _ :: _ :: _ :: _ :: _ :: _ :: _ :: _ :: _ :: _ :: _ :: _ :: _ :: _ :: _ :: _ :: _ :: _ :: _ :: _ :: _ :: _ :: []), defers := [] } _
      refine wpAnyH_take (i := 13) (v := .int .i64 f) rfl (by kernel_rfl) (by kernel_rfl) (by kernel_rfl) (fun _ _ _ h => h) (Or.inl ⟨by kernel_rfl, fun w hS => by (obtain ⟨hS0, hS1, hS2, hS3, hS4, hS5⟩ := hS; go_simp)⟩) hHeld ?_
      change wpAnyH _ _ _ _ _ _ _ { tmps := List.toArray (_ :: _ :: _ :: _ :: _ :: _ :: _ :: _ :: _ :: _ :: _ :: _ :: _ :: _ :: _ :: _ :: _ :: _ :: _ :: _ :: _ :: _ :: _ :: _ :: _ :: _ :: _ :: _ :: _ :: _ :: _ :: _ :: _ :: _ :: _ :: _ :: _ :: _ :: _ :: _ :: _ :: _ :: _ :: _ :: _ :: _ :: _ :: _ :: _ :: _ :: _ :: _ :: _ :: _ :: _ :: _ :: _ :: _ :: _ :: _ :: _ :: _ :: _ :: _ :: _ :: _ :: _ :: _ :: _ :: _ :: _ :: _ :: _ :: _ :: _ :: _ :: _ :: _ :: _ :: _ :: _ :: _ :: _ :: _ :: _ :: _ :: _ :: _ :: _ :: _ :: _ :: _ :: _ :: _ :: _ :: _ :: _ :: _ :: .pointer (some ⟨O, 1, none⟩) :: .slice (some ⟨T, 0, none⟩) rows.length c2 :: .pointer (some ⟨w.heap.size + 1, 1, none⟩) :: .int .i64 t :: .pointer (some ⟨O, 1, none⟩) :: .slice (some ⟨T, 0, none⟩) rows.length c2 :: .pointer (some ⟨w.heap.size + 1, 1, none⟩) :: .int .i64 t :: .pointer (some ⟨T, t, none⟩) :: _ :: .pointer (some ⟨w.heap.size, 1, none⟩) :: .slice (some ⟨bb, off, none⟩) rows.length c :: .pointer (some ⟨w.heap.size + 1, 0, none⟩) :: .int .i64 f :: _ :: _ :: _ :: _ :: _ :: _ :: _ :: _ :: _ :: _ :: _ :: _ :: _ :: _ :: _ :: _ :: _ :: _ :: _ :: _ :: _ :: _ :: _ :: []), defers := [] } _
      refine wpAnyH_take (i := 14) (v := .pointer (some ⟨bb, off + f, none⟩)) rfl (by kernel_rfl) (by kernel_rfl) (by kernel_rfl) (fun _ _ _ h => h) (Or.inl ⟨by kernel_rfl, fun w hS => by go_simp⟩) hHeld ?_
      change wpAnyH _ _ _ _ _ _ _ { tmps := List.toArray (_ :: _ :: _ :: _ :: _ :: _ :: _ :: _ :: _ :: _ :: _ :: _ :: _ :: _ :: _ :: _ :: _ :: _ :: _ :: _ :: _ :: _ :: _ :: _ :: _ :: _ :: _ :: _ :: _ :: _ :: _ :: _ :: _ :: _ :: _ :: _ :: _ :: _ :: _ :: _ :: _ :: _ :: _ :: _ :: _ :: _ :: _ :: _ :: _ :: _ :: _ :: _ :: _ :: _ :: _ :: _ :: _ :: _ :: _ :: _ :: _ :: _ :: _ :: _ :: _ :: _ :: _ :: _ :: _ :: _ :: _ :: _ :: _ :: _ :: _ :: _ :: _ :: _ :: _ :: _ :: _ :: _ :: _ :: _ :: _ :: _ :: _ :: _ :: _ :: _ :: _ :: _ :: _ :: _ :: _ :: _ :: _ :: _ :: .pointer (some ⟨O, 1, none⟩) :: .slice (some ⟨T, 0, none⟩) rows.length c2 :: .pointer (some ⟨w.heap.size + 1, 1, none⟩) :: .int .i64 t :: .pointer (some ⟨O, 1, none⟩) :: .slice (some ⟨T, 0, none⟩) rows.length c2 :: .pointer (some ⟨w.heap.size + 1, 1, none⟩) :: .int .i64 t :: .pointer (some ⟨T, t, none⟩) :: _ :: .pointer (some ⟨w.heap.size, 1, none⟩) :: .slice (some ⟨bb, off, none⟩) rows.length c :: .pointer (some ⟨w.heap.size + 1, 0, none⟩) :: .int .i64 f :: .pointer (some ⟨bb, off + f, none⟩) :: _ :: _ :: _ :: _ :: _ :: _ :: _ :: _ :: _ :: _ :: _ :: _ :: _ :: _ :: _ :: _ :: _ :: _ :: _ :: _ :: _ :: _ :: []), defers := [] } _
      refine wpAnyH_take (i := 15) (v := .slice (some ⟨xb, xo, none⟩) LF fc) rfl (by kernel_rfl) (by kernel_rfl) (by kernel_rfl) (fun _ _ _ h => h) (Or.inl ⟨by kernel_rfl, fun w hS => by (obtain ⟨hS0, hS1, hS2, hS3, hS4, hS5⟩ := hS; go_simp)⟩) hHeld ?_
      change wpAnyH _ _ _ _ _ _ _ { tmps := List.toArray (_ :: _ :: _ :: _ :: _ :: _ :: _ :: _ :: _ :: _ :: _ :: _ :: _ :: _ :: _ :: _ :: _ :: _ :: _ :: _ :: _ :: _ :: _ :: _ :: _ :: _ :: _ :: _ :: _ :: _ :: _ :: _ :: _ :: _ :: _ :: _ :: _ :: _ :: _ :: _ :: _ :: _ :: _ :: _ :: _ :: _ :: _ :: _ :: _ :: _ :: _ :: _ :: _ :: _ :: _ :: _ :: _ :: _ :: _ :: _ :: _ :: _ :: _ :: _ :: _ :: _ :: _ :: _ :: _ :: _ :: _ :: _ :: _ :: _ :: _ :: _ :: _ :: _ :: _ :: _ :: _ :: _ :: _ :: _ :: _ :: _ :: _ :: _ :: _ :: _ :: _ :: _ :: _ :: _ :: _ :: _ :: _ :: _ :: .pointer (some ⟨O, 1, none⟩) :: .slice (some ⟨T, 0, none⟩) rows.length c2 :: .pointer (some ⟨w.heap.size + 1, 1, none⟩) :: .int .i64 t :: .pointer (some ⟨O, 1, none⟩) :: .slice (some ⟨T, 0, none⟩) rows.length c2 :: .pointer (some ⟨w.heap.size + 1, 1, none⟩) :: .int .i64 t :: .pointer (some ⟨T, t, none⟩) :: _ :: .pointer (some ⟨w.heap.size, 1, none⟩) :: .slice (some ⟨bb, off, none⟩) rows.length c :: .pointer (some ⟨w.heap.size + 1, 0, none⟩) :: .int .i64 f :: .pointer (some ⟨bb, off + f, none⟩) :: .slice (some ⟨xb, xo, none⟩) LF fc :: _ :: _ :: _ :: _ :: _ :: _ :: _ :: _ :: _ :: _ :: _ :: _ :: _ :: _ :: _ :: _ :: _ :: _ :: _ :: _ :: _ :: []), defers := [] } _
      refine wpAnyH_take (i := 16) (v := .int .i64 I) rfl (by kernel_rfl) (by kernel_rfl) (by kernel_rfl) (fun _ _ _ h => h) (Or.inl ⟨by kernel_rfl, fun w hS => by go_simp⟩) hHeld ?_
      change wpAnyH _ _ _ _ _ _ _ { tmps := List.toArray (_ :: _ :: _ :: _ :: _ :: _ :: _ :: _ :: _ :: _ :: _ :: _ :: _ :: _ :: _ :: _ :: _ :: _ :: _ :: _ :: _ :: _ :: _ :: _ :: _ :: _ :: _ :: _ :: _ :: _ :: _ :: _ :: _ :: _ :: _ :: _ :: _ :: _ :: _ :: _ :: _ :: _ :: _ :: _ :: _ :: _ :: _ :: _ :: _ :: _ :: _ :: _ :: _ :: _ :: _ :: _ :: _ :: _ :: _ :: _ :: _ :: _ :: _ :: _ :: _ :: _ :: _ :: _ :: _ :: _ :: _ :: _ :: _ :: _ :: _ :: _ :: _ :: _ :: _ :: _ :: _ :: _ :: _ :: _ :: _ :: _ :: _ :: _ :: _ :: _ :: _ :: _ :: _ :: _ :: _ :: _ :: _ :: _ :: .pointer (some ⟨O, 1, none⟩) :: .slice (some ⟨T, 0, none⟩) rows.length c2 :: .pointer (some ⟨w.heap.size + 1, 1, none⟩) :: .int .i64 t :: .pointer (some ⟨O, 1, none⟩) :: .slice (some ⟨T, 0, none⟩) rows.length c2 :: .pointer (some ⟨w.heap.size + 1, 1, none⟩) :: .int .i64 t :: .pointer (some ⟨T, t, none⟩) :: _ :: .pointer (some ⟨w.heap.size, 1, none⟩) :: .slice (some ⟨bb, off, none⟩) rows.length c :: .pointer (some ⟨w.heap.size + 1, 0, none⟩) :: .int .i64 f :: .pointer (some ⟨bb, off + f, none⟩) :: .slice (some ⟨xb, xo, none⟩) LF fc :: .int .i64 I :: _ :: _ :: _ :: _ :: _ :: _ :: _ :: _ :: _ :: _ :: _ :: _ :: _ :: _ :: _ :: _ :: _ :: _ :: _ :: _ :: []), defers := [] } _
      refine wpAnyH_take (i := 17) (v := .pointer (some ⟨xb, xo + I, none⟩)) rfl (by kernel_rfl) (by kernel_rfl) (by kernel_rfl) (fun _ _ _ h => h) (Or.inl ⟨by kernel_rfl, fun w hS => by go_simp⟩) hHeld ?_
      change wpAnyH _ _ _ _ _ _ _ { tmps := List.toArray (_ :: _ :: _ :: _ :: _ :: _ :: _ :: _ :: _ :: _ :: _ :: _ :: _ :: _ :: _ :: _ :: _ :: _ :: _ :: _ :: _ :: _ :: _ :: _ :: _ :: _ :: _ :: _ :: _ :: _ :: _ :: _ :: _ :: _ :: _ :: _ :: _ :: _ :: _ :: _ :: _ :: _ :: _ :: _ :: _ :: _ :: _ :: _ :: _ :: _ :: _ :: _ :: _ :: _ :: _ :: _ :: _ :: _ :: _ :: _ :: _ :: _ :: _ :: _ :: _ :: _ :: _ :: _ :: _ :: _ :: _ :: _ :: _ :: _ :: _ :: _ :: _ :: _ :: _ :: _ :: _ :: _ :: _ :: _ :: _ :: _ :: _ :: _ :: _ :: _ :: _ :: _ :: _ :: _ :: _ :: _ :: _ :: _ :: .pointer (some ⟨O, 1, none⟩) :: .slice (some ⟨T, 0, none⟩) rows.length c2 :: .pointer (some ⟨w.heap.size + 1, 1, none⟩) :: .int .i64 t :: .pointer (some ⟨O, 1, none⟩) :: .slice (some ⟨T, 0, none⟩) rows.length c2 :: .pointer (some ⟨w.heap.size + 1, 1, none⟩) :: .int .i64 t :: .pointer (some ⟨T, t, none⟩) :: _ :: .pointer (some ⟨w.heap.size, 1, none⟩) :: .slice (some ⟨bb, off, none⟩) rows.length c :: .pointer (some ⟨w.heap.size + 1, 0, none⟩) :: .int .i64 f :: .pointer (some ⟨bb, off + f, none⟩) :: .slice (some ⟨xb, xo, none⟩) LF fc :: .int .i64 I :: .pointer (some ⟨xb, xo + I, none⟩) :: _ :: _ :: _ :: _ :: _ :: _ :: _ :: _ :: _ :: _ :: _ :: _ :: _ :: _ :: _ :: _ :: _ :: _ :: _ :: []), defers := [] } _
      refine wpAnyH_take (i := 18) (v := .int .i64 x) rfl (by kernel_rfl) (by kernel_rfl) (by kernel_rfl) (fun _ _ _ h => h) (Or.inl ⟨by kernel_rfl, fun w hS => by (obtain ⟨hS0, hS1, hS2, hS3, hS4, hS5⟩ := hS; go_simp)⟩) hHeld ?_
      change wpAnyH _ _ _ _ _ _ _ { tmps := List.toArray (_ :: _ :: _ :: _ :: _ :: _ :: _ :: _ :: _ :: _ :: _ :: _ :: _ :: _ :: _ :: _ :: _ :: _ :: _ :: _ :: _ :: _ :: _ :: _ :: _ :: _ :: _ :: _ :: _ :: _ :: _ :: _ :: _ :: _ :: _ :: _ :: _ :: _ :: _ :: _ :: _ :: _ :: _ :: _ :: _ :: _ :: _ :: _ :: _ :: _ :: _ :: _ :: _ :: _ :: _ :: _ :: _ :: _ :: _ :: _ :: _ :: _ :: _ :: _ :: _ :: _ :: _ :: _ :: _ :: _ :: _ :: _ :: _ :: _ :: _ :: _ :: _ :: _ :: _ :: _ :: _ :: _ :: _ :: _ :: _ :: _ :: _ :: _ :: _ :: _ :: _ :: _ :: _ :: _ :: _ :: _ :: _ :: _ :: .pointer (some ⟨O, 1, none⟩) :: .slice (some ⟨T, 0, none⟩) rows.length c2 :: .pointer (some ⟨w.heap.size + 1, 1, none⟩) :: .int .i64 t :: .pointer (some ⟨O, 1, none⟩) :: .slice (some ⟨T, 0, none⟩) rows.length c2 :: .pointer (some ⟨w.heap.size + 1, 1, none⟩) :: .int .i64 t :: .pointer (some ⟨T, t, none⟩) :: _ :: .pointer (some ⟨w.heap.size, 1, none⟩) :: .slice (some ⟨bb, off, none⟩) rows.length c :: .pointer (some ⟨w.heap.size + 1, 0, none⟩) :: .int .i64 f :: .pointer (some ⟨bb, off + f, none⟩) :: .slice (some ⟨xb, xo, none⟩) LF fc :: .int .i64 I :: .pointer (some ⟨xb, xo + I, none⟩) :: .int .i64 x :: _ :: _ :: _ :: _ :: _ :: _ :: _ :: _ :: _ :: _ :: _ :: _ :: _ :: _ :: _ :: _ :: _ :: _ :: []), defers := [] } _
      refine wpAnyH_ready (rs := [9, 19]) (by kernel_rfl) (by simp) ?_
      refine (AllReadyH.cons rfl (fun KK hK => ?_) (AllReadyH.cons rfl (fun KK hK => ?_) AllReadyH.nil))
      · skip
        go_simp
        clear hHeld
        refine hK.out _ _ (⟨d0, d1, d2, d3, d4, d5⟩) (fun hHeld => ?_)
        clear hK KK
        change wpAnyH _ _ _ _ _ _ _ { tmps := List.toArray (_ :: _ :: _ :: _ :: _ :: _ :: _ :: _ :: _ :: _ :: _ :: _ :: _ :: _ :: _ :: _ :: _ :: _ :: _ :: _ :: _ :: _ :: _ :: _ :: _ :: _ :: _ :: _ :: _ :: _ :: _ :: _ :: _ :: _ :: _ :: _ :: _ :: _ :: _ :: _ :: _ :: _ :: _ :: _ :: _ :: _ :: _ :: _ :: _ :: _ :: _ :: _ :: _ :: _ :: _ :: _ :: _ :: _ :: _ :: _ :: _ :: _ :: _ :: _ :: _ :: _ :: _ :: _ :: _ :: _ :: _ :: _ :: _ :: _ :: _ :: _ :: _ :: _ :: _ :: _ :: _ :: _ :: _ :: _ :: _ :: _ :: _ :: _ :: _ :: _ :: _ :: _ :: _ :: _ :: _ :: _ :: _ :: _ :: .pointer (some ⟨O, 1, none⟩) :: .slice (some ⟨T, 0, none⟩) rows.length c2 :: .pointer (some ⟨w.heap.size + 1, 1, none⟩) :: .int .i64 t :: .pointer (some ⟨O, 1, none⟩) :: .slice (some ⟨T, 0, none⟩) rows.length c2 :: .pointer (some ⟨w.heap.size + 1, 1, none⟩) :: .int .i64 t :: .pointer (some ⟨T, t, none⟩) :: .slice ua N uc :: .pointer (some ⟨w.heap.size, 1, none⟩) :: .slice (some ⟨bb, off, none⟩) rows.length c :: .pointer (some ⟨w.heap.size + 1, 0, none⟩) :: .int .i64 f :: .pointer (some ⟨bb, off + f, none⟩) :: .slice (some ⟨xb, xo, none⟩) LF fc :: .int .i64 I :: .pointer (some ⟨xb, xo + I, none⟩) :: .int .i64 x :: _ :: _ :: _ :: _ :: _ :: _ :: _ :: _ :: _ :: _ :: _ :: _ :: _ :: _ :: _ :: _ :: _ :: _ :: []), defers := [] } _
        refine wpAnyH_ready (rs := [19]) (by kernel_rfl) (by simp) ?_
        refine (AllReadyH.cons rfl (fun KK hK => ?_) AllReadyH.nil)
        go_simp
        have pT1 := ble (balloc wd (.cells #[.int .i64 x] 3)) pTd
        clear hHeld
        refine hK.out _ _ (⟨ble (balloc wd (.cells #[.int .i64 x] 3)) d0, ble (balloc wd (.cells #[.int .i64 x] 3)) d1, ble (balloc wd (.cells #[.int .i64 x] 3)) d2, ble (balloc wd (.cells #[.int .i64 x] 3)) d3, ble (balloc wd (.cells #[.int .i64 x] 3)) d4, ble (balloc wd (.cells #[.int .i64 x] 3)) d5⟩) (fun hHeld => ?_)
        clear hK KK
        change wpAnyH _ _ _ _ _ _ _ { tmps := List.toArray (_ :: _ :: _ :: _ :: _ :: _ :: _ :: _ :: _ :: _ :: _ :: _ :: _ :: _ :: _ :: _ :: _ :: _ :: _ :: _ :: _ :: _ :: _ :: _ :: _ :: _ :: _ :: _ :: _ :: _ :: _ :: _ :: _ :: _ :: _ :: _ :: _ :: _ :: _ :: _ :: _ :: _ :: _ :: _ :: _ :: _ :: _ :: _ :: _ :: _ :: _ :: _ :: _ :: _ :: _ :: _ :: _ :: _ :: _ :: _ :: _ :: _ :: _ :: _ :: _ :: _ :: _ :: _ :: _ :: _ :: _ :: _ :: _ :: _ :: _ :: _ :: _ :: _ :: _ :: _ :: _ :: _ :: _ :: _ :: _ :: _ :: _ :: _ :: _ :: _ :: _ :: _ :: _ :: _ :: _ :: _ :: _ :: _ :: .pointer (some ⟨O, 1, none⟩) :: .slice (some ⟨T, 0, none⟩) rows.length c2 :: .pointer (some ⟨w.heap.size + 1, 1, none⟩) :: .int .i64 t :: .pointer (some ⟨O, 1, none⟩) :: .slice (some ⟨T, 0, none⟩) rows.length c2 :: .pointer (some ⟨w.heap.size + 1, 1, none⟩) :: .int .i64 t :: .pointer (some ⟨T, t, none⟩) :: .slice ua N uc :: .pointer (some ⟨w.heap.size, 1, none⟩) :: .slice (some ⟨bb, off, none⟩) rows.length c :: .pointer (some ⟨w.heap.size + 1, 0, none⟩) :: .int .i64 f :: .pointer (some ⟨bb, off + f, none⟩) :: .slice (some ⟨xb, xo, none⟩) LF fc :: .int .i64 I :: .pointer (some ⟨xb, xo + I, none⟩) :: .int .i64 x :: .slice (some ⟨wd.heap.size, 0, none⟩) 1 1 :: _ :: _ :: _ :: _ :: _ :: _ :: _ :: _ :: _ :: _ :: _ :: _ :: _ :: _ :: _ :: _ :: _ :: []), defers := [] } _
        refine wpAnyH_ready (rs := [20]) (by kernel_rfl) (by simp) ?_
        refine (AllReadyH.cons rfl (fun KK hK => ?_) AllReadyH.nil)
        refine step_append_lies _ (by rfl) _ _ 24 (by rfl) Bw 3 i1 (.int .i64 0) 1 8 Try.underlying24 hi1 hy0 hy1 hy2 rfl (by omega) (.slice ua N uc) N (enc ys) (by rfl) (own_keep hot (balloc wd (.cells #[.int .i64 x] 3))) ⟨wd.heap.size, 0, none⟩ 1 1 [.int .i64 x] (by rfl) rfl (World.news_of_block (heap_alloc_new wd _)) (fun u hu => by simp at hu; subst hu; rfl) (by omega) (by unfold maxLen; omega) (by omega) (by rw [sz1]; omega) (wd.heap.size + 1) (by rw [sz1]) ?_
        intro g gc w3 hown hgrow hwh hgl
        have hgrow2 : (wd.alloc (.cells #[.int .i64 x] 3)).grownBy w3 vs[t].ownBlock := by rw [hvt]; exact hgrow
        have hown2 : w3.ownsRow Bw 3 1 (.slice (some ⟨g, 0, none⟩) (N + 1) gc) (ys ++ [x]).length (enc (ys ++ [x])) := by rw [List.length_append, hNl.out]; simpa [enc] using hown
        have hS9 := (hSd.below (balloc wd (.cells #[.int .i64 x] 3))).turn (u := (.slice (some ⟨g, 0, none⟩) (N + 1) gc)) htv hgrow2 (.inl hown2) (by
          rcases hwh with q | q
          · left; rw [hvt, q]; rfl
          · right; intro b hb; simp [Value.ownBlock] at hb; rw [sz1]; omega)
        have hA9 := OwnAll.turn (hSd.below (balloc wd (.cells #[.int .i64 x] 3))) (OwnAll.below hAd (balloc wd (.cells #[.int .i64 x] 3))) htv hgrow2 hown2
        rw [setR_twice] at hS9 hA9
        have hTT : (wd.alloc (.cells #[.int .i64 x] 3)).ownsRow Bw 24 1 (.slice (some ⟨T, 0, none⟩) rows.length c2) rows.length vs := by have h8 := (hSd.below (balloc wd (.cells #[.int .i64 x] 3))).tab.own; rw [setR_len] at h8; exact h8
        obtain ⟨B0, B0'⟩ := keepBlk (j := t) (u2 := (.slice (some ⟨g, 0, none⟩) (N + 1) gc)) (own_keep hot (balloc wd (.cells #[.int .i64 x] 3))) hTT hgrow (blk_keep (balloc wd (.cells #[.int .i64 x] 3)) A0d) (by decide) (by decide)
        obtain ⟨B1, B1'⟩ := keepBlk (j := t) (u2 := (.slice (some ⟨g, 0, none⟩) (N + 1) gc)) (own_keep hot (balloc wd (.cells #[.int .i64 x] 3))) hTT hgrow (blk_keep (balloc wd (.cells #[.int .i64 x] 3)) A1d) (by decide) (by decide)
        obtain ⟨B2, B2'⟩ := keepBlk (j := t) (u2 := (.slice (some ⟨g, 0, none⟩) (N + 1) gc)) (own_keep hot (balloc wd (.cells #[.int .i64 x] 3))) hTT hgrow (blk_keep (balloc wd (.cells #[.int .i64 x] 3)) A2d) (by decide) (by decide)
        obtain ⟨BO, BO'⟩ := keepBlk (j := t) (u2 := (.slice (some ⟨g, 0, none⟩) (N + 1) gc)) (own_keep hot (balloc wd (.cells #[.int .i64 x] 3))) hTT hgrow (blk_keep (balloc wd (.cells #[.int .i64 x] 3)) KOd) (by decide) (by decide)
        have HB3 : Below w.heap.size w w3 := (HBd.trans ((balloc wd (.cells #[.int .i64 x] 3)).mono hsd)).grown hgrow (by rw [sz1]; omega) (fun b hb => by have := own_from hot (Nat.le_refl _) b hb; omega)
        have HB9 : Below w.heap.size w (w3.setCell ⟨T, t, none⟩ (.slice (some ⟨g, 0, none⟩) (N + 1) gc)) := below_set (by have := (hTT.lt T rfl).1; omega) HB3
        have pT3 : w3.cell? ⟨T, t, none⟩ = some (.slice ua N uc) := by
          rw [World.cell?_of_block (w := wd.alloc (.cells #[.int .i64 x] 3)) (hgrow.block T (hTT.lt T rfl).2 (fun e => (hSd.below (balloc wd (.cells #[.int .i64 x] 3))).tab.apart (by decide) t htv T (by rw [hvt]; exact e.symm) rfl))]
          exact ble (balloc wd (.cells #[.int .i64 x] 3)) pTd
        have fT3 : w3.frozen? ⟨T, t, none⟩ = false := by
          rw [World.frozen?_of_block (w := wd.alloc (.cells #[.int .i64 x] 3)) (hgrow.block T (hTT.lt T rfl).2 (fun e => (hSd.below (balloc wd (.cells #[.int .i64 x] 3))).tab.apart (by decide) t htv T (by rw [hvt]; exact e.symm) rfl))]
          exact hTT.frozenAt t
        have y0 : w3.cell? ⟨O, 1, none⟩ = some (.slice (some ⟨T, 0, none⟩) rows.length c2) := by rw [cell_blk BO]; rfl
        have y1 : w3.cell? ⟨w.heap.size + 1, 0, none⟩ = some (.int .i64 f) := by rw [cell_blk B1]; rfl
        have y2 : w3.cell? ⟨w.heap.size + 1, 1, none⟩ = some (.int .i64 t) := by rw [cell_blk B1]; rfl
        have y3 : w3.cell? ⟨w.heap.size, 1, none⟩ = some (.slice (some ⟨bb, off, none⟩) rows.length c) := by rw [cell_blk B0]; rfl
        have y4 : w3.cell? ⟨bb, off + f, none⟩ = some (.slice (some ⟨xb, xo, none⟩) LF fc) := ble HB3 pf0
        have y5 : w3.cell? ⟨xb, xo + I, none⟩ = some (.int .i64 x) := ble HB3 px0
        clear hHeld
        refine hK.out _ _ (⟨y0, y1, y2, y3, y4, y5⟩) (fun hHeld => ?_)
        clear hK KK
        change wpAnyH _ _ _ _ _ _ _ { tmps := List.toArray (_ :: _ :: _ :: _ :: _ :: _ :: _ :: _ :: _ :: _ :: _ :: _ :: _ :: _ :: _ :: _ :: _ :: _ :: _ :: _ :: _ :: _ :: _ :: _ :: _ :: _ :: _ :: _ :: _ :: _ :: _ :: _ :: _ :: _ :: _ :: _ :: _ :: _ :: _ :: _ :: _ :: _ :: _ :: _ :: _ :: _ :: _ :: _ :: _ :: _ :: _ :: _ :: _ :: _ :: _ :: _ :: _ :: _ :: _ :: _ :: _ :: _ :: _ :: _ :: _ :: _ :: _ :: _ :: _ :: _ :: _ :: _ :: _ :: _ :: _ :: _ :: _ :: _ :: _ :: _ :: _ :: _ :: _ :: _ :: _ :: _ :: _ :: _ :: _ :: _ :: _ :: _ :: _ :: _ :: _ :: _ :: _ :: _ :: .pointer (some ⟨O, 1, none⟩) :: .slice (some ⟨T, 0, none⟩) rows.length c2 :: .pointer (some ⟨w.heap.size + 1, 1, none⟩) :: .int .i64 t :: .pointer (some ⟨O, 1, none⟩) :: .slice (some ⟨T, 0, none⟩) rows.length c2 :: .pointer (some ⟨w.heap.size + 1, 1, none⟩) :: .int .i64 t :: .pointer (some ⟨T, t, none⟩) :: .slice ua N uc :: .pointer (some ⟨w.heap.size, 1, none⟩) :: .slice (some ⟨bb, off, none⟩) rows.length c :: .pointer (some ⟨w.heap.size + 1, 0, none⟩) :: .int .i64 f :: .pointer (some ⟨bb, off + f, none⟩) :: .slice (some ⟨xb, xo, none⟩) LF fc :: .int .i64 I :: .pointer (some ⟨xb, xo + I, none⟩) :: .int .i64 x :: .slice (some ⟨wd.heap.size, 0, none⟩) 1 1 :: .slice (some ⟨g, 0, none⟩) (N + 1) gc :: _ :: _ :: _ :: _ :: _ :: _ :: _ :: _ :: _ :: _ :: _ :: _ :: _ :: _ :: _ :: _ :: []), defers := [] } _
        refine wpAnyH_take (i := 21) (v := .pointer (some ⟨T, t, none⟩)) rfl (by kernel_rfl) (by kernel_rfl) (by kernel_rfl) (fun _ _ _ h => h) (Or.inl ⟨by kernel_rfl, fun w hS => by go_simp⟩) hHeld ?_
        change wpAnyH _ _ _ _ _ _ _ { tmps := List.toArray (_ :: _ :: _ :: _ :: _ :: _ :: _ :: _ :: _ :: _ :: _ :: _ :: _ :: _ :: _ :: _ :: _ :: _ :: _ :: _ :: _ :: _ :: _ :: _ :: _ :: _ :: _ :: _ :: _ :: _ :: _ :: _ :: _ :: _ :: _ :: _ :: _ :: _ :: _ :: _ :: _ :: _ :: _ :: _ :: _ :: _ :: _ :: _ :: _ :: _ :: _ :: _ :: _ :: _ :: _ :: _ :: _ :: _ :: _ :: _ :: _ :: _ :: _ :: _ :: _ :: _ :: _ :: _ :: _ :: _ :: _ :: _ :: _ :: _ :: _ :: _ :: _ :: _ :: _ :: _ :: _ :: _ :: _ :: _ :: _ :: _ :: _ :: _ :: _ :: _ :: _ :: _ :: _ :: _ :: _ :: _ :: _ :: _ :: .pointer (some ⟨O, 1, none⟩) :: .slice (some ⟨T, 0, none⟩) rows.length c2 :: .pointer (some ⟨w.heap.size + 1, 1, none⟩) :: .int .i64 t :: .pointer (some ⟨O, 1, none⟩) :: .slice (some ⟨T, 0, none⟩) rows.length c2 :: .pointer (some ⟨w.heap.size + 1, 1, none⟩) :: .int .i64 t :: .pointer (some ⟨T, t, none⟩) :: .slice ua N uc :: .pointer (some ⟨w.heap.size, 1, none⟩) :: .slice (some ⟨bb, off, none⟩) rows.length c :: .pointer (some ⟨w.heap.size + 1, 0, none⟩) :: .int .i64 f :: .pointer (some ⟨bb, off + f, none⟩) :: .slice (some ⟨xb, xo, none⟩) LF fc :: .int .i64 I :: .pointer (some ⟨xb, xo + I, none⟩) :: .int .i64 x :: .slice (some ⟨wd.heap.size, 0, none⟩) 1 1 :: .slice (some ⟨g, 0, none⟩) (N + 1) gc :: .pointer (some ⟨T, t, none⟩) :: _ :: _ :: _ :: _ :: _ :: _ :: _ :: _ :: _ :: _ :: _ :: _ :: _ :: _ :: _ :: []), defers := [] } _
        refine wpAnyH_ready (rs := [22]) (by kernel_rfl) (by simp) ?_
        refine (AllReadyH.cons rfl (fun KK hK => ?_) AllReadyH.nil)
        go_simp
        have z0 : (w3.setCell ⟨T, t, none⟩ (.slice (some ⟨g, 0, none⟩) (N + 1) gc)).cell? ⟨O, 1, none⟩ = some (.slice (some ⟨T, 0, none⟩) rows.length c2) := by rw [cell_blk BO']; rfl
        have z1 : (w3.setCell ⟨T, t, none⟩ (.slice (some ⟨g, 0, none⟩) (N + 1) gc)).cell? ⟨w.heap.size + 1, 0, none⟩ = some (.int .i64 f) := by rw [cell_blk B1']; rfl
        have z2 : (w3.setCell ⟨T, t, none⟩ (.slice (some ⟨g, 0, none⟩) (N + 1) gc)).cell? ⟨w.heap.size + 1, 1, none⟩ = some (.int .i64 t) := by rw [cell_blk B1']; rfl
        have z3 : (w3.setCell ⟨T, t, none⟩ (.slice (some ⟨g, 0, none⟩) (N + 1) gc)).cell? ⟨w.heap.size, 1, none⟩ = some (.slice (some ⟨bb, off, none⟩) rows.length c) := by rw [cell_blk B0']; rfl
        have z4 : (w3.setCell ⟨T, t, none⟩ (.slice (some ⟨g, 0, none⟩) (N + 1) gc)).cell? ⟨bb, off + f, none⟩ = some (.slice (some ⟨xb, xo, none⟩) LF fc) := ble HB9 pf0
        have z5 : (w3.setCell ⟨T, t, none⟩ (.slice (some ⟨g, 0, none⟩) (N + 1) gc)).cell? ⟨xb, xo + I, none⟩ = some (.int .i64 x) := ble HB9 px0
        clear hHeld
        refine hK.out _ _ (⟨z0, z1, z2, z3, z4, z5⟩) (fun hHeld => ?_)
        clear hK KK
        change wpAnyH _ _ _ _ _ _ _ { tmps := List.toArray (_ :: _ :: _ :: _ :: _ :: _ :: _ :: _ :: _ :: _ :: _ :: _ :: _ :: _ :: _ :: _ :: _ :: _ :: _ :: _ :: _ :: _ :: _ :: _ :: _ :: _ :: _ :: _ :: _ :: _ :: _ :: _ :: _ :: _ :: _ :: _ :: _ :: _ :: _ :: _ :: _ :: _ :: _ :: _ :: _ :: _ :: _ :: _ :: _ :: _ :: _ :: _ :: _ :: _ :: _ :: _ :: _ :: _ :: _ :: _ :: _ :: _ :: _ :: _ :: _ :: _ :: _ :: _ :: _ :: _ :: _ :: _ :: _ :: _ :: _ :: _ :: _ :: _ :: _ :: _ :: _ :: _ :: _ :: _ :: _ :: _ :: _ :: _ :: _ :: _ :: _ :: _ :: _ :: _ :: _ :: _ :: _ :: _ :: .pointer (some ⟨O, 1, none⟩) :: .slice (some ⟨T, 0, none⟩) rows.length c2 :: .pointer (some ⟨w.heap.size + 1, 1, none⟩) :: .int .i64 t :: .pointer (some ⟨O, 1, none⟩) :: .slice (some ⟨T, 0, none⟩) rows.length c2 :: .pointer (some ⟨w.heap.size + 1, 1, none⟩) :: .int .i64 t :: .pointer (some ⟨T, t, none⟩) :: .slice ua N uc :: .pointer (some ⟨w.heap.size, 1, none⟩) :: .slice (some ⟨bb, off, none⟩) rows.length c :: .pointer (some ⟨w.heap.size + 1, 0, none⟩) :: .int .i64 f :: .pointer (some ⟨bb, off + f, none⟩) :: .slice (some ⟨xb, xo, none⟩) LF fc :: .int .i64 I :: .pointer (some ⟨xb, xo + I, none⟩) :: .int .i64 x :: .slice (some ⟨wd.heap.size, 0, none⟩) 1 1 :: .slice (some ⟨g, 0, none⟩) (N + 1) gc :: .pointer (some ⟨T, t, none⟩) :: _ :: _ :: _ :: _ :: _ :: _ :: _ :: _ :: _ :: _ :: _ :: _ :: _ :: _ :: _ :: []), defers := [] } _
        refine wpAnyH_done (by kernel_rfl) ?_ _
        clear hown hown2 hgrow hgrow2 hwh hTT B0 B1 B2 BO HB3 pT3 fT3 hSd hAd hot A0d A1d A2d KOd HBd y0 y1 y2 y3 y4 y5 z0 z1 z2 z3 z4 z5
        go_wp2
        go_roundw
        case rel => exact ⟨I + 1, j + 1, _, _, by omega, by go_num, hI2, hys2, hS9, hA9, B0', B1', B2', BO', HB9⟩
        case measure => simp [intOf]; omega
      · skip
        go_simp
        have pT1 := ble (balloc wd (.cells #[.int .i64 x] 3)) pTd
        clear hHeld
        refine hK.out _ _ (⟨ble (balloc wd (.cells #[.int .i64 x] 3)) d0, ble (balloc wd (.cells #[.int .i64 x] 3)) d1, ble (balloc wd (.cells #[.int .i64 x] 3)) d2, ble (balloc wd (.cells #[.int .i64 x] 3)) d3, ble (balloc wd (.cells #[.int .i64 x] 3)) d4, ble (balloc wd (.cells #[.int .i64 x] 3)) d5⟩) (fun hHeld => ?_)
        clear hK KK
        change wpAnyH _ _ _ _ _ _ _ { tmps := List.toArray (_ :: _ :: _ :: _ :: _ :: _ :: _ :: _ :: _ :: _ :: _ :: _ :: _ :: _ :: _ :: _ :: _ :: _ :: _ :: _ :: _ :: _ :: _ :: _ :: _ :: _ :: _ :: _ :: _ :: _ :: _ :: _ :: _ :: _ :: _ :: _ :: _ :: _ :: _ :: _ :: _ :: _ :: _ :: _ :: _ :: _ :: _ :: _ :: _ :: _ :: _ :: _ :: _ :: _ :: _ :: _ :: _ :: _ :: _ :: _ :: _ :: _ :: _ :: _ :: _ :: _ :: _ :: _ :: _ :: _ :: _ :: _ :: _ :: _ :: _ :: _ :: _ :: _ :: _ :: _ :: _ :: _ :: _ :: _ :: _ :: _ :: _ :: _ :: _ :: _ :: _ :: _ :: _ :: _ :: _ :: _ :: _ :: _ :: .pointer (some ⟨O, 1, none⟩) :: .slice (some ⟨T, 0, none⟩) rows.length c2 :: .pointer (some ⟨w.heap.size + 1, 1, none⟩) :: .int .i64 t :: .pointer (some ⟨O, 1, none⟩) :: .slice (some ⟨T, 0, none⟩) rows.length c2 :: .pointer (some ⟨w.heap.size + 1, 1, none⟩) :: .int .i64 t :: .pointer (some ⟨T, t, none⟩) :: _ :: .pointer (some ⟨w.heap.size, 1, none⟩) :: .slice (some ⟨bb, off, none⟩) rows.length c :: .pointer (some ⟨w.heap.size + 1, 0, none⟩) :: .int .i64 f :: .pointer (some ⟨bb, off + f, none⟩) :: .slice (some ⟨xb, xo, none⟩) LF fc :: .int .i64 I :: .pointer (some ⟨xb, xo + I, none⟩) :: .int .i64 x :: .slice (some ⟨wd.heap.size, 0, none⟩) 1 1 :: _ :: _ :: _ :: _ :: _ :: _ :: _ :: _ :: _ :: _ :: _ :: _ :: _ :: _ :: _ :: _ :: _ :: []), defers := [] } _
        refine wpAnyH_ready (rs := [9]) (by kernel_rfl) (by simp) ?_
        refine (AllReadyH.cons rfl (fun KK hK => ?_) AllReadyH.nil)
        go_simp
        clear hHeld
        refine hK.out _ _ (⟨ble (balloc wd (.cells #[.int .i64 x] 3)) d0, ble (balloc wd (.cells #[.int .i64 x] 3)) d1, ble (balloc wd (.cells #[.int .i64 x] 3)) d2, ble (balloc wd (.cells #[.int .i64 x] 3)) d3, ble (balloc wd (.cells #[.int .i64 x] 3)) d4, ble (balloc wd (.cells #[.int .i64 x] 3)) d5⟩) (fun hHeld => ?_)
        clear hK KK
        change wpAnyH _ _ _ _ _ _ _ { tmps := List.toArray (_ :: _ :: _ :: _ :: _ :: _ :: _ :: _ :: _ :: _ :: _ :: _ :: _ :: _ :: _ :: _ :: _ :: _ :: _ :: _ :: _ :: _ :: _ :: _ :: _ :: _ :: _ :: _ :: _ :: _ :: _ :: _ :: _ :: _ :: _ :: _ :: _ :: _ :: _ :: _ :: _ :: _ :: _ :: _ :: _ :: _ :: _ :: _ :: _ :: _ :: _ :: _ :: _ :: _ :: _ :: _ :: _ :: _ :: _ :: _ :: _ :: _ :: _ :: _ :: _ :: _ :: _ :: _ :: _ :: _ :: _ :: _ :: _ :: _ :: _ :: _ :: _ :: _ :: _ :: _ :: _ :: _ :: _ :: _ :: _ :: _ :: _ :: _ :: _ :: _ :: _ :: _ :: _ :: _ :: _ :: _ :: _ :: _ :: .pointer (some ⟨O, 1, none⟩) :: .slice (some ⟨T, 0, none⟩) rows.length c2 :: .pointer (some ⟨w.heap.size + 1, 1, none⟩) :: .int .i64 t :: .pointer (some ⟨O, 1, none⟩) :: .slice (some ⟨T, 0, none⟩) rows.length c2 :: .pointer (some ⟨w.heap.size + 1, 1, none⟩) :: .int .i64 t :: .pointer (some ⟨T, t, none⟩) :: .slice ua N uc :: .pointer (some ⟨w.heap.size, 1, none⟩) :: .slice (some ⟨bb, off, none⟩) rows.length c :: .pointer (some ⟨w.heap.size + 1, 0, none⟩) :: .int .i64 f :: .pointer (some ⟨bb, off + f, none⟩) :: .slice (some ⟨xb, xo, none⟩) LF fc :: .int .i64 I :: .pointer (some ⟨xb, xo + I, none⟩) :: .int .i64 x :: .slice (some ⟨wd.heap.size, 0, none⟩) 1 1 :: _ :: _ :: _ :: _ :: _ :: _ :: _ :: _ :: _ :: _ :: _ :: _ :: _ :: _ :: _ :: _ :: _ :: []), defers := [] } _
        refine wpAnyH_ready (rs := [20]) (by kernel_rfl) (by simp) ?_
        refine (AllReadyH.cons rfl (fun KK hK => ?_) AllReadyH.nil)
        refine step_append_lies _ (by rfl) _ _ 24 (by rfl) Bw 3 i1 (.int .i64 0) 1 8 Try.underlying24 hi1 hy0 hy1 hy2 rfl (by omega) (.slice ua N uc) N (enc ys) (by rfl) (own_keep hot (balloc wd (.cells #[.int .i64 x] 3))) ⟨wd.heap.size, 0, none⟩ 1 1 [.int .i64 x] (by rfl) rfl (World.news_of_block (heap_alloc_new wd _)) (fun u hu => by simp at hu; subst hu; rfl) (by omega) (by unfold maxLen; omega) (by omega) (by rw [sz1]; omega) (wd.heap.size + 1) (by rw [sz1]) ?_
        intro g gc w3 hown hgrow hwh hgl
        have hgrow2 : (wd.alloc (.cells #[.int .i64 x] 3)).grownBy w3 vs[t].ownBlock := by rw [hvt]; exact hgrow
        have hown2 : w3.ownsRow Bw 3 1 (.slice (some ⟨g, 0, none⟩) (N + 1) gc) (ys ++ [x]).length (enc (ys ++ [x])) := by rw [List.length_append, hNl.out]; simpa [enc] using hown
        have hS9 := (hSd.below (balloc wd (.cells #[.int .i64 x] 3))).turn (u := (.slice (some ⟨g, 0, none⟩) (N + 1) gc)) htv hgrow2 (.inl hown2) (by
          rcases hwh with q | q
          · left; rw [hvt, q]; rfl
          · right; intro b hb; simp [Value.ownBlock] at hb; rw [sz1]; omega)
        have hA9 := OwnAll.turn (hSd.below (balloc wd (.cells #[.int .i64 x] 3))) (OwnAll.below hAd (balloc wd (.cells #[.int .i64 x] 3))) htv hgrow2 hown2
        rw [setR_twice] at hS9 hA9
        have hTT : (wd.alloc (.cells #[.int .i64 x] 3)).ownsRow Bw 24 1 (.slice (some ⟨T, 0, none⟩) rows.length c2) rows.length vs := by have h8 := (hSd.below (balloc wd (.cells #[.int .i64 x] 3))).tab.own; rw [setR_len] at h8; exact h8
        obtain ⟨B0, B0'⟩ := keepBlk (j := t) (u2 := (.slice (some ⟨g, 0, none⟩) (N + 1) gc)) (own_keep hot (balloc wd (.cells #[.int .i64 x] 3))) hTT hgrow (blk_keep (balloc wd (.cells #[.int .i64 x] 3)) A0d) (by decide) (by decide)
        obtain ⟨B1, B1'⟩ := keepBlk (j := t) (u2 := (.slice (some ⟨g, 0, none⟩) (N + 1) gc)) (own_keep hot (balloc wd (.cells #[.int .i64 x] 3))) hTT hgrow (blk_keep (balloc wd (.cells #[.int .i64 x] 3)) A1d) (by decide) (by decide)
        obtain ⟨B2, B2'⟩ := keepBlk (j := t) (u2 := (.slice (some ⟨g, 0, none⟩) (N + 1) gc)) (own_keep hot (balloc wd (.cells #[.int .i64 x] 3))) hTT hgrow (blk_keep (balloc wd (.cells #[.int .i64 x] 3)) A2d) (by decide) (by decide)
        obtain ⟨BO, BO'⟩ := keepBlk (j := t) (u2 := (.slice (some ⟨g, 0, none⟩) (N + 1) gc)) (own_keep hot (balloc wd (.cells #[.int .i64 x] 3))) hTT hgrow (blk_keep (balloc wd (.cells #[.int .i64 x] 3)) KOd) (by decide) (by decide)
        have HB3 : Below w.heap.size w w3 := (HBd.trans ((balloc wd (.cells #[.int .i64 x] 3)).mono hsd)).grown hgrow (by rw [sz1]; omega) (fun b hb => by have := own_from hot (Nat.le_refl _) b hb; omega)
        have HB9 : Below w.heap.size w (w3.setCell ⟨T, t, none⟩ (.slice (some ⟨g, 0, none⟩) (N + 1) gc)) := below_set (by have := (hTT.lt T rfl).1; omega) HB3
        have pT3 : w3.cell? ⟨T, t, none⟩ = some (.slice ua N uc) := by
          rw [World.cell?_of_block (w := wd.alloc (.cells #[.int .i64 x] 3)) (hgrow.block T (hTT.lt T rfl).2 (fun e => (hSd.below (balloc wd (.cells #[.int .i64 x] 3))).tab.apart (by decide) t htv T (by rw [hvt]; exact e.symm) rfl))]
          exact ble (balloc wd (.cells #[.int .i64 x] 3)) pTd
        have fT3 : w3.frozen? ⟨T, t, none⟩ = false := by
          rw [World.frozen?_of_block (w := wd.alloc (.cells #[.int .i64 x] 3)) (hgrow.block T (hTT.lt T rfl).2 (fun e => (hSd.below (balloc wd (.cells #[.int .i64 x] 3))).tab.apart (by decide) t htv T (by rw [hvt]; exact e.symm) rfl))]
          exact hTT.frozenAt t
        have y0 : w3.cell? ⟨O, 1, none⟩ = some (.slice (some ⟨T, 0, none⟩) rows.length c2) := by rw [cell_blk BO]; rfl
        have y1 : w3.cell? ⟨w.heap.size + 1, 0, none⟩ = some (.int .i64 f) := by rw [cell_blk B1]; rfl
        have y2 : w3.cell? ⟨w.heap.size + 1, 1, none⟩ = some (.int .i64 t) := by rw [cell_blk B1]; rfl
        have y3 : w3.cell? ⟨w.heap.size, 1, none⟩ = some (.slice (some ⟨bb, off, none⟩) rows.length c) := by rw [cell_blk B0]; rfl
        have y4 : w3.cell? ⟨bb, off + f, none⟩ = some (.slice (some ⟨xb, xo, none⟩) LF fc) := ble HB3 pf0
        have y5 : w3.cell? ⟨xb, xo + I, none⟩ = some (.int .i64 x) := ble HB3 px0
        clear hHeld
        refine hK.out _ _ (⟨y0, y1, y2, y3, y4, y5⟩) (fun hHeld => ?_)
        clear hK KK
        change wpAnyH _ _ _ _ _ _ _ { tmps := List.toArray (_ :: _ :: _ :: _ :: _ :: _ :: _ :: _ :: _ :: _ :: _ :: _ :: _ :: _ :: _ :: _ :: _ :: _ :: _ :: _ :: _ :: _ :: _ :: _ :: _ :: _ :: _ :: _ :: _ :: _ :: _ :: _ :: _ :: _ :: _ :: _ :: _ :: _ :: _ :: _ :: _ :: _ :: _ :: _ :: _ :: _ :: _ :: _ :: _ :: _ :: _ :: _ :: _ :: _ :: _ :: _ :: _ :: _ :: _ :: _ :: _ :: _ :: _ :: _ :: _ :: _ :: _ :: _ :: _ :: _ :: _ :: _ :: _ :: _ :: _ :: _ :: _ :: _ :: _ :: _ :: _ :: _ :: _ :: _ :: _ :: _ :: _ :: _ :: _ :: _ :: _ :: _ :: _ :: _ :: _ :: _ :: _ :: _ :: .pointer (some ⟨O, 1, none⟩) :: .slice (some ⟨T, 0, none⟩) rows.length c2 :: .pointer (some ⟨w.heap.size + 1, 1, none⟩) :: .int .i64 t :: .pointer (some ⟨O, 1, none⟩) :: .slice (some ⟨T, 0, none⟩) rows.length c2 :: .pointer (some ⟨w.heap.size + 1, 1, none⟩) :: .int .i64 t :: .pointer (some ⟨T, t, none⟩) :: .slice ua N uc :: .pointer (some ⟨w.heap.size, 1, none⟩) :: .slice (some ⟨bb, off, none⟩) rows.length c :: .pointer (some ⟨w.heap.size + 1, 0, none⟩) :: .int .i64 f :: .pointer (some ⟨bb, off + f, none⟩) :: .slice (some ⟨xb, xo, none⟩) LF fc :: .int .i64 I :: .pointer (some ⟨xb, xo + I, none⟩) :: .int .i64 x :: .slice (some ⟨wd.heap.size, 0, none⟩) 1 1 :: .slice (some ⟨g, 0, none⟩) (N + 1) gc :: _ :: _ :: _ :: _ :: _ :: _ :: _ :: _ :: _ :: _ :: _ :: _ :: _ :: _ :: _ :: _ :: []), defers := [] } _
        refine wpAnyH_take (i := 21) (v := .pointer (some ⟨T, t, none⟩)) rfl (by kernel_rfl) (by kernel_rfl) (by kernel_rfl) (fun _ _ _ h => h) (Or.inl ⟨by kernel_rfl, fun w hS => by go_simp⟩) hHeld ?_
        change wpAnyH _ _ _ _ _ _ _ { tmps := List.toArray (_ :: _ :: _ :: _ :: _ :: _ :: _ :: _ :: _ :: _ :: _ :: _ :: _ :: _ :: _ :: _ :: _ :: _ :: _ :: _ :: _ :: _ :: _ :: _ :: _ :: _ :: _ :: _ :: _ :: _ :: _ :: _ :: _ :: _ :: _ :: _ :: _ :: _ :: _ :: _ :: _ :: _ :: _ :: _ :: _ :: _ :: _ :: _ :: _ :: _ :: _ :: _ :: _ :: _ :: _ :: _ :: _ :: _ :: _ :: _ :: _ :: _ :: _ :: _ :: _ :: _ :: _ :: _ :: _ :: _ :: _ :: _ :: _ :: _ :: _ :: _ :: _ :: _ :: _ :: _ :: _ :: _ :: _ :: _ :: _ :: _ :: _ :: _ :: _ :: _ :: _ :: _ :: _ :: _ :: _ :: _ :: _ :: _ :: .pointer (some ⟨O, 1, none⟩) :: .slice (some ⟨T, 0, none⟩) rows.length c2 :: .pointer (some ⟨w.heap.size + 1, 1, none⟩) :: .int .i64 t :: .pointer (some ⟨O, 1, none⟩) :: .slice (some ⟨T, 0, none⟩) rows.length c2 :: .pointer (some ⟨w.heap.size + 1, 1, none⟩) :: .int .i64 t :: .pointer (some ⟨T, t, none⟩) :: .slice ua N uc :: .pointer (some ⟨w.heap.size, 1, none⟩) :: .slice (some ⟨bb, off, none⟩) rows.length c :: .pointer (some ⟨w.heap.size + 1, 0, none⟩) :: .int .i64 f :: .pointer (some ⟨bb, off + f, none⟩) :: .slice (some ⟨xb, xo, none⟩) LF fc :: .int .i64 I :: .pointer (some ⟨xb, xo + I, none⟩) :: .int .i64 x :: .slice (some ⟨wd.heap.size, 0, none⟩) 1 1 :: .slice (some ⟨g, 0, none⟩) (N + 1) gc :: .pointer (some ⟨T, t, none⟩) :: _ :: _ :: _ :: _ :: _ :: _ :: _ :: _ :: _ :: _ :: _ :: _ :: _ :: _ :: _ :: []), defers := [] } _
        refine wpAnyH_ready (rs := [22]) (by kernel_rfl) (by simp) ?_
        refine (AllReadyH.cons rfl (fun KK hK => ?_) AllReadyH.nil)
        go_simp
        have z0 : (w3.setCell ⟨T, t, none⟩ (.slice (some ⟨g, 0, none⟩) (N + 1) gc)).cell? ⟨O, 1, none⟩ = some (.slice (some ⟨T, 0, none⟩) rows.length c2) := by rw [cell_blk BO']; rfl
        have z1 : (w3.setCell ⟨T, t, none⟩ (.slice (some ⟨g, 0, none⟩) (N + 1) gc)).cell? ⟨w.heap.size + 1, 0, none⟩ = some (.int .i64 f) := by rw [cell_blk B1']; rfl
        have z2 : (w3.setCell ⟨T, t, none⟩ (.slice (some ⟨g, 0, none⟩) (N + 1) gc)).cell? ⟨w.heap.size + 1, 1, none⟩ = some (.int .i64 t) := by rw [cell_blk B1']; rfl
        have z3 : (w3.setCell ⟨T, t, none⟩ (.slice (some ⟨g, 0, none⟩) (N + 1) gc)).cell? ⟨w.heap.size, 1, none⟩ = some (.slice (some ⟨bb, off, none⟩) rows.length c) := by rw [cell_blk B0']; rfl
        have z4 : (w3.setCell ⟨T, t, none⟩ (.slice (some ⟨g, 0, none⟩) (N + 1) gc)).cell? ⟨bb, off + f, none⟩ = some (.slice (some ⟨xb, xo, none⟩) LF fc) := ble HB9 pf0
        have z5 : (w3.setCell ⟨T, t, none⟩ (.slice (some ⟨g, 0, none⟩) (N + 1) gc)).cell? ⟨xb, xo + I, none⟩ = some (.int .i64 x) := ble HB9 px0
        clear hHeld
        refine hK.out _ _ (⟨z0, z1, z2, z3, z4, z5⟩) (fun hHeld => ?_)
        clear hK KK
        change wpAnyH _ _ _ _ _ _ _ { tmps := List.toArray (_ :: _ :: _ :: _ :: _ :: _ :: _ :: _ :: _ :: _ :: _ :: _ :: _ :: _ :: _ :: _ :: _ :: _ :: _ :: _ :: _ :: _ :: _ :: _ :: _ :: _ :: _ :: _ :: _ :: _ :: _ :: _ :: _ :: _ :: _ :: _ :: _ :: _ :: _ :: _ :: _ :: _ :: _ :: _ :: _ :: _ :: _ :: _ :: _ :: _ :: _ :: _ :: _ :: _ :: _ :: _ :: _ :: _ :: _ :: _ :: _ :: _ :: _ :: _ :: _ :: _ :: _ :: _ :: _ :: _ :: _ :: _ :: _ :: _ :: _ :: _ :: _ :: _ :: _ :: _ :: _ :: _ :: _ :: _ :: _ :: _ :: _ :: _ :: _ :: _ :: _ :: _ :: _ :: _ :: _ :: _ :: _ :: _ :: .pointer (some ⟨O, 1, none⟩) :: .slice (some ⟨T, 0, none⟩) rows.length c2 :: .pointer (some ⟨w.heap.size + 1, 1, none⟩) :: .int .i64 t :: .pointer (some ⟨O, 1, none⟩) :: .slice (some ⟨T, 0, none⟩) rows.length c2 :: .pointer (some ⟨w.heap.size + 1, 1, none⟩) :: .int .i64 t :: .pointer (some ⟨T, t, none⟩) :: .slice ua N uc :: .pointer (some ⟨w.heap.size, 1, none⟩) :: .slice (some ⟨bb, off, none⟩) rows.length c :: .pointer (some ⟨w.heap.size + 1, 0, none⟩) :: .int .i64 f :: .pointer (some ⟨bb, off + f, none⟩) :: .slice (some ⟨xb, xo, none⟩) LF fc :: .int .i64 I :: .pointer (some ⟨xb, xo + I, none⟩) :: .int .i64 x :: .slice (some ⟨wd.heap.size, 0, none⟩) 1 1 :: .slice (some ⟨g, 0, none⟩) (N + 1) gc :: .pointer (some ⟨T, t, none⟩) :: _ :: _ :: _ :: _ :: _ :: _ :: _ :: _ :: _ :: _ :: _ :: _ :: _ :: _ :: _ :: []), defers := [] } _
        refine wpAnyH_done (by kernel_rfl) ?_ _
        clear hown hown2 hgrow hgrow2 hwh hTT B0 B1 B2 BO HB3 pT3 fT3 hSd hAd hot A0d A1d A2d KOd HBd y0 y1 y2 y3 y4 y5 z0 z1 z2 z3 z4 z5
        go_wp2
        go_roundw
        case rel => exact ⟨I + 1, j + 1, _, _, by omega, by go_num, hI2, hys2, hS9, hA9, B0', B1', B2', BO', HB9⟩
        case measure => simp [intOf]; omega
    · have hIL : I = LF := by have := hI.out; have := hK.out; omega
      have hjm2 : j = m := by omega
      have hmv : Hid (setR (setR rows t ys) f ((rwA rows f).take K) = moveR rows f t m) := hide (by
        rw [hysE.out, hjm2, List.take_of_length_le (by rw [List.length_drop]; have := hLF.out; have := hK.out; omega)]
        unfold moveR
        rw [show (rwA rows f).length - m = K by have := hLF.out; have := hK.out; omega])
      have hlen9 := hS.tab.len
      rw [setR_len] at hlen9
      have hfv : f < vs.length := by omega
      replace hlen9 := hide hlen9
      have hbd : Below wr.heap.size wr wr.drew := bdraw (Below.refl _ _) 1
      have HBd : Below w.heap.size w wr.drew := bdraw HB 1
      have hSd := hS.below hbd
      have A0d := blk_keep hbd A0
      have A1d := blk_keep hbd A1
      have A2d := blk_keep hbd A2
      have KOd := blk_keep hbd KO
      have hsd : w.heap.size ≤ wr.drew.heap.size := HBd.size
      have hBd : Bw ≤ wr.drew.heap.size := by have := (own_type hSd.tab.own T rfl); omega
      have hKl : ((rwA rows f).take K).length = K := by rw [List.length_take]; have := hLF.out; have := hK.out; omega
      have hIk : Ints wr.drew (some ⟨xb, xo, none⟩) ((rwA rows f).take K) := (Ints.upto (.inr ⟨xb, xo, rfl, fun i hi => qx.out i (by have := hLF.out; omega)⟩) K : Ints w (some ⟨xb, xo, none⟩) ((rwA rows f).take K)).below HBd
      have CS := cCopyInts (some ⟨xb, xo, none⟩) fc ((rwA rows f).take K) wr.drew hIk (by rw [hKl]; omega)
      rw [hKl] at CS
      have hKc : K ≤ fc := by have := hK.out; omega
      have hKL : K ≤ LF := by have := hK.out; omega
      replace hIL := hide hIL
      have hnI : ¬ ((I : Int) < (LF : Int)) := by have := hIL.out; omega
      clear hjm2 hS hA A0 A1 A2 KO hbd hIk hKl
      have d0 : wr.drew.cell? ⟨O, 1, none⟩ = some (.slice (some ⟨T, 0, none⟩) rows.length c2) := by rw [cell_blk KOd]; rfl
      have d1 : wr.drew.cell? ⟨w.heap.size + 1, 0, none⟩ = some (.int .i64 f) := by rw [cell_blk A1d]; rfl
      have d2 : wr.drew.cell? ⟨w.heap.size + 1, 1, none⟩ = some (.int .i64 t) := by rw [cell_blk A1d]; rfl
      have d3 : wr.drew.cell? ⟨w.heap.size, 1, none⟩ = some (.slice (some ⟨bb, off, none⟩) rows.length c) := by rw [cell_blk A0d]; rfl
      have d4 : wr.drew.cell? ⟨bb, off + f, none⟩ = some (.slice (some ⟨xb, xo, none⟩) LF fc) := ble HBd pf0
      go_wp2_with fail
      clear k0 k1 k2 k3 k4
      refine wp_region_held_drew (S := (fun w' => w'.cell? ⟨O, 1, none⟩ = some (.slice (some ⟨T, 0, none⟩) rows.length c2) ∧ w'.cell? ⟨w.heap.size + 1, 0, none⟩ = some (.int .i64 f) ∧ w'.cell? ⟨w.heap.size + 1, 1, none⟩ = some (.int .i64 t) ∧ w'.cell? ⟨w.heap.size, 1, none⟩ = some (.slice (some ⟨bb, off, none⟩) rows.length c) ∧ w'.cell? ⟨bb, off + f, none⟩ = some (.slice (some ⟨xb, xo, none⟩) LF fc))) (by kernel_rfl) ?_ (fun hHeld => ?_)
      · exact ⟨d0, d1, d2, d3, d4⟩
      generalize wr.drew = wd at *
      refine wpAnyH_take (i := 0) (v := .pointer (some ⟨O, 1, none⟩)) rfl (by kernel_rfl) (by kernel_rfl) (by kernel_rfl) (fun _ _ _ h => h) (Or.inl ⟨by kernel_rfl, fun w hS => by go_simp⟩) hHeld ?_
      change wpAnyH _ _ _ _ _ _ _ { tmps := List.toArray (_ :: _ :: _ :: _ :: _ :: _ :: _ :: _ :: _ :: _ :: _ :: _ :: _ :: _ :: _ :: _ :: _ :: _ :: _ :: _ :: _ :: _ :: _ :: _ :: _ :: _ :: _ :: _ :: _ :: _ :: _ :: _ :: _ :: _ :: _ :: _ :: _ :: _ :: _ :: _ :: _ :: _ :: _ :: _ :: _ :: _ :: _ :: _ :: _ :: _ :: _ :: _ :: _ :: _ :: _ :: _ :: _ :: _ :: _ :: _ :: _ :: _ :: _ :: _ :: _ :: _ :: _ :: _ :: _ :: _ :: _ :: _ :: _ :: _ :: _ :: _ :: _ :: _ :: _ :: _ :: _ :: _ :: _ :: _ :: _ :: _ :: _ :: _ :: _ :: _ :: _ :: _ :: _ :: _ :: _ :: _ :: _ :: _ :: _ :: _ :: _ :: _ :: _ :: _ :: _ :: _ :: _ :: _ :: _ :: _ :: _ :: _ :: _ :: _ :: _ :: _ :: _ :: _ :: _ :: _ :: .pointer (some ⟨O, 1, none⟩) :: _ :: _ :: _ :: _ :: _ :: _ :: _ :: _ :: _ :: _ :: _ :: _ :: _ :: _ :: []), defers := [] } _
      refine wpAnyH_take (i := 1) (v := .slice (some ⟨T, 0, none⟩) rows.length c2) rfl (by kernel_rfl) (by kernel_rfl) (by kernel_rfl) (fun _ _ _ h => h) (Or.inl ⟨by kernel_rfl, fun w hS => by (obtain ⟨hS0, hS1, hS2, hS3, hS4⟩ := hS; go_simp)⟩) hHeld ?_
      change wpAnyH _ _ _ _ _ _ _ { tmps := List.toArray (_ :: _ :: _ :: _ :: _ :: _ :: _ :: _ :: _ :: _ :: _ :: _ :: _ :: _ :: _ :: _ :: _ :: _ :: _ :: _ :: _ :: _ :: _ :: _ :: _ :: _ :: _ :: _ :: _ :: _ :: _ :: _ :: _ :: _ :: _ :: _ :: _ :: _ :: _ :: _ :: _ :: _ :: _ :: _ :: _ :: _ :: _ :: _ :: _ :: _ :: _ :: _ :: _ :: _ :: _ :: _ :: _ :: _ :: _ :: _ :: _ :: _ :: _ :: _ :: _ :: _ :: _ :: _ :: _ :: _ :: _ :: _ :: _ :: _ :: _ :: _ :: _ :: _ :: _ :: _ :: _ :: _ :: _ :: _ :: _ :: _ :: _ :: _ :: _ :: _ :: _ :: _ :: _ :: _ :: _ :: _ :: _ :: _ :: _ :: _ :: _ :: _ :: _ :: _ :: _ :: _ :: _ :: _ :: _ :: _ :: _ :: _ :: _ :: _ :: _ :: _ :: _ :: _ :: _ :: _ :: .pointer (some ⟨O, 1, none⟩) :: .slice (some ⟨T, 0, none⟩) rows.length c2 :: _ :: _ :: _ :: _ :: _ :: _ :: _ :: _ :: _ :: _ :: _ :: _ :: _ :: []), defers := [] } _
      refine wpAnyH_take (i := 2) (v := .pointer (some ⟨w.heap.size + 1, 0, none⟩)) rfl (by kernel_rfl) (by kernel_rfl) (by kernel_rfl) (fun _ _ _ h => h) (Or.inl ⟨by kernel_rfl, fun w hS => by go_simp⟩) hHeld ?_
      change wpAnyH _ _ _ _ _ _ _ { tmps := List.toArray (_ :: _ :: _ :: _ :: _ :: _ :: _ :: _ :: _ :: _ :: _ :: _ :: _ :: _ :: _ :: _ :: _ :: _ :: _ :: _ :: _ :: _ :: _ :: _ :: _ :: _ :: _ :: _ :: _ :: _ :: _ :: _ :: _ :: _ :: _ :: _ :: _ :: _ :: _ :: _ :: _ :: _ :: _ :: _ :: _ :: _ :: _ :: _ :: _ :: _ :: _ :: _ :: _ :: _ :: _ :: _ :: _ :: _ :: _ :: _ :: _ :: _ :: _ :: _ :: _ :: _ :: _ :: _ :: _ :: _ :: _ :: _ :: _ :: _ :: _ :: _ :: _ :: _ :: _ :: _ :: _ :: _ :: _ :: _ :: _ :: _ :: _ :: _ :: _ :: _ :: _ :: _ :: _ :: _ :: _ :: _ :: _ :: _ :: _ :: _ :: _ :: _ :: _ :: _ :: _ :: _ :: _ :: _ :: _ :: _ :: _ :: _ :: _ :: _ :: _ :: _ :: _ :: _ :: _ :: _ :: .pointer (some ⟨O, 1, none⟩) :: .slice (some ⟨T, 0, none⟩) rows.length c2 :: .pointer (some ⟨w.heap.size + 1, 0, none⟩) :: _ :: _ :: _ :: _ :: _ :: _ :: _ :: _ :: _ :: _ :: _ :: _ :: []), defers := [] } _
      refine wpAnyH_take (i := 3) (v := .int .i64 f) rfl (by kernel_rfl) (by kernel_rfl) (by kernel_rfl) (fun _ _ _ h => h) (Or.inl ⟨by kernel_rfl, fun w hS => by (obtain ⟨hS0, hS1, hS2, hS3, hS4⟩ := hS; go_simp)⟩) hHeld ?_
      change wpAnyH _ _ _ _ _ _ _ { tmps := List.toArray (_ :: _ :: _ :: _ :: _ :: _ :: _ :: _ :: _ :: _ :: _ :: _ :: _ :: _ :: _ :: _ :: _ :: _ :: _ :: _ :: _ :: _ :: _ :: _ :: _ :: _ :: _ :: _ :: _ :: _ :: _ :: _ :: _ :: _ :: _ :: _ :: _ :: _ :: _ :: _ :: _ :: _ :: _ :: _ :: _ :: _ :: _ :: _ :: _ :: _ :: _ :: _ :: _ :: _ :: _ :: _ :: _ :: _ :: _ :: _ :: _ :: _ :: _ :: _ :: _ :: _ :: _ :: _ :: _ :: _ :: _ :: _ :: _ :: _ :: _ :: _ :: _ :: _ :: _ :: _ :: _ :: _ :: _ :: _ :: _ :: _ :: _ :: _ :: _ :: _ :: _ :: _ :: _ :: _ :: _ :: _ :: _ :: _ :: _ :: _ :: _ :: _ :: _ :: _ :: _ :: _ :: _ :: _ :: _ :: _ :: _ :: _ :: _ :: _ :: _ :: _ :: _ :: _ :: _ :: _ :: .pointer (some ⟨O, 1, none⟩) :: .slice (some ⟨T, 0, none⟩) rows.length c2 :: .pointer (some ⟨w.heap.size + 1, 0, none⟩) :: .int .i64 f :: _ :: _ :: _ :: _ :: _ :: _ :: _ :: _ :: _ :: _ :: _ :: []), defers := [] } _
      refine wpAnyH_take (i := 4) (v := .pointer (some ⟨w.heap.size, 1, none⟩)) rfl (by kernel_rfl) (by kernel_rfl) (by kernel_rfl) (fun _ _ _ h => h) (Or.inl ⟨by kernel_rfl, fun w hS => by go_simp⟩) hHeld ?_
      change wpAnyH _ _ _ _ _ _ _ { tmps := List.toArray (_ :: _ :: _ :: _ :: _ :: _ :: _ :: _ :: _ :: _ :: _ :: _ :: _ :: _ :: _ :: _ :: _ :: _ :: _ :: _ :: _ :: _ :: _ :: _ :: _ :: _ :: _ :: _ :: _ :: _ :: _ :: _ :: _ :: _ :: _ :: _ :: _ :: _ :: _ :: _ :: _ :: _ :: _ :: _ :: _ :: _ :: _ :: _ :: _ :: _ :: _ :: _ :: _ :: _ :: _ :: _ :: _ :: _ :: _ :: _ :: _ :: _ :: _ :: _ :: _ :: _ :: _ :: _ :: _ :: _ :: _ :: _ :: _ :: _ :: _ :: _ :: _ :: _ :: _ :: _ :: _ :: _ :: _ :: _ :: _ :: _ :: _ :: _ :: _ :: _ :: _ :: _ :: _ :: _ :: _ :: _ :: _ :: _ :: _ :: _ :: _ :: _ :: _ :: _ :: _ :: _ :: _ :: _ :: _ :: _ :: _ :: _ :: _ :: _ :: _ :: _ :: _ :: _ :: _ :: _ :: .pointer (some ⟨O, 1, none⟩) :: .slice (some ⟨T, 0, none⟩) rows.length c2 :: .pointer (some ⟨w.heap.size + 1, 0, none⟩) :: .int .i64 f :: .pointer (some ⟨w.heap.size, 1, none⟩) :: _ :: _ :: _ :: _ :: _ :: _ :: _ :: _ :: _ :: _ :: []), defers := [] } _
      refine wpAnyH_take (i := 5) (v := .slice (some ⟨bb, off, none⟩) rows.length c) rfl (by kernel_rfl) (by kernel_rfl) (by kernel_rfl) (fun _ _ _ h => h) (Or.inl ⟨by kernel_rfl, fun w hS => by (obtain ⟨hS0, hS1, hS2, hS3, hS4⟩ := hS; go_simp)⟩) hHeld ?_
      change wpAnyH _ _ _ _ _ _ _ { tmps := List.toArray (_ :: _ :: _ :: _ :: _ :: _ :: _ :: _ :: _ :: _ :: _ :: _ :: _ :: _ :: _ :: _ :: _ :: _ :: _ :: _ :: _ :: _ :: _ :: _ :: _ :: _ :: _ :: _ :: _ :: _ :: _ :: _ :: _ :: _ :: _ :: _ :: _ :: _ :: _ :: _ :: _ :: _ :: _ :: _ :: _ :: _ :: _ :: _ :: _ :: _ :: _ :: _ :: _ :: _ :: _ :: _ :: _ :: _ :: _ :: _ :: _ :: _ :: _ :: _ :: _ :: _ :: _ :: _ :: _ :: _ :: _ :: _ :: _ :: _ :: _ :: _ :: _ :: _ :: _ :: _ :: _ :: _ :: _ :: _ :: _ :: _ :: _ :: _ :: _ :: _ :: _ :: _ :: _ :: _ :: _ :: _ :: _ :: _ :: _ :: _ :: _ :: _ :: _ :: _ :: _ :: _ :: _ :: _ :: _ :: _ :: _ :: _ :: _ :: _ :: _ :: _ :: _ :: _ :: _ :: _ :: .pointer (some ⟨O, 1, none⟩) :: .slice (some ⟨T, 0, none⟩) rows.length c2 :: .pointer (some ⟨w.heap.size + 1, 0, none⟩) :: .int .i64 f :: .pointer (some ⟨w.heap.size, 1, none⟩) :: .slice (some ⟨bb, off, none⟩) rows.length c :: _ :: _ :: _ :: _ :: _ :: _ :: _ :: _ :: _ :: []), defers := [] } _
      refine wpAnyH_take (i := 6) (v := .pointer (some ⟨w.heap.size + 1, 0, none⟩)) rfl (by kernel_rfl) (by kernel_rfl) (by kernel_rfl) (fun _ _ _ h => h) (Or.inl ⟨by kernel_rfl, fun w hS => by go_simp⟩) hHeld ?_
      change wpAnyH _ _ _ _ _ _ _ { tmps := List.toArray (_ :: _ :: _ :: _ :: _ :: _ :: _ :: _ :: _ :: _ :: _ :: _ :: _ :: _ :: _ :: _ :: _ :: _ :: _ :: _ :: _ :: _ :: _ :: _ :: _ :: _ :: _ :: _ :: _ :: _ :: _ :: _ :: _ :: _ :: _ :: _ :: _ :: _ :: _ :: _ :: _ :: _ :: _ :: _ :: _ :: _ :: _ :: _ :: _ :: _ :: _ :: _ :: _ :: _ :: _ :: _ :: _ :: _ :: _ :: _ :: _ :: _ :: _ :: _ :: _ :: _ :: _ :: _ :: _ :: _ :: _ :: _ :: _ :: _ :: _ :: _ :: _ :: _ :: _ :: _ :: _ :: _ :: _ :: _ :: _ :: _ :: _ :: _ :: _ :: _ :: _ :: _ :: _ :: _ :: _ :: _ :: _ :: _ :: _ :: _ :: _ :: _ :: _ :: _ :: _ :: _ :: _ :: _ :: _ :: _ :: _ :: _ :: _ :: _ :: _ :: _ :: _ :: _ :: _ :: _ :: .pointer (some ⟨O, 1, none⟩) :: .slice (some ⟨T, 0, none⟩) rows.length c2 :: .pointer (some ⟨w.heap.size + 1, 0, none⟩) :: .int .i64 f :: .pointer (some ⟨w.heap.size, 1, none⟩) :: .slice (some ⟨bb, off, none⟩) rows.length c :: .pointer (some ⟨w.heap.size + 1, 0, none⟩) :: _ :: _ :: _ :: _ :: _ :: _ :: _ :: _ :: []), defers := [] } _
      refine wpAnyH_take (i := 7) (v := .int .i64 f) rfl (by kernel_rfl) (by kernel_rfl) (by kernel_rfl) (fun _ _ _ h => h) (Or.inl ⟨by kernel_rfl, fun w hS => by (obtain ⟨hS0, hS1, hS2, hS3, hS4⟩ := hS; go_simp)⟩) hHeld ?_
      change wpAnyH _ _ _ _ _ _ _ { tmps := List.toArray (_ :: _ :: _ :: _ :: _ :: _ :: _ :: _ :: _ :: _ :: _ :: _ :: _ :: _ :: _ :: _ :: _ :: _ :: _ :: _ :: _ :: _ :: _ :: _ :: _ :: _ :: _ :: _ :: _ :: _ :: _ :: _ :: _ :: _ :: _ :: _ :: _ :: _ :: _ :: _ :: _ :: _ :: _ :: _ :: _ :: _ :: _ :: _ :: _ :: _ :: _ :: _ :: _ :: _ :: _ :: _ :: _ :: _ :: _ :: _ :: _ :: _ :: _ :: _ :: _ :: _ :: _ :: _ :: _ :: _ :: _ :: _ :: _ :: _ :: _ :: _ :: _ :: _ :: _ :: _ :: _ :: _ :: _ :: _ :: _ :: _ :: _ :: _ :: _ :: _ :: _ :: _ :: _ :: _ :: _ :: _ :: _ :: _ :: _ :: _ :: _ :: _ :: _ :: _ :: _ :: _ :: _ :: _ :: _ :: _ :: _ :: _ :: _ :: _ :: _ :: _ :: _ :: _ :: _ :: _ :: .pointer (some ⟨O, 1, none⟩) :: .slice (some ⟨T, 0, none⟩) rows.length c2 :: .pointer (some ⟨w.heap.size + 1, 0, none⟩) :: .int .i64 f :: .pointer (some ⟨w.heap.size, 1, none⟩) :: .slice (some ⟨bb, off, none⟩) rows.length c :: .pointer (some ⟨w.heap.size + 1, 0, none⟩) :: .int .i64 f :: _ :: _ :: _ :: _ :: _ :: _ :: _ :: []), defers := [] } _
      refine wpAnyH_take (i := 8) (v := .pointer (some ⟨bb, off + f, none⟩)) rfl (by kernel_rfl) (by kernel_rfl) (by kernel_rfl) (fun _ _ _ h => h) (Or.inl ⟨by kernel_rfl, fun w hS => by go_simp⟩) hHeld ?_
      change wpAnyH _ _ _ _ _ _ _ { tmps := List.toArray (_ :: _ :: _ :: _ :: _ :: _ :: _ :: _ :: _ :: _ :: _ :: _ :: _ :: _ :: _ :: _ :: _ :: _ :: _ :: _ :: _ :: _ :: _ :: _ :: _ :: _ :: _ :: _ :: _ :: _ :: _ :: _ :: _ :: _ :: _ :: _ :: _ :: _ :: _ :: _ :: _ :: _ :: _ :: _ :: _ :: _ :: _ :: _ :: _ :: _ :: _ :: _ :: _ :: _ :: _ :: _ :: _ :: _ :: _ :: _ :: _ :: _ :: _ :: _ :: _ :: _ :: _ :: _ :: _ :: _ :: _ :: _ :: _ :: _ :: _ :: _ :: _ :: _ :: _ :: _ :: _ :: _ :: _ :: _ :: _ :: _ :: _ :: _ :: _ :: _ :: _ :: _ :: _ :: _ :: _ :: _ :: _ :: _ :: _ :: _ :: _ :: _ :: _ :: _ :: _ :: _ :: _ :: _ :: _ :: _ :: _ :: _ :: _ :: _ :: _ :: _ :: _ :: _ :: _ :: _ :: .pointer (some ⟨O, 1, none⟩) :: .slice (some ⟨T, 0, none⟩) rows.length c2 :: .pointer (some ⟨w.heap.size + 1, 0, none⟩) :: .int .i64 f :: .pointer (some ⟨w.heap.size, 1, none⟩) :: .slice (some ⟨bb, off, none⟩) rows.length c :: .pointer (some ⟨w.heap.size + 1, 0, none⟩) :: .int .i64 f :: .pointer (some ⟨bb, off + f, none⟩) :: _ :: _ :: _ :: _ :: _ :: _ :: []), defers := [] } _
      refine wpAnyH_take (i := 9) (v := .slice (some ⟨xb, xo, none⟩) LF fc) rfl (by kernel_rfl) (by kernel_rfl) (by kernel_rfl) (fun _ _ _ h => h) (Or.inl ⟨by kernel_rfl, fun w hS => by (obtain ⟨hS0, hS1, hS2, hS3, hS4⟩ := hS; go_simp)⟩) hHeld ?_
      change wpAnyH _ _ _ _ _ _ _ { tmps := List.toArray (_ :: _ :: _ :: _ :: _ :: _ :: _ :: _ :: _ :: _ :: _ :: _ :: _ :: _ :: _ :: _ :: _ :: _ :: _ :: _ :: _ :: _ :: _ :: _ :: _ :: _ :: _ :: _ :: _ :: _ :: _ :: _ :: _ :: _ :: _ :: _ :: _ :: _ :: _ :: _ :: _ :: _ :: _ :: _ :: _ :: _ :: _ :: _ :: _ :: _ :: _ :: _ :: _ :: _ :: _ :: _ :: _ :: _ :: _ :: _ :: _ :: _ :: _ :: _ :: _ :: _ :: _ :: _ :: _ :: _ :: _ :: _ :: _ :: _ :: _ :: _ :: _ :: _ :: _ :: _ :: _ :: _ :: _ :: _ :: _ :: _ :: _ :: _ :: _ :: _ :: _ :: _ :: _ :: _ :: _ :: _ :: _ :: _ :: _ :: _ :: _ :: _ :: _ :: _ :: _ :: _ :: _ :: _ :: _ :: _ :: _ :: _ :: _ :: _ :: _ :: _ :: _ :: _ :: _ :: _ :: .pointer (some ⟨O, 1, none⟩) :: .slice (some ⟨T, 0, none⟩) rows.length c2 :: .pointer (some ⟨w.heap.size + 1, 0, none⟩) :: .int .i64 f :: .pointer (some ⟨w.heap.size, 1, none⟩) :: .slice (some ⟨bb, off, none⟩) rows.length c :: .pointer (some ⟨w.heap.size + 1, 0, none⟩) :: .int .i64 f :: .pointer (some ⟨bb, off + f, none⟩) :: .slice (some ⟨xb, xo, none⟩) LF fc :: _ :: _ :: _ :: _ :: _ :: []), defers := [] } _
      refine wpAnyH_take (i := 10) (v := .int .i64 K) rfl (by kernel_rfl) (by kernel_rfl) (by kernel_rfl) (fun _ _ _ h => h) (Or.inl ⟨by kernel_rfl, fun w hS => by go_simp⟩) hHeld ?_
      change wpAnyH _ _ _ _ _ _ _ { tmps := List.toArray (_ :: _ :: _ :: _ :: _ :: _ :: _ :: _ :: _ :: _ :: _ :: _ :: _ :: _ :: _ :: _ :: _ :: _ :: _ :: _ :: _ :: _ :: _ :: _ :: _ :: _ :: _ :: _ :: _ :: _ :: _ :: _ :: _ :: _ :: _ :: _ :: _ :: _ :: _ :: _ :: _ :: _ :: _ :: _ :: _ :: _ :: _ :: _ :: _ :: _ :: _ :: _ :: _ :: _ :: _ :: _ :: _ :: _ :: _ :: _ :: _ :: _ :: _ :: _ :: _ :: _ :: _ :: _ :: _ :: _ :: _ :: _ :: _ :: _ :: _ :: _ :: _ :: _ :: _ :: _ :: _ :: _ :: _ :: _ :: _ :: _ :: _ :: _ :: _ :: _ :: _ :: _ :: _ :: _ :: _ :: _ :: _ :: _ :: _ :: _ :: _ :: _ :: _ :: _ :: _ :: _ :: _ :: _ :: _ :: _ :: _ :: _ :: _ :: _ :: _ :: _ :: _ :: _ :: _ :: _ :: .pointer (some ⟨O, 1, none⟩) :: .slice (some ⟨T, 0, none⟩) rows.length c2 :: .pointer (some ⟨w.heap.size + 1, 0, none⟩) :: .int .i64 f :: .pointer (some ⟨w.heap.size, 1, none⟩) :: .slice (some ⟨bb, off, none⟩) rows.length c :: .pointer (some ⟨w.heap.size + 1, 0, none⟩) :: .int .i64 f :: .pointer (some ⟨bb, off + f, none⟩) :: .slice (some ⟨xb, xo, none⟩) LF fc :: .int .i64 K :: _ :: _ :: _ :: _ :: []), defers := [] } _
      refine wpAnyH_take (i := 11) (v := .slice (some ⟨xb, xo, none⟩) K fc) rfl (by kernel_rfl) (by kernel_rfl) (by kernel_rfl) (fun _ _ _ h => h) (Or.inl ⟨by kernel_rfl, fun w hS => by go_simp⟩) hHeld ?_
      change wpAnyH _ _ _ _ _ _ _ { tmps := List.toArray (_ :: _ :: _ :: _ :: _ :: _ :: _ :: _ :: _ :: _ :: _ :: _ :: _ :: _ :: _ :: _ :: _ :: _ :: _ :: _ :: _ :: _ :: _ :: _ :: _ :: _ :: _ :: _ :: _ :: _ :: _ :: _ :: _ :: _ :: _ :: _ :: _ :: _ :: _ :: _ :: _ :: _ :: _ :: _ :: _ :: _ :: _ :: _ :: _ :: _ :: _ :: _ :: _ :: _ :: _ :: _ :: _ :: _ :: _ :: _ :: _ :: _ :: _ :: _ :: _ :: _ :: _ :: _ :: _ :: _ :: _ :: _ :: _ :: _ :: _ :: _ :: _ :: _ :: _ :: _ :: _ :: _ :: _ :: _ :: _ :: _ :: _ :: _ :: _ :: _ :: _ :: _ :: _ :: _ :: _ :: _ :: _ :: _ :: _ :: _ :: _ :: _ :: _ :: _ :: _ :: _ :: _ :: _ :: _ :: _ :: _ :: _ :: _ :: _ :: _ :: _ :: _ :: _ :: _ :: _ :: .pointer (some ⟨O, 1, none⟩) :: .slice (some ⟨T, 0, none⟩) rows.length c2 :: .pointer (some ⟨w.heap.size + 1, 0, none⟩) :: .int .i64 f :: .pointer (some ⟨w.heap.size, 1, none⟩) :: .slice (some ⟨bb, off, none⟩) rows.length c :: .pointer (some ⟨w.heap.size + 1, 0, none⟩) :: .int .i64 f :: .pointer (some ⟨bb, off + f, none⟩) :: .slice (some ⟨xb, xo, none⟩) LF fc :: .int .i64 K :: .slice (some ⟨xb, xo, none⟩) K fc :: _ :: _ :: _ :: []), defers := [] } _
      refine wpAnyH_ready (rs := [12]) (by kernel_rfl) (by simp) ?_
      refine (AllReadyH.cons rfl (fun KK hK => ?_) AllReadyH.nil)
      go_simp
      refine CS.mono ?_
      rintro e w1 ⟨u, rfl, hO1, hb1⟩
      obtain ⟨ua, uc, rfl⟩ := own_form hO1
      have hT1 := (hSd.below hb1).tab.own
      rw [setR_len] at hT1
      obtain ⟨-, -⟩ := hT1.lt T rfl
      have pT1 := (hSd.below hb1).tab.cell hfv
      have fT1 := hT1.frozenAt f
      have hS9 := hSd.turn (w2 := w1) (u := .slice ua K uc) (ys := (rwA rows f).take K) hfv (gofr _ hb1) (RowI.base (RowI.own hO1) hBd) (.inr (fun b hb => (own_type hO1 b hb).1))
      rw [hmv.out] at hS9
      have B0' : (w1.setCell ⟨T, f, none⟩ (.slice ua K uc)).heap[w.heap.size]? = _ := (heap_setCell (fun e => own_blk_ne hT1 (blk_keep hb1 A0d) (by decide) T rfl e.symm)).trans (blk_keep hb1 A0d)
      have B1' : (w1.setCell ⟨T, f, none⟩ (.slice ua K uc)).heap[w.heap.size + 1]? = _ := (heap_setCell (fun e => own_blk_ne hT1 (blk_keep hb1 A1d) (by decide) T rfl e.symm)).trans (blk_keep hb1 A1d)
      have B2' : (w1.setCell ⟨T, f, none⟩ (.slice ua K uc)).heap[w.heap.size + 1 + 1]? = _ := (heap_setCell (fun e => own_blk_ne hT1 (blk_keep hb1 A2d) (by decide) T rfl e.symm)).trans (blk_keep hb1 A2d)
      have BO' : (w1.setCell ⟨T, f, none⟩ (.slice ua K uc)).heap[O]? = _ := (heap_setCell (fun e => own_blk_ne hT1 (blk_keep hb1 KOd) (by decide) T rfl e.symm)).trans (blk_keep hb1 KOd)
      have HB9 : Below w.heap.size w (w1.setCell ⟨T, f, none⟩ (.slice ua K uc)) := below_set (by have := (hT1.lt T rfl).1; omega) (HBd.trans (hb1.mono hsd))
      obtain ⟨vfv, hvfv⟩ : ∃ q, vs[f] = q := ⟨_, rfl⟩
      rw [hvfv] at pT1
      go_wp2_with fail
      clear hHeld
      refine hK.out _ _ (⟨ble hb1 d0, ble hb1 d1, ble hb1 d2, ble hb1 d3, ble hb1 d4⟩) (fun hHeld => ?_)
      clear hK KK
      change wpAnyH _ _ _ _ _ _ _ { tmps := List.toArray (_ :: _ :: _ :: _ :: _ :: _ :: _ :: _ :: _ :: _ :: _ :: _ :: _ :: _ :: _ :: _ :: _ :: _ :: _ :: _ :: _ :: _ :: _ :: _ :: _ :: _ :: _ :: _ :: _ :: _ :: _ :: _ :: _ :: _ :: _ :: _ :: _ :: _ :: _ :: _ :: _ :: _ :: _ :: _ :: _ :: _ :: _ :: _ :: _ :: _ :: _ :: _ :: _ :: _ :: _ :: _ :: _ :: _ :: _ :: _ :: _ :: _ :: _ :: _ :: _ :: _ :: _ :: _ :: _ :: _ :: _ :: _ :: _ :: _ :: _ :: _ :: _ :: _ :: _ :: _ :: _ :: _ :: _ :: _ :: _ :: _ :: _ :: _ :: _ :: _ :: _ :: _ :: _ :: _ :: _ :: _ :: _ :: _ :: _ :: _ :: _ :: _ :: _ :: _ :: _ :: _ :: _ :: _ :: _ :: _ :: _ :: _ :: _ :: _ :: _ :: _ :: _ :: _ :: _ :: _ :: .pointer (some ⟨O, 1, none⟩) :: .slice (some ⟨T, 0, none⟩) rows.length c2 :: .pointer (some ⟨w.heap.size + 1, 0, none⟩) :: .int .i64 f :: .pointer (some ⟨w.heap.size, 1, none⟩) :: .slice (some ⟨bb, off, none⟩) rows.length c :: .pointer (some ⟨w.heap.size + 1, 0, none⟩) :: .int .i64 f :: .pointer (some ⟨bb, off + f, none⟩) :: .slice (some ⟨xb, xo, none⟩) LF fc :: .int .i64 K :: .slice (some ⟨xb, xo, none⟩) K fc :: .slice ua K uc :: _ :: _ :: []), defers := [] } _
      refine wpAnyH_take (i := 13) (v := .pointer (some ⟨T, f, none⟩)) rfl (by kernel_rfl) (by kernel_rfl) (by kernel_rfl) (fun _ _ _ h => h) (Or.inl ⟨by kernel_rfl, fun w hS => by go_simp⟩) hHeld ?_
      change wpAnyH _ _ _ _ _ _ _ { tmps := List.toArray (_ :: _ :: _ :: _ :: _ :: _ :: _ :: _ :: _ :: _ :: _ :: _ :: _ :: _ :: _ :: _ :: _ :: _ :: _ :: _ :: _ :: _ :: _ :: _ :: _ :: _ :: _ :: _ :: _ :: _ :: _ :: _ :: _ :: _ :: _ :: _ :: _ :: _ :: _ :: _ :: _ :: _ :: _ :: _ :: _ :: _ :: _ :: _ :: _ :: _ :: _ :: _ :: _ :: _ :: _ :: _ :: _ :: _ :: _ :: _ :: _ :: _ :: _ :: _ :: _ :: _ :: _ :: _ :: _ :: _ :: _ :: _ :: _ :: _ :: _ :: _ :: _ :: _ :: _ :: _ :: _ :: _ :: _ :: _ :: _ :: _ :: _ :: _ :: _ :: _ :: _ :: _ :: _ :: _ :: _ :: _ :: _ :: _ :: _ :: _ :: _ :: _ :: _ :: _ :: _ :: _ :: _ :: _ :: _ :: _ :: _ :: _ :: _ :: _ :: _ :: _ :: _ :: _ :: _ :: _ :: .pointer (some ⟨O, 1, none⟩) :: .slice (some ⟨T, 0, none⟩) rows.length c2 :: .pointer (some ⟨w.heap.size + 1, 0, none⟩) :: .int .i64 f :: .pointer (some ⟨w.heap.size, 1, none⟩) :: .slice (some ⟨bb, off, none⟩) rows.length c :: .pointer (some ⟨w.heap.size + 1, 0, none⟩) :: .int .i64 f :: .pointer (some ⟨bb, off + f, none⟩) :: .slice (some ⟨xb, xo, none⟩) LF fc :: .int .i64 K :: .slice (some ⟨xb, xo, none⟩) K fc :: .slice ua K uc :: .pointer (some ⟨T, f, none⟩) :: _ :: []), defers := [] } _
      refine wpAnyH_ready (rs := [14]) (by kernel_rfl) (by simp) ?_
      refine (AllReadyH.cons rfl (fun KK hK => ?_) AllReadyH.nil)
      go_simp
      have z0 : (w1.setCell ⟨T, f, none⟩ (.slice ua K uc)).cell? ⟨O, 1, none⟩ = some (.slice (some ⟨T, 0, none⟩) rows.length c2) := by rw [cell_blk BO']; rfl
      have z1 : (w1.setCell ⟨T, f, none⟩ (.slice ua K uc)).cell? ⟨w.heap.size + 1, 0, none⟩ = some (.int .i64 f) := by rw [cell_blk B1']; rfl
      have z2 : (w1.setCell ⟨T, f, none⟩ (.slice ua K uc)).cell? ⟨w.heap.size + 1, 1, none⟩ = some (.int .i64 t) := by rw [cell_blk B1']; rfl
      have z3 : (w1.setCell ⟨T, f, none⟩ (.slice ua K uc)).cell? ⟨w.heap.size, 1, none⟩ = some (.slice (some ⟨bb, off, none⟩) rows.length c) := by rw [cell_blk B0']; rfl
      have z4 : (w1.setCell ⟨T, f, none⟩ (.slice ua K uc)).cell? ⟨bb, off + f, none⟩ = some (.slice (some ⟨xb, xo, none⟩) LF fc) := ble HB9 pf0
      clear hHeld
      refine hK.out _ _ (⟨z0, z1, z2, z3, z4⟩) (fun hHeld => ?_)
      clear hK KK
      change wpAnyH _ _ _ _ _ _ _ { tmps := List.toArray (_ :: _ :: _ :: _ :: _ :: _ :: _ :: _ :: _ :: _ :: _ :: _ :: _ :: _ :: _ :: _ :: _ :: _ :: _ :: _ :: _ :: _ :: _ :: _ :: _ :: _ :: _ :: _ :: _ :: _ :: _ :: _ :: _ :: _ :: _ :: _ :: _ :: _ :: _ :: _ :: _ :: _ :: _ :: _ :: _ :: _ :: _ :: _ :: _ :: _ :: _ :: _ :: _ :: _ :: _ :: _ :: _ :: _ :: _ :: _ :: _ :: _ :: _ :: _ :: _ :: _ :: _ :: _ :: _ :: _ :: _ :: _ :: _ :: _ :: _ :: _ :: _ :: _ :: _ :: _ :: _ :: _ :: _ :: _ :: _ :: _ :: _ :: _ :: _ :: _ :: _ :: _ :: _ :: _ :: _ :: _ :: _ :: _ :: _ :: _ :: _ :: _ :: _ :: _ :: _ :: _ :: _ :: _ :: _ :: _ :: _ :: _ :: _ :: _ :: _ :: _ :: _ :: _ :: _ :: _ :: .pointer (some ⟨O, 1, none⟩) :: .slice (some ⟨T, 0, none⟩) rows.length c2 :: .pointer (some ⟨w.heap.size + 1, 0, none⟩) :: .int .i64 f :: .pointer (some ⟨w.heap.size, 1, none⟩) :: .slice (some ⟨bb, off, none⟩) rows.length c :: .pointer (some ⟨w.heap.size + 1, 0, none⟩) :: .int .i64 f :: .pointer (some ⟨bb, off + f, none⟩) :: .slice (some ⟨xb, xo, none⟩) LF fc :: .int .i64 K :: .slice (some ⟨xb, xo, none⟩) K fc :: .slice ua K uc :: .pointer (some ⟨T, f, none⟩) :: _ :: []), defers := [] } _
      refine wpAnyH_done (by kernel_rfl) ?_ _
      clear hSd A0d A1d A2d KOd HBd z0 z1 z2 z3 z4 hO1 hb1 hT1 pT1 fT1 CS B0' B1'
      generalize (w1.setCell ⟨T, f, none⟩ (.slice ua K uc)) = wz at *
      obtain ⟨⟨o0, o1⟩, -⟩ := blk2 BO'
      obtain ⟨⟨r0, r1⟩, f0, f1⟩ := blk2 B2'
      have hSV := hS9.box (p := .slice ra2 room.length rc2) (q := .slice (some ⟨T, 0, none⟩) rows.length c2) B2'
      have KV := box_set (p := .slice ra2 room.length rc2) (q := .slice (some ⟨T, 0, none⟩) rows.length c2) B2'
      have HBV : Below w.heap.size w ((wz.setCell ⟨w.heap.size + 1 + 1, 0, none⟩ (.slice ra2 room.length rc2)).setCell ⟨w.heap.size + 1 + 1, 1, none⟩ (.slice (some ⟨T, 0, none⟩) rows.length c2)) := below_set (by omega) (below_set (by omega) HB9)
      obtain ⟨⟨v0, v1⟩, -⟩ := blk2 KV
      clear hS9 HB9 KV BO' B2'
      go_wp2
      generalize (wz.setCell ⟨w.heap.size + 1 + 1, 0, none⟩ (.slice ra2 room.length rc2)).setCell ⟨w.heap.size + 1 + 1, 1, none⟩ (.slice (some ⟨T, 0, none⟩) rows.length c2) = V at *
      refine bodyPost_ret (v := .tuple #[.agg #[.slice ra2 room.length rc2, .slice (some ⟨T, 0, none⟩) rows.length c2], .int .i64 0]) (by simp [results, Try.results32, v0, v1, go_sem]) rfl ?_
      exact ⟨_, _, _, by rw [R.out.1], by rw [R.out.2]; exact hSV.base (by omega), HBV⟩
end Go.Proofs.Ytipechbhhpagiaa
