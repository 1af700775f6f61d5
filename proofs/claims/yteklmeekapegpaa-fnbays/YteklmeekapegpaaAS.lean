/- The program's assignment. -/
import Derived.Test.YteklmeekapegpaaAT
namespace Go.Proofs.Yteklmeekapegpaa
open Go.RowKit Go.Conc

theorem own_base {w : World} {base base' e sz n : Nat} {v : Value} {xs : List Value} (h : w.ownsRow base e sz v n xs) (hb : base' ≤ base) : w.ownsRow base' e sz v n xs := by
  obtain ⟨h1, h2⟩ := h
  refine ⟨h1, ?_⟩
  rcases h2 with h2 | ⟨g, cap, cur, hv, hg, r⟩
  · exact .inl h2
  · exact .inr ⟨g, cap, cur, hv, by omega, r⟩
theorem BaysAt.mono {w : World} {base base' g : Nat} {cs : List Nat} {occ : Nat → Option Int} (h : BaysAt w base g cs occ) (hb : base' ≤ base) : BaysAt w base' g cs occ :=
  ⟨own_base h.row hb, h.ch, h.nodup, fun c hc => Nat.le_trans hb (h.low c hc)⟩
theorem blk3 {w : World} {g : Nat} {c0 c1 c2 : Value} {t : TypeId} {f : Nat × Nat} (h : w.heap[g]? = some (.cells #[c0, c1, c2] t f)) : w.cell? ⟨g, 0, none⟩ = some c0 ∧ w.cell? ⟨g, 1, none⟩ = some c1 ∧ w.cell? ⟨g, 2, none⟩ = some c2 := by
  simp [World.cell?, h]
theorem opsN_recv1 {P : Program} {a : Act} {w : World} {ops : Array Oper} {R : Act → World → Prop} {i : Nat} {rest : List Nat} {o : Oper} {c s r : Nat} {q z : Value} (ho : ops[i]? = some o) (hw : Region.wanted o (yielded ops a.tmps) = true)
    (hr : (execOp a.eval o).run P w = .ok (.comm #[rcase c z] true (.recv false)) w) (hc : w.heap[c]? = some (.chan 1 #[q] false s r false))
    (h : opsN P ops R rest (a.put o.dst q) (w.setChan c 1 #[] false s (r + 1) false)) : opsN P ops R (i :: rest) a w :=
  opsN_recv ho hw hr hc (by simp) (by simpa using h)
theorem assign_b {zs : List Int} {ss : List StayV} {g : Int} (h : baysB zs = false) : IsList zs ss g [] := .inl ⟨by simp [assignOk, h], rfl⟩
theorem assign_s {zs : List Int} {ss : List StayV} {g : Int} (h : staysB ss = false) : IsList zs ss g [] := .inl ⟨by simp [assignOk, h], rfl⟩
theorem assign_g {zs : List Int} {ss : List StayV} {g : Int} (h : gapB g = false) : IsList zs ss g [] := .inl ⟨by simp [assignOk, h], rfl⟩
theorem bays_len {zs : List Int} (h : baysB zs = true) : 1 ≤ zs.length ∧ zs.length ≤ 12 := by
  simp only [baysB, Bool.and_eq_true] at h
  have := inB_true h.1
  omega

/-- What holds whenever the loop begins anew. -/
def AsI (w : World) (a b : Option Addr) (ca cb : Nat) (zs : List Int) (ss : List StayV) (g : Int) (gl ga : Nat) (cs : List Nat) (va : Option Addr) (vc : Nat) (es : List PassV) : Act → World → Prop :=
  fun act wr => ∃ (j : Nat) (ls : List Int) (occ : Nat → Option Int), ∃ (u10 u35 u36 u37 u38 u39 u40 u41 u42 u43 u44 u45 u46 u47 u48 u49 u50 u51 u52 u53 u54 u55 u56 u57 u58 u59 u60 u61 u62 u63 u64 u65 u66 u67 u68 u69 u70 u71 u72 u73 : Value), act = (⟨List.toArray ((.slice a zs.length ca : Value) :: (.slice b ss.length cb : Value) :: (.int .i64 g : Value) :: (undef : Value) :: (undef : Value) :: (undef : Value) :: (.slice none 0 0 : Value) :: (.slice (some ⟨gl, 0, none⟩) ss.length ss.length : Value) :: (.slice (some ⟨ga, 0, none⟩) zs.length zs.length : Value) :: (undef : Value) :: (u10 : Value) :: (.slice a zs.length ca : Value) :: (.bool true : Value) :: (.bool false : Value) :: (.bool false : Value) :: (.slice b ss.length cb : Value) :: (.bool true : Value) :: (.bool false : Value) :: (.bool false : Value) :: (.bool false : Value) :: (.int .i64 g : Value) :: (.bool true : Value) :: (.bool false : Value) :: (.bool false : Value) :: (.slice b ss.length cb : Value) :: (.int .i64 ss.length : Value) :: (.slice (some ⟨gl, 0, none⟩) ss.length ss.length : Value) :: (.slice a zs.length ca : Value) :: (.int .i64 zs.length : Value) :: (.slice (some ⟨ga, 0, none⟩) zs.length zs.length : Value) :: (.slice b ss.length cb : Value) :: (.int .i64 g : Value) :: (.slice va es.length vc : Value) :: (.int .i64 es.length : Value) :: (.int .i64 j : Value) :: (u35 : Value) :: (u36 : Value) :: (u37 : Value) :: (u38 : Value) :: (u39 : Value) :: (u40 : Value) :: (u41 : Value) :: (u42 : Value) :: (u43 : Value) :: (u44 : Value) :: (u45 : Value) :: (u46 : Value) :: (u47 : Value) :: (u48 : Value) :: (u49 : Value) :: (u50 : Value) :: (u51 : Value) :: (u52 : Value) :: (u53 : Value) :: (u54 : Value) :: (u55 : Value) :: (u56 : Value) :: (u57 : Value) :: (u58 : Value) :: (u59 : Value) :: (u60 : Value) :: (u61 : Value) :: (u62 : Value) :: (u63 : Value) :: (u64 : Value) :: (u65 : Value) :: (u66 : Value) :: (u67 : Value) :: (u68 : Value) :: (u69 : Value) :: (u70 : Value) :: (u71 : Value) :: (u72 : Value) :: (u73 : Value) :: (undef : Value) :: []), []⟩ : Act) ∧ j ≤ es.length ∧ Hid (AInv zs ss g es j ls occ) ∧ St w wr gl ga cs occ ls (.slice va es.length vc) es

set_option maxRecDepth 20000 in
set_option maxHeartbeats 3200000 in
theorem cAssignI (a : Option Addr) (ca : Nat) (zs : List Int) (b : Option Addr) (cb : Nat) (ss : List StayV) (g : Int) (w : World) (hz : Ints w a zs) (hl : zs.length ≤ 1048576) (hy : Stays w b ss) (hl2 : ss.length ≤ 1048576) :
    Calls Try.prog 16 #[.slice a zs.length ca, .slice b ss.length cb, .int .i64 g] w fun e w' => ∃ ls, IsList zs ss g ls ∧ AnsList w w' e ls := by
  refine callsN Try.func16 rfl ?_
  simp only [Try.ntmps16, List.size_toArray, List.length_cons, List.length_nil, Nat.reduceAdd, Nat.reduceSub, Array.replicate_succ, Array.replicate_zero, List.push_toArray, List.append_toArray, List.nil_append, List.cons_append]
  refine wpN_seq_k fun K hK => ?_
  go_wp2
  refine wpN_seq_k fun K hK => ?_
  go_wp2_with fail
  refine (cBaysI a ca zs _ hz hl).mono ?_
  rintro e w1 ⟨rfl, hw⟩
  subst w1
  cases hZ : baysB zs
  · have hf := hide (assign_b (ss := ss) (g := g) hZ)
    clear hZ
    go_wp2
    go_ret
    exact ⟨[], hf.out, AnsList.nil (Below.refl _ _)⟩
  go_wp2_with fail
  refine (cStaysI b cb ss _ hy hl2).mono ?_
  rintro e w1 ⟨rfl, hb1⟩
  cases hS : staysB ss
  · have hf := hide (assign_s (zs := zs) (g := g) hS)
    clear hZ hS
    go_wp2
    go_ret
    exact ⟨[], hf.out, AnsList.nil hb1⟩
  go_wp2_with fail
  refine (cGapI g _).mono ?_
  rintro e w2 ⟨rfl, hw⟩
  subst w2
  cases hG : gapB g
  · have hf := hide (assign_g (zs := zs) (ss := ss) hG)
    clear hZ hS hG
    go_wp2
    go_ret
    exact ⟨[], hf.out, AnsList.nil hb1⟩
  obtain ⟨hz1, hz12⟩ := bays_len hZ
  have h60 := stays_len hS
  have hg1 := (inB_true hG).1
  have hF := hide (fine_of hS)
  have hOk : Hid (assignOk zs ss g = true) := hide (by simp [assignOk, hZ, hS, hG])
  have CP := fun V hV => cPassages b cb ss g V hV hS hG
  clear hZ hS hG
  go_wp2
  obtain ⟨i0, hi, hi0, hi1, hi2⟩ := info_parts infoInts
  refine wpN_seq_k fun K hK => ?_
  go_wp2_with (at_make; refine wpList_make_full _ rfl _ _ 24 rfl w.heap.size 3 i0 (Value.int .i64 0) 1 Try.underlying24 hi hi0 hi1 _ _ _ _ ss.length rfl rfl rfl rfl (by rw [hi2]; omega) (by unfold maxLen; omega) hb1.size ?_; intro w2 hown hgrow)
  have hL2 : w2.ownsRow w.heap.size 3 1 (.slice (some ⟨w1.heap.size, 0, none⟩) (List.replicate ss.length (0 : Int)).length (List.replicate ss.length (0 : Int)).length) (List.replicate ss.length (0 : Int)).length ((List.replicate ss.length (0 : Int)).map (Value.int .i64)) := by
    simpa [toList_madeCells_one, Value.cells] using hown
  have hb2 : Below w.heap.size w w2 := hb1.grown hgrow hb1.size (fun k hk => by cases hk)
  clear hown hgrow
  generalize hgl : w1.heap.size = gl at *
  clear hgl hb1
  refine wpN_seq_k fun K hK => ?_
  go_wp2_with fail
  refine (cEmptyBays zs.length _ hz1 hz12).mono ?_
  rintro e w3 ⟨cs, hcl, rfl, hBy, hb⟩
  have hBy := hBy.mono hb2.size
  have hL3 := own_keep hL2 hb
  have hb3 := btrans hb2 hb
  generalize hga : w2.heap.size = ga at *
  clear hga hb hb2 hL2
  go_wp2
  refine wpN_seq_n fun K hK => ?_
  refine wpN_seq_k fun K1 hK1 => ?_
  go_wp2_with fail
  refine (CP _ (hy.below hb3)).mono ?_
  rintro e w4 ⟨v, es, rfl, hP, hI, hb⟩
  obtain ⟨va, vc, rfl⟩ := own_form hP
  have hSt : St w w4 gl ga cs (fun _ => none) (List.replicate ss.length (0 : Int)) (.slice va es.length vc) es := ⟨own_keep hL3 hb, hBy.below hb, own_base hP hb3.size, btrans hb3 hb⟩
  have hA0 := hide (AInv.start zs ss g es (List.replicate ss.length (0 : Int)) (by simp))
  have hes : es.length ≤ 120 := by rw [hI.len]; omega
  clear hL3 hBy hP hb hb3 CP
  go_wp2
  refine wpN_block ?_
  refine wpN_loop (AsI w a b ca cb zs ss g gl ga cs va vc es) (fun act _ => es.length - (intOf (act.tmps.getD 34 undef)).toNat) ?_ ?_
  · unfold AsI; exact ⟨0, _, _, _, _, _, _, _, _, _, _, _, _, _, _, _, _, _, _, _, _, _, _, _, _, _, _, _, _, _, _, _, _, _, _, _, _, _, _, _, _, _, _, rfl, Nat.zero_le _, hA0, hSt⟩
  intro act wr hI0
  unfold AsI at hI0
  obtain ⟨j, ls, occ, u10, u35, u36, u37, u38, u39, u40, u41, u42, u43, u44, u45, u46, u47, u48, u49, u50, u51, u52, u53, u54, u55, u56, u57, u58, u59, u60, u61, u62, u63, u64, u65, u66, u67, u68, u69, u70, u71, u72, u73, rfl, hj, hA, hT⟩ := hI0
  clear hSt hA0
  by_cases hlt : j < es.length
  · have hlt' : (j : Int) < (es.length : Int) := by omega
    obtain ⟨i, hi, hw⟩ := pass_who hI hlt
    have hli : i < ls.length := by rw [hA.out.len]; exact hi
    have hV := Passes.own hT.pass
    rcases hV with h | ⟨pb, off, rfl, hc⟩
    · simp [h] at hlt
    obtain ⟨q0, q1, q2⟩ := hc j hlt
    clear hc
    rcases hw with ⟨e0, e1⟩ | ⟨e0, e1⟩
    · rw [e0] at q0 q1 q2
      have hcm : Hid (comeP ss i = ⟨fA ss i, 1, i⟩) := rfl
      rw [hcm.out] at q0 q1 q2
      dsimp only at q0 q1 q2
      generalize fA ss i = f at q0 q1 q2
      have hAl := balloc wr (.cells #[.int .i64 f, .int .i64 1, .int .i64 i] 60)
      have hbx := heap_alloc_new wr (.cells #[.int .i64 f, .int .i64 1, .int .i64 i] 60)
      have hT2 : St w (wr.alloc (.cells #[.int .i64 f, .int .i64 1, .int .i64 i] 60)).drew gl ga cs occ ls (.slice (some ⟨pb, off, none⟩) es.length vc) es := hT.keep (bdrew hAl)
      rcases hy with h | ⟨sb, so, rfl, hsc⟩
      · simp [h] at hi
      obtain ⟨-, -, s2⟩ := hsc i hi
      have s2' := ble hT2.below s2
      have s2'' : (wr.alloc (.cells #[.int .i64 f, .int .i64 1, .int .i64 i] 60)).cell? ⟨sb, so + i * 3 + 2, none⟩ = some (.int .i64 (ss.getD i StayV.zero).l) := s2'
      have CE := cEnterFirst a ca zs w.heap.size ga cs occ (ss.getD i StayV.zero).l i _ (hz.below hT2.below) hT2.bays hcl.symm hz12
      have hSv := fun bb hbb => hA.out.serves (b := bb) hI hlt e1 hbb
      change ∀ bb, bb < zs.length → (Serves zs occ (ss.getD i StayV.zero).l bb ↔ _) at hSv
      have hi' : (i : Int) < (ss.length : Int) := by omega
      obtain ⟨z0, z1⟩ := hT2.cell hli
      have hbs : sb < wr.heap.size + 1 := by have := cell_lt s2''; simpa using this
      obtain ⟨glc, hglb, hgle⟩ := hT2.listBlock
      have hgls : gl < wr.heap.size := by
        obtain ⟨c, h, _⟩ := hT.listBlock
        exact lt_of_block h
      have n1 : gl ≠ wr.heap.size := Nat.ne_of_lt hgls
      have n2 : wr.heap.size ≠ gl := fun e => n1 e.symm
      have hsbw : sb < w.heap.size := cell_lt s2
      have n3 : gl ≠ sb := by omega
      have n4 : sb ≠ gl := by omega
      have hbx2 := (blk3 hbx).2.2
      clear hglb hgle glc
      rcases least (P := Serves zs occ (ss.getD i StayV.zero).l) zs.length with ⟨k, hk, h1, h2⟩ | h1
      · have CY : Calls Try.prog 48 _ _ _ := CE.mono (fun e w' h => picked_yes h hk h1 h2)
        have hA2 := hide (hA.out.come (v := (k : Int)) (occ' := setOcc occ k (some (i : Int))) hI hg1 hF.out hlt hi e1 (.inl ⟨k, (hSv k hk).1 h1, fun b' hb' hx => h2 b' hb' ((hSv b' (by omega)).2 hx), rfl, h1.2, rfl⟩))
        have hBx2 := fun w5 (hct : ChanTo (wr.alloc (.cells #[.int .i64 f, .int .i64 1, .int .i64 i] 60)).drew w5 (cs.getD k 0) (some (i : Int))) => (hct.blk (b := wr.heap.size) (fun e => hT2.bays.cellsNe (b := wr.heap.size) hbx (by rw [← e]; exact getD_mem (by omega)))).trans hbx
        have hT5 := fun w5 (hct : ChanTo (wr.alloc (.cells #[.int .i64 f, .int .i64 1, .int .i64 i] 60)).drew w5 (cs.getD k 0) (some (i : Int))) => hT2.chan (k := k) (by omega) hct
        have hS5 := fun w5 (hct : ChanTo (wr.alloc (.cells #[.int .i64 f, .int .i64 1, .int .i64 i] 60)).drew w5 (cs.getD k 0) (some (i : Int))) => ble (hT5 w5 hct).below s2
        clear CE hSv h1 h2 hA hsc
        generalize (ss.getD i StayV.zero).l = L at *
        refine wpN_of ?_
        go_wp2
        go_region_held3 (fun w' => w'.cell? ⟨wr.heap.size, 2, none⟩ = some (.int .i64 i) ∧ w'.cell? ⟨sb, so + i * 3 + 2, none⟩ = some (.int .i64 L)) (go_keep) (first
          | (go_at_call 48; with_reducible refine CY.mono ?_; rintro e w5 ⟨rfl, hct⟩; have hT6 := hT5 w5 hct; have hB6 := blk3 (hBx2 w5 hct); obtain ⟨x0, x1, x2⟩ := hB6; obtain ⟨y0, y1⟩ := hT6.cell hli; have s6 := hS5 w5 hct))
        have hT7 := hT6.put i k
        clear hT6 hct x0 x1 x2 y0 y1 s6 hT5 hS5 hBx2 CY hT2 hAl z0 z1 s2' s2'' q0 q1 q2 hbx hbx2
        go_wp2
        exact ⟨by unfold AsI; exact ⟨j + 1, _, _, _, _, _, _, _, _, _, _, _, _, _, _, _, _, _, _, _, _, _, _, _, _, _, _, _, _, _, _, _, _, _, _, _, _, _, _, _, _, _, _, rfl, by omega, hA2, hT7⟩, by simp [intOf]; omega⟩
      · have CN : Calls Try.prog 48 _ _ _ := CE.mono (fun e w' h => picked_no h h1)
        have hA2 := hide (hA.out.come (v := -1) (occ' := occ) hI hg1 hF.out hlt hi e1 (.inr ⟨fun b' hx => h1 b' hx.1 ((hSv b' hx.1).2 hx), rfl, rfl⟩))
        have hTn : ∀ w5, w5 = (wr.alloc (.cells #[.int .i64 f, .int .i64 1, .int .i64 i] 60)).drew → St w w5 gl ga cs occ ls (.slice (some ⟨pb, off, none⟩) es.length vc) es ∧ w5.cell? ⟨wr.heap.size, 2, none⟩ = some (.int .i64 i) ∧ w5.cell? ⟨sb, so + i * 3 + 2, none⟩ = some (.int .i64 (ss.getD i StayV.zero).l) := fun w5 h => by
          subst h; exact ⟨hT2, hbx2, s2'⟩
        clear CE hSv h1 hA hsc
        generalize (ss.getD i StayV.zero).l = L at *
        refine wpN_of ?_
        go_wp2
        go_region_held3 (fun w' => w'.cell? ⟨wr.heap.size, 2, none⟩ = some (.int .i64 i) ∧ w'.cell? ⟨sb, so + i * 3 + 2, none⟩ = some (.int .i64 L)) (go_keep) (first
          | (go_at_call 48; with_reducible refine CN.mono ?_; rintro e w5 ⟨rfl, hct⟩; obtain ⟨hT6, x2, s6⟩ := hTn w5 hct; clear hct; obtain ⟨y0, y1⟩ := hT6.cell hli))
        have hT7 := hT6.put i (-1)
        clear CN hT2 hAl z0 z1 s2' s2'' q0 q1 q2 hbx hbx2 hT6 hTn x2 s6 y0 y1
        go_wp2
        exact ⟨by unfold AsI; exact ⟨j + 1, _, _, _, _, _, _, _, _, _, _, _, _, _, _, _, _, _, _, _, _, _, _, _, _, _, _, _, _, _, _, _, _, _, _, _, _, _, _, _, _, _, _, rfl, by omega, hA2, hT7⟩, by simp [intOf]; omega⟩
    · rw [e0] at q0 q1 q2
      have hcm : Hid (leaveP ss g i = ⟨tA ss i + g, 0, i⟩) := rfl
      rw [hcm.out] at q0 q1 q2
      dsimp only at q0 q1 q2
      generalize tA ss i + g = f at q0 q1 q2
      have hAl := balloc wr (.cells #[.int .i64 f, .int .i64 0, .int .i64 i] 60)
      have hbx := heap_alloc_new wr (.cells #[.int .i64 f, .int .i64 0, .int .i64 i] 60)
      have hT2 := hT.keep hAl
      have hi' : (i : Int) < (ss.length : Int) := by omega
      obtain ⟨z0, z1⟩ := hT2.cell hli
      obtain ⟨-, -, hwh⟩ := hA.out.there hI hg1 hF.out hlt hi e1
      have hL := hA.out.len
      have hgls : gl < wr.heap.size := by
        obtain ⟨c, h, _⟩ := hT.listBlock
        exact lt_of_block h
      rcases hwh with hm | ⟨bb, hbb, hm, ho⟩
      · have hA2 := hide (hA.out.leave (occ' := occ) hI hg1 hF.out hlt hi e1 (.inl ⟨hm, rfl⟩))
        rw [hm] at z0
        clear hA hm
        refine wpN_of ?_
        go_wp2
        exact ⟨by unfold AsI; exact ⟨j + 1, _, _, _, _, _, _, _, _, _, _, _, _, _, _, _, _, _, _, _, _, _, _, _, _, _, _, _, _, _, _, _, _, _, _, _, _, _, _, _, _, _, _, rfl, by omega, hA2, hT2⟩, by simp [intOf]; omega⟩
      · have hA2 := hide (hA.out.leave (occ' := setOcc occ bb none) hI hg1 hF.out hlt hi e1 (.inr ⟨bb, hbb, hm, rfl⟩))
        rw [hm] at z0
        have hbc : bb < cs.length := by omega
        have c0 := hT2.bays.cell hbc
        obtain ⟨s, r, hch⟩ := hT2.bays.ch bb hbc
        rw [ho] at hch
        have hb' : (bb : Int) < (zs.length : Int) := by omega
        clear hA hm ho
        have hT7 : St w (((wr.alloc (.cells #[.int .i64 f, .int .i64 0, .int .i64 i] 60))).setChan (cs.getD bb 0) 1 #[] false s (r + 1) false) gl ga cs (setOcc occ bb none) ls (.slice (some ⟨pb, off, none⟩) es.length vc) es := hT2.chan hbc ⟨s, r + 1, rfl⟩
        change _ = some (Obj.chan 1 #[.int .i64 i] false s r false) at hch
        have hgal : ga < wr.heap.size := by
          obtain ⟨c, h, _⟩ := hT.bays.rowBlock
          exact lt_of_block h
        obtain ⟨x0, x1, x2⟩ := blk3 hbx
        generalize cs.getD bb 0 = c at *
        clear hT2 hT hbx
        refine wpN_seq_k fun K hK => ?_
        go_wp2
        refine wpN_seq_k fun K hK => ?_
        go_wp2
        refine wpN_seq_n fun K5 hK5 => ?_
        refine wpN_block ?_
        refine wpN_seq_k fun K hK => ?_
        go_wp2
        refine wpN_block ?_
        refine wpN_seq_k fun K hK => ?_
        go_wp2
        refine wpN_false rfl ?_
        refine wpN_seq_k fun K hK => ?_
        go_wp2
        refine wpN_true rfl ?_
        refine wpN_region ?_
        simp only [List.size_toArray, List.length_cons, List.length_nil, Nat.reduceAdd, Nat.zero_add, List.range, List.range.loop]
        refine opsN_op_k rfl rfl fun K9 hK9 => ?_
        unfold valN
        go_simp
        refine hK9 _ _ ?_
        clear hK9 K9
        refine opsN_op_k rfl rfl fun K9 hK9 => ?_
        unfold valN
        go_simp
        refine hK9 _ _ ?_
        clear hK9 K9
        refine opsN_op_k rfl rfl fun K9 hK9 => ?_
        unfold valN
        go_simp
        refine hK9 _ _ ?_
        clear hK9 K9
        refine opsN_op_k rfl rfl fun K9 hK9 => ?_
        unfold valN
        go_simp
        refine hK9 _ _ ?_
        clear hK9 K9
        refine opsN_op_k rfl rfl fun K9 hK9 => ?_
        unfold valN
        go_simp
        refine hK9 _ _ ?_
        clear hK9 K9
        refine opsN_op_k rfl rfl fun K9 hK9 => ?_
        unfold valN
        go_simp
        refine hK9 _ _ ?_
        clear hK9 K9
        refine opsN_op_k rfl rfl fun K9 hK9 => ?_
        unfold valN
        go_simp
        refine hK9 _ _ ?_
        clear hK9 K9
        refine opsN_op_k rfl rfl fun K9 hK9 => ?_
        unfold valN
        go_simp
        refine hK9 _ _ ?_
        clear hK9 K9
        refine opsN_recv1 (c := c) (z := .int .i64 0) rfl rfl (by simp [go_sem, execOp, rcase, Act.eval]) hch ?_
        refine opsN_nil ?_
        simp only [Exit.inBlock, Exit.then]
        refine hK5 _ _ ?_
        refine wpN_of ?_
        go_wp2
        exact ⟨by unfold AsI; exact ⟨j + 1, _, _, _, _, _, _, _, _, _, _, _, _, _, _, _, _, _, _, _, _, _, _, _, _, _, _, _, _, _, _, _, _, _, _, _, _, _, _, _, _, _, _, rfl, by omega, hA2, hT7⟩, by simp [intOf]; omega⟩
  · obtain rfl : j = es.length := by omega
    have hlt' : ¬ ((es.length : Int) < (es.length : Int)) := by omega
    have hF2 := hide (hA.out.done hI)
    have hL2 := hA.out.len
    have hO := hT.list
    rw [hL2] at hO
    have hb := hT.below
    clear hA hT
    refine wpN_of ?_
    go_wp2
    refine wpN_of ?_
    go_wp2
    go_ret
    exact ⟨ls, .inr ⟨hOk.out, hL2, hF2.out⟩, ⟨_, rfl, by rw [hL2]; exact hO⟩, hb⟩
end Go.Proofs.Yteklmeekapegpaa
