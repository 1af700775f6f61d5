/- The model's least lengths. -/
import Derived.Test.YtdjambejppanoaaGE
namespace Go.Proofs.Ytdjambejppanoaa
open Go.RowKit
/-- What l02Best answers. -/
def BestAns (w : World) (N : Nat) (es : List EdgeV) (tz : Int) (e : Ending) (w' : World) : Prop :=
  ∃ gC cC gK cK ls cs, e = .returned (.tuple #[.slice (some ⟨gC, 0, none⟩) N cC, .slice (some ⟨gK, 0, none⟩) N cK]) ∧ Bst N es tz ls cs ∧ Tw w.heap.size N w' gC cC gK cK ls cs ∧ Below w.heap.size w w'
/-- What its loops hold. -/
structure HbI (w wr : World) (N : Nat) (es : List EdgeV) (tz : Int) (nv sv : Value) (gC cC gK cK r S T : Nat) (ls cs : List Int) : Prop where
  bf : BFI N es tz r S T ls cs
  tw : Tw (w.heap.size + 1) N wr gC cC gK cK ls cs
  box : Bx2 wr w.heap.size nv sv
  bel : Below w.heap.size w wr
  tb : T ≤ 120 * r + S
theorem HbI.keep {w wr w2 : World} {N : Nat} {es : List EdgeV} {tz : Int} {nv sv : Value} {gC cC gK cK r S T : Nat} {ls cs : List Int} (h : HbI w wr N es tz nv sv gC cC gK cK r S T ls cs) (hb : Below wr.heap.size wr w2) : HbI w w2 N es tz nv sv gC cC gK cK r S T ls cs :=
  ⟨h.bf, h.tw.below hb, h.box.below hb, btrans h.bel hb, h.tb⟩
theorem HbI.set {w wr : World} {N : Nat} {es : List EdgeV} {tz : Int} {nv sv : Value} {gC cC gK cK r S T : Nat} {ls cs ls' cs' : List Int} (h : HbI w wr N es tz nv sv gC cC gK cK r S T ls cs) {x : Nat} {u v : Int} (hl : ls' = ls.set x u) (hc : cs' = cs.set x v) (hb : BFI N es tz r (S + 1) (T + 1) ls' cs') :
    HbI w ((wr.setCell ⟨gC, x, none⟩ (.int .i64 u)).setCell ⟨gK, x, none⟩ (.int .i64 v)) N es tz nv sv gC cC gK cK r (S + 1) (T + 1) ls' cs' := by
  subst hl hc
  have h1 := own_from h.tw.c (Nat.le_refl _) gC rfl
  have h2 := own_from h.tw.k (Nat.le_refl _) gK rfl
  exact ⟨hb, (h.tw.setC x u).setK x v, (h.box.far (gset (World.grownBy.refl _ _) _ _) (by simp; omega)).far (gset (World.grownBy.refl _ _) _ _) (by simp; omega), below_set (by omega) (below_set (by omega) h.bel), by have := h.tb; omega⟩
theorem HbI.same {w wr : World} {N : Nat} {es : List EdgeV} {tz : Int} {nv sv : Value} {gC cC gK cK r S T : Nat} {ls cs ls' cs' : List Int} (h : HbI w wr N es tz nv sv gC cC gK cK r S T ls cs) (hl : ls' = ls) (hc : cs' = cs) (hb : BFI N es tz r (S + 1) (T + 1) ls' cs') :
    HbI w wr N es tz nv sv gC cC gK cK r (S + 1) (T + 1) ls' cs' := by
  subst hl hc
  exact ⟨hb, h.tw, h.box, h.bel, by have := h.tb; omega⟩
theorem box_sets {wr : World} {g gC gK x : Nat} {u v c0 c1 c2 c3 : Value} (h : Bx4 wr g c0 c1 c2 c3) (h1 : gC < g) (h2 : gK < g) : Bx4 ((wr.setCell ⟨gC, x, none⟩ u).setCell ⟨gK, x, none⟩ v) g c0 c1 c2 c3 :=
  (h.far (gset (World.grownBy.refl _ _) _ _) (by simp; omega)).far (gset (World.grownBy.refl _ _) _ _) (by simp; omega)
set_option maxRecDepth 20000 in
set_option maxHeartbeats 6400000 in
theorem cBestS (a : Option Addr) (p N : Nat) (es : List EdgeV) (t : Nat) (w : World) (he : Edges w a es) (hr : netB (N : Int) es = true) (ht : t < N) :
    Calls Try.prog 42 #[.agg #[.int .i64 (N : Int), .slice a es.length p], .int .i64 (t : Int)] w (BestAns w N es (t : Int)) := by
  obtain ⟨i1, hi1, hy0, hy1, hy2⟩ := info_parts infoInts
  obtain ⟨R, hN, hE⟩ := net_rg hr
  have HB := balloc w (.cells #[.int .i64 (N : Int), .slice a es.length p] 26)
  have X := Bx2.new w (.int .i64 (N : Int)) (.slice a es.length p) 26
  clear hr
  go_enter Try.func42, Try.ntmps42
  have w0 : World := w
  have A1 := balloc (w.alloc (.cells #[.int .i64 (N : Int), .slice a es.length p] 26)) (.cells #[] 3)
  have A2 := balloc ((w.alloc (.cells #[.int .i64 (N : Int), .slice a es.length p] 26)).alloc (.cells #[] 3)) (.cells #[] 3)
  have o1 := World.ownsRow_made (e := 3) (size := 1) (w.alloc (.cells #[.int .i64 (N : Int), .slice a es.length p] 26)) #[] 0 (Nat.le_refl _) (by omega) rfl
  have o2 := World.ownsRow_made (e := 3) (size := 1) ((w.alloc (.cells #[.int .i64 (N : Int), .slice a es.length p] 26)).alloc (.cells #[] 3)) #[] 0 (Nat.le_refl _) (by omega) rfl
  have X7 := (X.below A1).below A2
  have HB7 := btrans (btrans HB A1) A2
  have T0 : Two (w.heap.size + 1) (((w.alloc (.cells #[.int .i64 (N : Int), .slice a es.length p] 26)).alloc (.cells #[] 3)).alloc (.cells #[] 3)) (.slice (some ⟨w.heap.size + 1, 0, none⟩) 0 0) (.slice (some ⟨w.heap.size + 1 + 1, 0, none⟩) 0 0) [] [] := by
    rw [sz1] at o1
    rw [sz1, sz1] at o2
    refine ⟨own_keep o1 A2, own_base o2 (by omega), ?_⟩
    intro x hx
    simp [Value.ownBlock] at hx ⊢
    omega
  clear A1 A2 o1 o2 w0
  go_wp2
  go_loopw [6, 7, 8] (fun u v iv wr => ∃ i : Nat, i ≤ N ∧ iv = .int .i64 i ∧ Two (w.heap.size + 1) wr u v (List.replicate i (-1)) (List.replicate i 0) ∧ Bx2 wr w.heap.size (.int .i64 (N : Int)) (.slice a es.length p) ∧ Below w.heap.size w wr) (fun _ _ iv _ => N - (intOf iv).toNat)
  case atStart => exact ⟨0, Nat.zero_le _, rfl, T0, X7, HB7⟩
  case round =>
    clear T0 X7 HB7 X HB
    obtain ⟨i, hin, rfl, TW, X, HB⟩ := hrel
    obtain ⟨b0, b1⟩ := id X
    by_cases hlt : i < N
    · obtain ⟨ua, uc, rfl⟩ := own_form TW.c
      obtain ⟨va, vc, rfl⟩ := own_form TW.k
      have hcF := own_from TW.c (Nat.le_refl _)
      have hkF := own_from TW.k (Nat.le_refl _)
      have hsz := HB.size
      have hws := cell_lt X.1
      have hTc := TW.c
      have hTk := TW.k
      have hXu : some w.heap.size ≠ (Value.slice ua (List.replicate i (-1 : Int)).length uc).ownBlock := fun e => by have := hcF _ e.symm; omega
      have hXv : some w.heap.size ≠ (Value.slice va (List.replicate i (0 : Int)).length vc).ownBlock := fun e => by have := hkF _ e.symm; omega
      rw [List.length_replicate] at hTc hTk
      have hP1 := hide (fun (w8 : World) (o : Obj) u8 => TW.pushC (w8 := w8) (o := o) (u8 := u8) (x := -1))
      have HA := HB.alloc hsz (.cells #[.int .i64 (-1)] 3)
      have XA := X.below (balloc wr (.cells #[.int .i64 (-1)] 3))
      rw [List.length_replicate] at hP1 hcF hXu
      rw [List.length_replicate]
      rw [List.length_replicate]
      clear TW
      go_wp2_with (at_builtin; refine wpList_append_own_at _ rfl _ _ 29 rfl (w.heap.size + 1) 3 i1 (.int .i64 0) 1 8 Try.underlying29 hi1 hy0 hy1 hy2 rfl (by decide) _ _ _ rfl (hTc.alloc _) ⟨wr.heap.size, 0, none⟩ 1 1 [.int .i64 (-1)] rfl rfl ?c1 ?c2 ?c3 ?c4 ?c5 ?_)
      case c1 =>
        intro j x hj
        match j, hj with
        | 0, hj => simp at hj; subst hj; simp [Addr.add]
      case c2 => intro x hx; simp at hx; subst hx; rfl
      case c3 => unfold maxLen; omega
      case c4 => omega
      case c5 => simp; omega
      intro u8 w8 hown8 hgrow8 _ hloc8
      have TW8 := hP1.out w8 _ u8 (by rw [List.map_replicate]; exact hown8) hgrow8 (by rw [sz1]; exact hloc8)
      have X8 := Bx2.far XA hgrow8 hXu
      have HB8 : Below w.heap.size w w8 := HA.grown hgrow8 (by simp; omega) (fun j e => by have := hcF j e; omega)
      rw [show List.replicate i (-1 : Int) ++ [-1] = List.replicate (i + 1) (-1) from List.replicate_succ'.symm] at TW8
      have hTk8 := TW8.k
      have hP2 := hide (fun (w9 : World) (o : Obj) v9 => TW8.pushK (w8 := w9) (o := o) (v8 := v9) (x := 0))
      rw [List.length_replicate] at hTk8 hP2 hkF hXv
      have hsz8 := HB8.size
      have HA8 := HB8.alloc hsz8 (.cells #[.int .i64 0] 3)
      have XA8 := X8.below (balloc w8 (.cells #[.int .i64 0] 3))
      clear hown8 hgrow8 hloc8 TW8 hTc hTk hP1 HA XA X HB hXu X8 HB8 hcF hsz hws b0 b1
      go_wp2_with (at_builtin; refine wpList_append_own_at _ rfl _ _ 29 rfl (w.heap.size + 1) 3 i1 (.int .i64 0) 1 8 Try.underlying29 hi1 hy0 hy1 hy2 rfl (by decide) _ _ _ rfl (hTk8.alloc _) ⟨w8.heap.size, 0, none⟩ 1 1 [.int .i64 0] rfl rfl ?c1 ?c2 ?c3 ?c4 ?c5 ?_)
      case c1 =>
        intro j x hj
        match j, hj with
        | 0, hj => simp at hj; subst hj; simp [Addr.add]
      case c2 => intro x hx; simp at hx; subst hx; rfl
      case c3 => unfold maxLen; omega
      case c4 => omega
      case c5 => have := cell_lt XA8.1; simp at this ⊢; omega
      intro v9 w9 hown9 hgrow9 _ hloc9
      have TW9 := hP2.out w9 _ v9 (by rw [List.map_replicate]; exact hown9) hgrow9 (by rw [sz1]; exact hloc9)
      have X9 := Bx2.far XA8 hgrow9 hXv
      have HB9 : Below w.heap.size w w9 := HA8.grown hgrow9 (by simp; omega) (fun j e => by have := hkF j e; omega)
      rw [show List.replicate i (0 : Int) ++ [0] = List.replicate (i + 1) 0 from List.replicate_succ'.symm] at TW9
      clear hown9 hgrow9 hloc9 hTk8 hP2 HA8 XA8
      go_wp2
      go_roundw
      case rel => exact ⟨i + 1, by omega, by go_num, TW9, X9, HB9⟩
      case measure => simp [intOf]; omega
    · obtain rfl : i = N := by omega
      obtain ⟨gC, cC, gK, cK, rfl, rfl, TX⟩ := TW.tw (n := i) (by simp) (by simp) (by omega)
      clear TW
      have hgC := own_from TX.c (Nat.le_refl _) gC rfl
      obtain ⟨y0, f0⟩ := TX.atC (i := t) ht
      have H0 : HbI w (wr.setCell ⟨gC, t, none⟩ (.int .i64 0)) i es (t : Int) (.int .i64 (i : Int)) (.slice a es.length p) gC cC gK cK 0 0 0 ((List.replicate i (-1)).set t 0) (List.replicate i 0) :=
        ⟨by have := @BFI.new i es (t : Int) (by omega); rwa [Int.toNat_natCast] at this, TX.setC t 0, X.far (gset (World.grownBy.refl _ _) _ _) (by simp; omega), below_set (by omega) HB, by omega⟩
      clear TX X HB hin
      go_wp2
      go_loopw [9, 10, 11, 12, 13, 14, 15, 16] (fun rv _ _ _ _ _ _ _ wr => ∃ (r : Nat) (ls cs : List Int) (T : Nat), r ≤ i ∧ rv = .int .i64 r ∧ HbI w wr i es (t : Int) (.int .i64 (i : Int)) (.slice a es.length p) gC cC gK cK r 0 T ls cs) (fun rv _ _ _ _ _ _ _ _ => i - (intOf rv).toNat)
      case atStart => exact ⟨0, _, _, 0, Nat.zero_le _, rfl, H0⟩
      case round =>
        obtain ⟨r, ls, cs, T, hrN, rfl, H⟩ := hrel
        clear H0 y0 f0
        obtain ⟨b0, b1⟩ := id H.box
        by_cases hrl : r < i
        · generalize hNi : i = N at *
          clear hNi
          go_wp2
          generalize wr = wo at *
          go_loopw [10, 11, 12, 13, 14, 15, 16] (fun iv _ _ _ _ _ _ wr => ∃ (i : Nat) (ls cs : List Int) (T : Nat), i ≤ es.length ∧ iv = .int .i64 i ∧ HbI w wr N es (t : Int) (.int .i64 (N : Int)) (.slice a es.length p) gC cC gK cK r (2 * i) T ls cs) (fun iv _ _ _ _ _ _ _ => es.length - (intOf iv).toNat)
          case atStart => exact ⟨0, _, _, T, Nat.zero_le _, rfl, H⟩
          case round =>
            clear H b0 b1 wo
            obtain ⟨i, ls, cs, T, hiE, rfl, H⟩ := hrel
            obtain ⟨b0, b1⟩ := id H.box
            by_cases hil : i < es.length
            · rcases he with h | ⟨eb, eo, rfl, hc⟩
              · simp [h] at hil
              obtain ⟨p0, p1, p2, p3⟩ := hc i hil
              replace p0 := ble H.bel p0
              replace p1 := ble H.bel p1
              replace p2 := ble H.bel p2
              replace p3 := ble H.bel p3
              have e0 : es.getD i EdgeV.zero = es[i] := by simp [List.getD, hil]
              have hRi := R.nd i hil
              have hS1 : St es es[i].a i es[i].b es[i].l := ⟨hil, .inl ⟨rfl, rfl⟩, rfl⟩
              have hS2 : St es es[i].b i es[i].a es[i].l := ⟨hil, .inr ⟨rfl, rfl⟩, rfl⟩
              rw [e0] at p0 p1 p2 p3
              obtain ⟨x, hx⟩ : ∃ x : Nat, es[i].a = (x : Int) := ⟨es[i].a.toNat, by omega⟩
              obtain ⟨y, hy⟩ : ∃ y : Nat, es[i].b = (y : Int) := ⟨es[i].b.toNat, by omega⟩
              have hEa := hide (show (es.getD i EdgeV.zero).a = (x : Int) by rw [e0]; exact hx)
              have hEb := hide (show (es.getD i EdgeV.zero).b = (y : Int) by rw [e0]; exact hy)
              rw [hx] at p0 hS1 hS2 hRi
              rw [hy] at p1 hS1 hS2 hRi
              have hxN : x < N := by omega
              have hyN : y < N := by omega
              have hl1 : 1 ≤ es[i].l := hRi.2.2.2.1
              have hl2 : es[i].l ≤ 100000 := hRi.2.2.2.2
              clear hRi hx hy e0
              generalize es[i].l = l at *
              generalize es[i].m = lm at *
              have ST0 := hide hS1
              have ST1 := hide hS2
              have hal := balloc wr (.cells #[.int .i64 (x : Int), .int .i64 (y : Int), .int .i64 l, .int .i64 lm] 41)
              have XB := Bx4.new wr (.int .i64 (x : Int)) (.int .i64 (y : Int)) (.int .i64 l) (.int .i64 lm) 41
              have HA := H.keep hal
              have hgCg := own_blk_lt H.tw.c gC rfl
              have hgKg := own_blk_lt H.tw.k gK rfl
              have hxz : ((x : Nat) : Int) < (N : Int) := by omega
              have hyz : ((y : Nat) : Int) < (N : Int) := by omega
              clear hS1 hS2 H hc hal
              go_wp2
              clear p0 p1 p2 p3 b0 b1
              generalize wr.alloc (.cells #[.int .i64 (x : Int), .int .i64 (y : Int), .int .i64 l, .int .i64 lm] 41) = wo at *
              generalize wr.heap.size = g at *
              go_loopw [12, 13, 14, 15, 16] (fun kv _ _ _ _ wr => ∃ (k : Nat) (ls cs : List Int) (T : Nat), k ≤ 2 ∧ kv = .int .i64 k ∧ HbI w wr N es (t : Int) (.int .i64 (N : Int)) (.slice (some ⟨eb, eo, none⟩) es.length p) gC cC gK cK r (2 * i + k) T ls cs ∧ Bx4 wr g (.int .i64 (x : Int)) (.int .i64 (y : Int)) (.int .i64 l) (.int .i64 lm)) (fun kv _ _ _ _ _ => 2 - (intOf kv).toNat)
              case atStart => exact ⟨0, _, _, T, Nat.zero_le _, rfl, HA, XB⟩
              case round =>
                clear HA XB
                obtain ⟨k, ls, cs, T, hk2, rfl, H, XB⟩ := hrel
                obtain ⟨q0, q1, q2, q3⟩ := id XB
                by_cases hk0 : k = 0
                · subst hk0
                  go_wp2
                  go_quiet (fail)
                  replace H := H.keep (bdraw (Below.refl wr.heap.size wr) nq)
                  replace XB := XB.below (bdraw (Below.refl wr.heap.size wr) nq)
                  generalize wr.drewN nq = wp at *
                  clear q0 q1 q2 q3
                  obtain ⟨q0, q1, q2, q3⟩ := id XB
                  have hst : St es (x : Int) i (y : Int) l := ST0.out
                  have hbf := H.bf.step R hst (.inl ⟨by omega, hEa.out⟩)
                  obtain ⟨zb, fb⟩ := H.tw.atC (i := y) hyN
                  obtain ⟨kb, gb⟩ := H.tw.atK (i := y) hyN
                  have b1 := H.bf.bound (y : Int) (by omega)
                  have b2 := H.bf.bound (x : Int) (by omega)
                  have htb := H.tb
                  rw [lAt_nat, lAt_nat] at b1 b2
                  have YES := hide (fun h0 h => rel_yes (ls := ls) (cs := cs) (x := x) (y := y) (l := l) h0 h)
                  have NO := hide (fun h => rel_no (ls := ls) (cs := cs) (x := x) (y := y) (l := l) h)
                  have ATC := hide (fun v (h : Tw (w.heap.size + 1) N v gC cC gK cK ls cs) => And.intro (h.atC (i := y) hyN) (h.atC (i := x) hxN))
                  have ATK := hide (fun v (h : Tw (w.heap.size + 1) N v gC cC gK cK ls cs) => And.intro (h.atK (i := y) hyN) (h.atK (i := x) hxN))
                  generalize gI ls x = va at *
                  generalize gI ls y = vb at *
                  generalize gI cs x = qa at *
                  generalize gI cs y = qb at *
                  have hne : gC ≠ gK := H.tw.ne
                  have hbf := hide hbf
                  have w1 : IntKind.i64.wrap (vb + l) = vb + l := wrap_in _ (by omega) (by omega)
                  have w2 : IntKind.i64.wrap (qb + 1) = qb + 1 := wrap_in _ (by omega) (by omega)
                  by_cases c1 : vb < 0
                  · have E := NO.out (.inl c1)
                    rw [E] at hbf
                    have HN := H.same rfl rfl hbf.out
                    have XN := XB
                    clear E YES NO ATC ATK hbf w1 w2 H XB b1 b2
                    go_wp2
                    go_roundw
                    case rel => exact ⟨1, _, _, T + 1, by omega, by go_num, HN, XN⟩
                    case measure => simp [intOf]
                  have c1' : 0 ≤ vb := by omega
                  go_wp2
                  go_quiet (fail)
                  replace H := H.keep (bdraw (Below.refl wp.heap.size wp) nq)
                  replace XB := XB.below (bdraw (Below.refl wp.heap.size wp) nq)
                  generalize wp.drewN nq = wz at *
                  clear q0 q1 q2 q3
                  obtain ⟨q0, q1, q2, q3⟩ := id XB
                  clear zb fb kb gb
                  obtain ⟨⟨zb, fb⟩, za, fa⟩ := ATC.out _ H.tw
                  obtain ⟨⟨kb, gb⟩, ka, ga⟩ := ATK.out _ H.tw
                  clear ATC ATK
                  by_cases c2 : va < 0
                  · have E := YES.out c1' (.inl c2)
                    rw [E] at hbf
                    have HN := H.set rfl rfl hbf.out
                    have XN := box_sets (x := x) (u := .int .i64 (vb + l)) (v := .int .i64 (qb + 1)) XB hgCg hgKg
                    clear E YES NO hbf H XB b1 b2
                    go_wp2
                    go_roundw
                    case rel => exact ⟨1, _, _, T + 1, by omega, by go_num, HN, XN⟩
                    case measure => simp [intOf]
                  have c2' : 0 ≤ va := by omega
                  by_cases c3 : vb + l < va
                  · have E := YES.out c1' (.inr (.inl c3))
                    rw [E] at hbf
                    have HN := H.set rfl rfl hbf.out
                    have XN := box_sets (x := x) (u := .int .i64 (vb + l)) (v := .int .i64 (qb + 1)) XB hgCg hgKg
                    clear E YES NO hbf H XB b1 b2
                    go_wp2
                    go_roundw
                    case rel => exact ⟨1, _, _, T + 1, by omega, by go_num, HN, XN⟩
                    case measure => simp [intOf]
                  by_cases c4 : vb + l = va
                  · have e4 : (vb + l == va) = true := by simp [c4]
                    by_cases c5 : qb + 1 < qa
                    · have E := YES.out c1' (.inr (.inr ⟨c4, c5⟩))
                      rw [E] at hbf
                      have HN := H.set rfl rfl hbf.out
                      have XN := box_sets (x := x) (u := .int .i64 (vb + l)) (v := .int .i64 (qb + 1)) XB hgCg hgKg
                      clear c4 E YES NO hbf H XB b1 b2
                      go_wp2
                      go_roundw
                      case rel => exact ⟨1, _, _, T + 1, by omega, by go_num, HN, XN⟩
                      case measure => simp [intOf]
                    · have E := NO.out (.inr ⟨by omega, by omega, fun _ => by omega⟩)
                      rw [E] at hbf
                      have HN := H.same rfl rfl hbf.out
                      have XN := XB
                      clear c4 E YES NO hbf H XB b1 b2
                      go_wp2
                      go_roundw
                      case rel => exact ⟨1, _, _, T + 1, by omega, by go_num, HN, XN⟩
                      case measure => simp [intOf]
                  · have e4 : (vb + l == va) = false := by simp [c4]
                    have E := NO.out (.inr ⟨by omega, by omega, fun _ => by omega⟩)
                    rw [E] at hbf
                    have HN := H.same rfl rfl hbf.out
                    have XN := XB
                    clear E YES NO hbf H XB b1 b2
                    go_wp2
                    go_roundw
                    case rel => exact ⟨1, _, _, T + 1, by omega, by go_num, HN, XN⟩
                    case measure => simp [intOf]
                by_cases hk1 : k = 1
                · subst hk1
                  go_wp2
                  go_quiet (fail)
                  replace H := H.keep (bdraw (Below.refl wr.heap.size wr) nq)
                  replace XB := XB.below (bdraw (Below.refl wr.heap.size wr) nq)
                  generalize wr.drewN nq = wp at *
                  clear q0 q1 q2 q3
                  obtain ⟨q0, q1, q2, q3⟩ := id XB
                  go_wp2
                  go_quiet (fail)
                  replace H := H.keep (bdraw (Below.refl wp.heap.size wp) nq)
                  replace XB := XB.below (bdraw (Below.refl wp.heap.size wp) nq)
                  generalize wp.drewN nq = wq at *
                  clear q0 q1 q2 q3
                  obtain ⟨q0, q1, q2, q3⟩ := id XB
                  have hst : St es (y : Int) i (x : Int) l := ST1.out
                  have hbf := H.bf.step R hst (.inr ⟨by omega, hEb.out⟩)
                  obtain ⟨zb, fb⟩ := H.tw.atC (i := x) hxN
                  obtain ⟨kb, gb⟩ := H.tw.atK (i := x) hxN
                  have b1 := H.bf.bound (x : Int) (by omega)
                  have b2 := H.bf.bound (y : Int) (by omega)
                  have htb := H.tb
                  rw [lAt_nat, lAt_nat] at b1 b2
                  have YES := hide (fun h0 h => rel_yes (ls := ls) (cs := cs) (x := y) (y := x) (l := l) h0 h)
                  have NO := hide (fun h => rel_no (ls := ls) (cs := cs) (x := y) (y := x) (l := l) h)
                  have ATC := hide (fun v (h : Tw (w.heap.size + 1) N v gC cC gK cK ls cs) => And.intro (h.atC (i := x) hxN) (h.atC (i := y) hyN))
                  have ATK := hide (fun v (h : Tw (w.heap.size + 1) N v gC cC gK cK ls cs) => And.intro (h.atK (i := x) hxN) (h.atK (i := y) hyN))
                  generalize gI ls y = va at *
                  generalize gI ls x = vb at *
                  generalize gI cs y = qa at *
                  generalize gI cs x = qb at *
                  have hne : gC ≠ gK := H.tw.ne
                  have hbf := hide hbf
                  have w1 : IntKind.i64.wrap (vb + l) = vb + l := wrap_in _ (by omega) (by omega)
                  have w2 : IntKind.i64.wrap (qb + 1) = qb + 1 := wrap_in _ (by omega) (by omega)
                  by_cases c1 : vb < 0
                  · have E := NO.out (.inl c1)
                    rw [E] at hbf
                    have HN := H.same rfl rfl hbf.out
                    have XN := XB
                    clear E YES NO ATC ATK hbf w1 w2 H XB b1 b2
                    go_wp2
                    go_roundw
                    case rel => exact ⟨2, _, _, T + 1, by omega, by go_num, HN, XN⟩
                    case measure => simp [intOf]
                  have c1' : 0 ≤ vb := by omega
                  go_wp2
                  go_quiet (fail)
                  replace H := H.keep (bdraw (Below.refl wq.heap.size wq) nq)
                  replace XB := XB.below (bdraw (Below.refl wq.heap.size wq) nq)
                  generalize wq.drewN nq = wz at *
                  clear q0 q1 q2 q3
                  obtain ⟨q0, q1, q2, q3⟩ := id XB
                  clear zb fb kb gb
                  obtain ⟨⟨zb, fb⟩, za, fa⟩ := ATC.out _ H.tw
                  obtain ⟨⟨kb, gb⟩, ka, ga⟩ := ATK.out _ H.tw
                  clear ATC ATK
                  by_cases c2 : va < 0
                  · have E := YES.out c1' (.inl c2)
                    rw [E] at hbf
                    have HN := H.set rfl rfl hbf.out
                    have XN := box_sets (x := y) (u := .int .i64 (vb + l)) (v := .int .i64 (qb + 1)) XB hgCg hgKg
                    clear E YES NO hbf H XB b1 b2
                    go_wp2
                    go_roundw
                    case rel => exact ⟨2, _, _, T + 1, by omega, by go_num, HN, XN⟩
                    case measure => simp [intOf]
                  have c2' : 0 ≤ va := by omega
                  by_cases c3 : vb + l < va
                  · have E := YES.out c1' (.inr (.inl c3))
                    rw [E] at hbf
                    have HN := H.set rfl rfl hbf.out
                    have XN := box_sets (x := y) (u := .int .i64 (vb + l)) (v := .int .i64 (qb + 1)) XB hgCg hgKg
                    clear E YES NO hbf H XB b1 b2
                    go_wp2
                    go_roundw
                    case rel => exact ⟨2, _, _, T + 1, by omega, by go_num, HN, XN⟩
                    case measure => simp [intOf]
                  by_cases c4 : vb + l = va
                  · have e4 : (vb + l == va) = true := by simp [c4]
                    by_cases c5 : qb + 1 < qa
                    · have E := YES.out c1' (.inr (.inr ⟨c4, c5⟩))
                      rw [E] at hbf
                      have HN := H.set rfl rfl hbf.out
                      have XN := box_sets (x := y) (u := .int .i64 (vb + l)) (v := .int .i64 (qb + 1)) XB hgCg hgKg
                      clear c4 E YES NO hbf H XB b1 b2
                      go_wp2
                      go_roundw
                      case rel => exact ⟨2, _, _, T + 1, by omega, by go_num, HN, XN⟩
                      case measure => simp [intOf]
                    · have E := NO.out (.inr ⟨by omega, by omega, fun _ => by omega⟩)
                      rw [E] at hbf
                      have HN := H.same rfl rfl hbf.out
                      have XN := XB
                      clear c4 E YES NO hbf H XB b1 b2
                      go_wp2
                      go_roundw
                      case rel => exact ⟨2, _, _, T + 1, by omega, by go_num, HN, XN⟩
                      case measure => simp [intOf]
                  · have e4 : (vb + l == va) = false := by simp [c4]
                    have E := NO.out (.inr ⟨by omega, by omega, fun _ => by omega⟩)
                    rw [E] at hbf
                    have HN := H.same rfl rfl hbf.out
                    have XN := XB
                    clear E YES NO hbf H XB b1 b2
                    go_wp2
                    go_roundw
                    case rel => exact ⟨2, _, _, T + 1, by omega, by go_num, HN, XN⟩
                    case measure => simp [intOf]
                · obtain rfl : k = 2 := by omega
                  have HR : HbI w wr N es (t : Int) (.int .i64 (N : Int)) (.slice (some ⟨eb, eo, none⟩) es.length p) gC cC gK cK r (2 * (i + 1)) T ls cs := by
                    have := H; rwa [show 2 * i + 2 = 2 * (i + 1) by omega] at this
                  clear H XB q0 q1 q2 q3
                  go_wp2
                  go_roundw
                  case rel => exact ⟨i + 1, _, _, T, by omega, by go_num, HR⟩
                  case measure => simp [intOf]; omega
            · obtain rfl : i = es.length := by omega
              have HR : HbI w wr N es (t : Int) (.int .i64 (N : Int)) (.slice a es.length p) gC cC gK cK (r + 1) 0 T ls cs := ⟨H.bf.round, H.tw, H.box, H.bel, by have := H.tb; omega⟩
              clear H
              go_wp2
              go_roundw
              case rel => exact ⟨r + 1, _, _, T, by omega, by go_num, HR⟩
              case measure => simp [intOf]; omega
        · obtain rfl : r = i := by omega
          have hB := hide (H.bf.best R)
          have hT := H.tw
          have hBl := H.bel
          clear H
          go_wp2
          go_ret2
          exact ⟨gC, cC, gK, cK, ls, cs, rfl, hB.out, ⟨own_base hT.c (by omega), own_base hT.k (by omega), hT.cl, hT.kl, hT.ne⟩, hBl⟩
end Go.Proofs.Ytdjambejppanoaa
