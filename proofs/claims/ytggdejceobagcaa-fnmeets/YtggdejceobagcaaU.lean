/- The program's search. -/
import Derived.Test.YtggdejceobagcaaV
import Derived.Deep.RegionHeld3
namespace Go.Proofs.Ytggdejceobagcaa
open Go.RowKit Go.Maps

section
variable (w : World) {ops : Array Oper} {rest : List Oper} {o : Oper} {a : Act} {Q : Exit → Act → World → Prop}
theorem wp_look_some (hg : o.guard = none) (m x : Operand) (hop : o.op = Op.lookup 75 m x true) (b n : Nat) (D : DataW Unit)
    (hm : a.eval m = .map (some b)) (hown : OM w b n D) (key : Value) (q : List SingleV) (hx : a.eval x = key) (hkey : keyOf Try.prog 74 key = some (kl q)) {c : Int} (hl : look D q = some c)
    (hK : wpList Try.prog ops Q rest (a.put o.dst (.tuple #[.int .i64 c, .bool true])) w) : wpList Try.prog ops Q (o :: rest) a w :=
  wpList_lookup_own_ok_int w hg m x 75 hop 74 3 .i64 lawLU Try.underlying75 Try.underlying3 (zeroE _) b n D hm hown key (kl q) hx hkey (fun c' hat _ => by
    obtain ⟨h1, h2⟩ := look_some hl hat
    rw [h1, h2]; exact hK)
theorem wp_look_none (hg : o.guard = none) (m x : Operand) (hop : o.op = Op.lookup 75 m x true) (b n : Nat) (D : DataW Unit)
    (hm : a.eval m = .map (some b)) (hown : OM w b n D) (key : Value) (q : List SingleV) (hx : a.eval x = key) (hkey : keyOf Try.prog 74 key = some (kl q)) (hl : look D q = none)
    (hK : ∀ c, wpList Try.prog ops Q rest (a.put o.dst (.tuple #[.int .i64 c, .bool false])) w) : wpList Try.prog ops Q (o :: rest) a w :=
  wpList_lookup_own_ok_int w hg m x 75 hop 74 3 .i64 lawLU Try.underlying75 Try.underlying3 (zeroE _) b n D hm hown key (kl q) hx hkey (fun c' hat _ => by
    rw [look_none hl hat]; exact hK c')
end

theorem new_one' (W : World) (n T : Nat) (x : Value) (hn : n = W.heap.size) : ∀ j u, [x][j]? = some u → (W.alloc (.cells #[x] T)).cell? ((⟨n, 0, none⟩ : Addr).add j) = some u := by
  subst hn
  intro j u hj
  match j, hj with
  | 0, hj => simp at hj; subst hj; simp [Addr.add, go_sem]
theorem one_cells (x : Int) : ∀ u ∈ [Value.int .i64 x], u.oneCell' = true := by
  intro u hu
  simp at hu
  rw [hu]; rfl

set_option maxRecDepth 20000 in
set_option maxHeartbeats 6400000 in
theorem cSearchI (ls : List Int) (st : List SingleV) (la tb : Option Addr) (lc tc bo bt bl bv bf bm B n : Nat) (hst : Nice (pad st)) (hst4 : st.length ≤ 4) (hl : lineOk ls = true) (hla : ∀ x, la = some x → x.block < B) (hBm : B ≤ bm) (hBv : B ≤ bv) (N : Nat) :
    ∀ (ts : List SingleV) (ms : List Int) (v : Value) (D : DataW Unit) (w : World), far ts = N → singlesOk ls ts = true → Box st ts → ms.length + far ts ≤ 100 → Env w bo bt bl bv bf bm (.slice tb st.length tc) (.slice la ls.length lc) v → OM w bm n D →
      w.ownsRow B 3 1 v ms.length (ms.map (Value.int .i64)) → Ints w la ls → B ≤ w.heap.size → Opn ls st ts (look D) →
    Calls Try.prog 63 #[luVal (pad ts), .pointer (some ⟨bo, 0, none⟩), .pointer (some ⟨bt, 0, none⟩), .pointer (some ⟨bl, 0, none⟩), .pointer (some ⟨bv, 0, none⟩), .pointer (some ⟨bf, 0, none⟩)] w fun e w' => ∃ v', e = .returned (.bool (canFin ls ts)) ∧
      w'.heap[bv]? = some (.cells #[v'] 24 (0, 0)) ∧ w'.ownsRow B 3 1 v' (movesOf ls ts ms).length ((movesOf ls ts ms).map (Value.int .i64)) ∧ Stp w w' bm bv v v' ∧
      (canFin ls ts = false → ∃ D', OM w' bm n D' ∧ NewOpn ls st (look D) (look D')) := by
  obtain ⟨-, hl2, hl5⟩ := lineOk_parts hl
  obtain ⟨i0, hi, hz0, hz1, hz2⟩ := info_parts2 infoInts
  induction N using Nat.strongRecOn with
  | _ N IH =>
  intro ts ms v D w hfar hok hbox hms hE hM hO hI hBw hopn
  have hP := ok_nice hok
  have hkey := hP.kl
  have hU0 := Up.new w (pad ts)
  rw [luVal_at hP.len] at hkey ⊢
  obtain ⟨b0, hb0⟩ : ∃ W, W = w.alloc (.cells #[.int .i64 (At (pad ts) 0).s, .int .i64 (At (pad ts) 0).d, .int .i64 (At (pad ts) 1).s, .int .i64 (At (pad ts) 1).d, .int .i64 (At (pad ts) 2).s, .int .i64 (At (pad ts) 2).d, .int .i64 (At (pad ts) 3).s, .int .i64 (At (pad ts) 3).d] 74) := ⟨_, rfl⟩
  have hB0 := balloc w (.cells #[.int .i64 (At (pad ts) 0).s, .int .i64 (At (pad ts) 0).d, .int .i64 (At (pad ts) 1).s, .int .i64 (At (pad ts) 1).d, .int .i64 (At (pad ts) 2).s, .int .i64 (At (pad ts) 2).d, .int .i64 (At (pad ts) 3).s, .int .i64 (At (pad ts) 3).d] 74)
  have hM0 := OM.below hM hB0
  have hE0 := hE.step hM hO ((Stp.refl w bm bv v).below hB0) ((hB0.block bv hE.vlt).trans hE.mv)
  have hO0 := own_keep hO hB0
  have hS0 : Stp w _ bm bv v v := (Stp.refl w bm bv v).below hB0
  have cO := cell_of_one hE0.op
  obtain ⟨⟨u0, u1⟩, ⟨u2, u3⟩, ⟨u4, u5⟩, u6, u7⟩ := hU0.eight
  rcases hopn ts hbox (Nat.le_refl _) with hlk | ⟨hlk, hcf⟩
  rotate_left
  · rw [movesOf_no ms hcf, hcf]
    have hv0 := hE0.mv
    clear hE0 hE hM hO hI hopn IH hb0
    go_enter Try.func63, Try.ntmps63
    go_wp2_with (at_lookup; refine wp_look_none _ rfl _ _ rfl bm n D rfl hM0 _ (pad ts) rfl hkey hlk ?_; intro c)
    go_wp2
    go_ret
    exact ⟨v, rfl, hv0, hO0, hS0, fun _ => ⟨D, hM0, NewOpn.refl _ _ _⟩⟩
  have hbvm : some bv ≠ some bm := fun e => map_ne' hM hE.mv (Option.some.inj e)
  have hsz0 : bv < w.heap.size := hE.vlt
  replace hfar := hide hfar
  by_cases hd : far ts = 0
  · have hdn := (done_far ts).2 hd
    have hcf := canFin_done (ls := ls) hdn
    rw [movesOf_yes ms hcf, hcf, fin_done hdn, List.append_nil]
    have hd' : (far ts : Int) = 0 := by omega
    rw [hd'] at hlk
    have hv0 := hE0.mv
    clear hE hM hO hI hopn IH hb0 hE0
    go_enter Try.func63, Try.ntmps63
    go_wp2_with (first | (at_lookup; refine wp_look_some _ rfl _ _ rfl bm n D rfl hM0 _ (pad ts) rfl hkey hlk ?_) | (at_delete; refine wpList_delete_own _ rfl _ _ 75 74 rfl 3 lawLU Try.underlying75 _ bm n D rfl hM0 _ _ rfl hkey ?_; intro w1 hM1 ht1))
    have G1 := World.mapTurned.grown ht1
    have S1 := hS0.grow G1
    have hv1 := (G1.block bv (by simp; omega) hbvm).trans hv0
    have O1 := own_far hO0 G1 (fun k hk e => by cases e; exact map_ne' hM0 (own_blk hO0 hk).2 rfl)
    clear hM0 hO0 hS0
    go_wp2
    go_ret
    exact ⟨v, rfl, hv1, O1, S1, fun h => by cases h⟩
  have hdn : doneT ts = false := by cases hq : doneT ts with | false => rfl | true => exact absurd ((done_far ts).1 hq) hd
  have hd' : ¬ ((far ts : Int) = 0) := by omega
  generalize hfi : (far ts : Int) = fi at hd' hlk
  replace hfi := hide hfi
  have hfz : (fi == 0) = false := by simpa using hd'
  replace hdn := hide hdn
  clear hd
  have hnow0 : NowOpn ls st ts (look D) (look (D.del (kl (pad ts)))) := by
    intro q hq
    by_cases e : q = ts
    · subst e; exact .inr ⟨look_del_same, .inr rfl⟩
    · exact .inl (look_del_other hP (hq.nice hst hst4) (fun h => e (pad_inj (hq.len.trans hbox.len.symm) h)))
  go_enter Try.func63, Try.ntmps63
  go_wp2_with (first | (at_lookup; refine wp_look_some _ rfl _ _ rfl bm n D rfl hM0 _ (pad ts) rfl hkey hlk ?_) | (at_delete; refine wpList_delete_own _ rfl _ _ 75 74 rfl 3 lawLU Try.underlying75 _ bm n D rfl hM0 _ _ rfl hkey ?_; intro w1 hM1 ht1; have G1 := World.mapTurned.grown ht1; have S1 := hS0.grow G1; have hv1 := (G1.block bv (by simp; omega) hbvm).trans hE0.mv; have E1 := hE.step hM hO S1 hv1; have cT1 := cell_of_one E1.tr))
  have O1 := own_far hO0 G1 (fun k hk e => by cases e; exact map_ne' hM0 (own_blk hO0 hk).2 rfl)
  have hbm0 : w.heap.size ≠ bm := fun e => by have := hM.lt; omega
  have U1 := hU0.far G1 (fun e => hbm0 (Option.some.inj e))
  have hvn : ∀ q, v.ownBlock = some q → q ≠ w.heap.size := fun q hq => by have := own_blk_lt hO q hq; omega
  have hll := hbox.len
  clear u0 u1 u2 u3 u4 u5 u6 u7 cO cT1 hlk hkey hU0 hM0 hE0 hO0 hS0 hv1 G1 ht1 hB0 hb0 hd' hfi hfz hE hM
  replace hnow0 := hide hnow0
  replace hopn := hide hopn
  replace hll := hide hll
  go_loopw [26] (fun i wr => ∃ (k : Nat) (D' : DataW Unit) (v' : Value), k ≤ st.length ∧ i = .int .i64 k ∧ Env wr bo bt bl bv bf bm (.slice tb st.length tc) (.slice la ls.length lc) v' ∧ OM wr bm n D' ∧ wr.ownsRow B 3 1 v' ms.length (ms.map (Value.int .i64)) ∧ Stp w wr bm bv v v' ∧ Up wr w.heap.size (pad ts) ∧ (∀ q, v'.ownBlock = some q → q ≠ w.heap.size) ∧ NowOpn ls st ts (look D) (look D') ∧ ∀ j, j < k → goodI ls ts j = false) (fun i _ => st.length - (intOf i).toNat)
  case atStart => exact ⟨0, _, v, Nat.zero_le _, rfl, E1, hM1, O1, S1, U1, hvn, hnow0.out, fun j h => by omega⟩
  case round =>
    obtain ⟨k, D', v', hk, rfl, E, M, O, S, U, hvn', hnow, hbad⟩ := hrel
    clear hnow0 E1 hM1 O1 S1 U1 hvn
    by_cases hlt : k < st.length
    · have hkt : k < ts.length := by rw [hll.out]; exact hlt
      have hIr := S.ints hO hBm hBv hI hla
      have cL := cell_of_one E.ln
      have cT := cell_of_one E.tr
      have CG := fun w' (h : Below wr.heap.size wr w') => cMayGo la (some ⟨w.heap.size, 0, none⟩) lc 4 ls ts k w' (hIr.below h) hl5 ((U.singles (by rw [hll.out]; exact hst4)).below h) (by rw [hll.out]; exact hst4) hkt (ok_inLine hok hkt)
      rw [hll.out] at CG
      cases hmg : mayGo ls ts k
      · have hbad2 : ∀ j, j < k + 1 → goodI ls ts j = false := by
          intro j hj
          by_cases e : j = k
          · subst e; simp [goodI, hmg]
          · exact hbad j (by omega)
        rw [hmg] at CG
        clear IH hbad
        replace hbad2 := hide hbad2
        replace hnow := hide hnow
        go_wp2_with fail
        refine wp_region_held_drew (S := (fun w' => w'.cell? ⟨bl, 0, none⟩ = some (.slice la ls.length lc) ∧ w'.cell? ⟨bt, 0, none⟩ = some (.slice tb st.length tc))) (by kernel_rfl) ?_ (fun hHeld => ?_)
        · go_keep
        refine wpAnyH_take (i := 0) (v := .slice la ls.length lc) rfl (by kernel_rfl) (by kernel_rfl) (by kernel_rfl) (fun _ _ _ h => h) (Or.inl ⟨by kernel_rfl, fun w hS => by (obtain ⟨hS0, hS1⟩ := hS; go_simp)⟩) hHeld ?_
        change wpAnyH _ _ _ _ _ _ _ { tmps := List.toArray (.agg #[.int .i64 (At (pad ts) 0).s, .int .i64 (At (pad ts) 0).d, .int .i64 (At (pad ts) 1).s, .int .i64 (At (pad ts) 1).d, .int .i64 (At (pad ts) 2).s, .int .i64 (At (pad ts) 2).d, .int .i64 (At (pad ts) 3).s, .int .i64 (At (pad ts) 3).d] :: .pointer (some ⟨bo, 0, none⟩) :: .pointer (some ⟨bt, 0, none⟩) :: .pointer (some ⟨bl, 0, none⟩) :: .pointer (some ⟨bv, 0, none⟩) :: .pointer (some ⟨bf, 0, none⟩) :: .pointer (some ⟨w.heap.size, 0, none⟩) :: u7 :: .int .i64 fi :: .bool true :: .int .i64 k :: u11 :: .tuple #[.int .i64 fi, .bool true] :: .map (some bm) :: .agg #[.int .i64 (At (pad ts) 0).s, .int .i64 (At (pad ts) 0).d, .int .i64 (At (pad ts) 1).s, .int .i64 (At (pad ts) 1).d, .int .i64 (At (pad ts) 2).s, .int .i64 (At (pad ts) 2).d, .int .i64 (At (pad ts) 3).s, .int .i64 (At (pad ts) 3).d] :: .tuple #[.int .i64 fi, .bool true] :: .int .i64 fi :: .bool true :: .bool true :: .bool false :: .map (some bm) :: .agg #[.int .i64 (At (pad ts) 0).s, .int .i64 (At (pad ts) 0).d, .int .i64 (At (pad ts) 1).s, .int .i64 (At (pad ts) 1).d, .int .i64 (At (pad ts) 2).s, .int .i64 (At (pad ts) 2).d, .int .i64 (At (pad ts) 3).s, .int .i64 (At (pad ts) 3).d] :: .int .i64 fi :: _ :: .slice tb st.length tc :: .int .i64 st.length :: .int .i64 k :: .bool true :: .int .i64 k :: .slice la ls.length lc :: u30 :: u31 :: u32 :: u33 :: u34 :: u35 :: u36 :: u37 :: u38 :: u39 :: u40 :: u41 :: u42 :: u43 :: u44 :: u45 :: u46 :: u47 :: u48 :: u49 :: u50 :: u51 :: u52 :: u53 :: u54 :: u55 :: u56 :: []), defers := [] } _
        refine wpAnyH_take (i := 1) (v := .slice tb st.length tc) rfl (by kernel_rfl) (by kernel_rfl) (by kernel_rfl) (fun _ _ _ h => h) (Or.inl ⟨by kernel_rfl, fun w hS => by (obtain ⟨hS0, hS1⟩ := hS; go_simp)⟩) hHeld ?_
        change wpAnyH _ _ _ _ _ _ _ { tmps := List.toArray (.agg #[.int .i64 (At (pad ts) 0).s, .int .i64 (At (pad ts) 0).d, .int .i64 (At (pad ts) 1).s, .int .i64 (At (pad ts) 1).d, .int .i64 (At (pad ts) 2).s, .int .i64 (At (pad ts) 2).d, .int .i64 (At (pad ts) 3).s, .int .i64 (At (pad ts) 3).d] :: .pointer (some ⟨bo, 0, none⟩) :: .pointer (some ⟨bt, 0, none⟩) :: .pointer (some ⟨bl, 0, none⟩) :: .pointer (some ⟨bv, 0, none⟩) :: .pointer (some ⟨bf, 0, none⟩) :: .pointer (some ⟨w.heap.size, 0, none⟩) :: u7 :: .int .i64 fi :: .bool true :: .int .i64 k :: u11 :: .tuple #[.int .i64 fi, .bool true] :: .map (some bm) :: .agg #[.int .i64 (At (pad ts) 0).s, .int .i64 (At (pad ts) 0).d, .int .i64 (At (pad ts) 1).s, .int .i64 (At (pad ts) 1).d, .int .i64 (At (pad ts) 2).s, .int .i64 (At (pad ts) 2).d, .int .i64 (At (pad ts) 3).s, .int .i64 (At (pad ts) 3).d] :: .tuple #[.int .i64 fi, .bool true] :: .int .i64 fi :: .bool true :: .bool true :: .bool false :: .map (some bm) :: .agg #[.int .i64 (At (pad ts) 0).s, .int .i64 (At (pad ts) 0).d, .int .i64 (At (pad ts) 1).s, .int .i64 (At (pad ts) 1).d, .int .i64 (At (pad ts) 2).s, .int .i64 (At (pad ts) 2).d, .int .i64 (At (pad ts) 3).s, .int .i64 (At (pad ts) 3).d] :: .int .i64 fi :: _ :: .slice tb st.length tc :: .int .i64 st.length :: .int .i64 k :: .bool true :: .int .i64 k :: .slice la ls.length lc :: .slice tb st.length tc :: u31 :: u32 :: u33 :: u34 :: u35 :: u36 :: u37 :: u38 :: u39 :: u40 :: u41 :: u42 :: u43 :: u44 :: u45 :: u46 :: u47 :: u48 :: u49 :: u50 :: u51 :: u52 :: u53 :: u54 :: u55 :: u56 :: []), defers := [] } _
        refine wpAnyH_take (i := 2) (v := .int .i64 st.length) rfl (by kernel_rfl) (by kernel_rfl) (by kernel_rfl) (fun _ _ _ h => h) (Or.inl ⟨by kernel_rfl, fun w hS => by (obtain ⟨hS0, hS1⟩ := hS; go_simp)⟩) hHeld ?_
        change wpAnyH _ _ _ _ _ _ _ { tmps := List.toArray (.agg #[.int .i64 (At (pad ts) 0).s, .int .i64 (At (pad ts) 0).d, .int .i64 (At (pad ts) 1).s, .int .i64 (At (pad ts) 1).d, .int .i64 (At (pad ts) 2).s, .int .i64 (At (pad ts) 2).d, .int .i64 (At (pad ts) 3).s, .int .i64 (At (pad ts) 3).d] :: .pointer (some ⟨bo, 0, none⟩) :: .pointer (some ⟨bt, 0, none⟩) :: .pointer (some ⟨bl, 0, none⟩) :: .pointer (some ⟨bv, 0, none⟩) :: .pointer (some ⟨bf, 0, none⟩) :: .pointer (some ⟨w.heap.size, 0, none⟩) :: u7 :: .int .i64 fi :: .bool true :: .int .i64 k :: u11 :: .tuple #[.int .i64 fi, .bool true] :: .map (some bm) :: .agg #[.int .i64 (At (pad ts) 0).s, .int .i64 (At (pad ts) 0).d, .int .i64 (At (pad ts) 1).s, .int .i64 (At (pad ts) 1).d, .int .i64 (At (pad ts) 2).s, .int .i64 (At (pad ts) 2).d, .int .i64 (At (pad ts) 3).s, .int .i64 (At (pad ts) 3).d] :: .tuple #[.int .i64 fi, .bool true] :: .int .i64 fi :: .bool true :: .bool true :: .bool false :: .map (some bm) :: .agg #[.int .i64 (At (pad ts) 0).s, .int .i64 (At (pad ts) 0).d, .int .i64 (At (pad ts) 1).s, .int .i64 (At (pad ts) 1).d, .int .i64 (At (pad ts) 2).s, .int .i64 (At (pad ts) 2).d, .int .i64 (At (pad ts) 3).s, .int .i64 (At (pad ts) 3).d] :: .int .i64 fi :: _ :: .slice tb st.length tc :: .int .i64 st.length :: .int .i64 k :: .bool true :: .int .i64 k :: .slice la ls.length lc :: .slice tb st.length tc :: .int .i64 st.length :: u32 :: u33 :: u34 :: u35 :: u36 :: u37 :: u38 :: u39 :: u40 :: u41 :: u42 :: u43 :: u44 :: u45 :: u46 :: u47 :: u48 :: u49 :: u50 :: u51 :: u52 :: u53 :: u54 :: u55 :: u56 :: []), defers := [] } _
        refine wpAnyH_take (i := 3) (v := .slice (some ⟨w.heap.size, 0, none⟩) st.length 4) rfl (by kernel_rfl) (by kernel_rfl) (by kernel_rfl) (fun _ _ _ h => h) (Or.inl ⟨by kernel_rfl, fun w hS => by (go_simp; rw [slice_lu _ _ _ hst4]; rfl)⟩) hHeld ?_
        change wpAnyH _ _ _ _ _ _ _ { tmps := List.toArray (.agg #[.int .i64 (At (pad ts) 0).s, .int .i64 (At (pad ts) 0).d, .int .i64 (At (pad ts) 1).s, .int .i64 (At (pad ts) 1).d, .int .i64 (At (pad ts) 2).s, .int .i64 (At (pad ts) 2).d, .int .i64 (At (pad ts) 3).s, .int .i64 (At (pad ts) 3).d] :: .pointer (some ⟨bo, 0, none⟩) :: .pointer (some ⟨bt, 0, none⟩) :: .pointer (some ⟨bl, 0, none⟩) :: .pointer (some ⟨bv, 0, none⟩) :: .pointer (some ⟨bf, 0, none⟩) :: .pointer (some ⟨w.heap.size, 0, none⟩) :: u7 :: .int .i64 fi :: .bool true :: .int .i64 k :: u11 :: .tuple #[.int .i64 fi, .bool true] :: .map (some bm) :: .agg #[.int .i64 (At (pad ts) 0).s, .int .i64 (At (pad ts) 0).d, .int .i64 (At (pad ts) 1).s, .int .i64 (At (pad ts) 1).d, .int .i64 (At (pad ts) 2).s, .int .i64 (At (pad ts) 2).d, .int .i64 (At (pad ts) 3).s, .int .i64 (At (pad ts) 3).d] :: .tuple #[.int .i64 fi, .bool true] :: .int .i64 fi :: .bool true :: .bool true :: .bool false :: .map (some bm) :: .agg #[.int .i64 (At (pad ts) 0).s, .int .i64 (At (pad ts) 0).d, .int .i64 (At (pad ts) 1).s, .int .i64 (At (pad ts) 1).d, .int .i64 (At (pad ts) 2).s, .int .i64 (At (pad ts) 2).d, .int .i64 (At (pad ts) 3).s, .int .i64 (At (pad ts) 3).d] :: .int .i64 fi :: _ :: .slice tb st.length tc :: .int .i64 st.length :: .int .i64 k :: .bool true :: .int .i64 k :: .slice la ls.length lc :: .slice tb st.length tc :: .int .i64 st.length :: .slice (some ⟨w.heap.size, 0, none⟩) st.length 4 :: u33 :: u34 :: u35 :: u36 :: u37 :: u38 :: u39 :: u40 :: u41 :: u42 :: u43 :: u44 :: u45 :: u46 :: u47 :: u48 :: u49 :: u50 :: u51 :: u52 :: u53 :: u54 :: u55 :: u56 :: []), defers := [] } _
        refine wpAnyH_take (i := 4) (v := .int .i64 k) rfl (by kernel_rfl) (by kernel_rfl) (by kernel_rfl) (fun _ _ _ h => h) (Or.inl ⟨by kernel_rfl, fun w hS => by (obtain ⟨hS0, hS1⟩ := hS; go_simp)⟩) hHeld ?_
        change wpAnyH _ _ _ _ _ _ _ { tmps := List.toArray (.agg #[.int .i64 (At (pad ts) 0).s, .int .i64 (At (pad ts) 0).d, .int .i64 (At (pad ts) 1).s, .int .i64 (At (pad ts) 1).d, .int .i64 (At (pad ts) 2).s, .int .i64 (At (pad ts) 2).d, .int .i64 (At (pad ts) 3).s, .int .i64 (At (pad ts) 3).d] :: .pointer (some ⟨bo, 0, none⟩) :: .pointer (some ⟨bt, 0, none⟩) :: .pointer (some ⟨bl, 0, none⟩) :: .pointer (some ⟨bv, 0, none⟩) :: .pointer (some ⟨bf, 0, none⟩) :: .pointer (some ⟨w.heap.size, 0, none⟩) :: u7 :: .int .i64 fi :: .bool true :: .int .i64 k :: u11 :: .tuple #[.int .i64 fi, .bool true] :: .map (some bm) :: .agg #[.int .i64 (At (pad ts) 0).s, .int .i64 (At (pad ts) 0).d, .int .i64 (At (pad ts) 1).s, .int .i64 (At (pad ts) 1).d, .int .i64 (At (pad ts) 2).s, .int .i64 (At (pad ts) 2).d, .int .i64 (At (pad ts) 3).s, .int .i64 (At (pad ts) 3).d] :: .tuple #[.int .i64 fi, .bool true] :: .int .i64 fi :: .bool true :: .bool true :: .bool false :: .map (some bm) :: .agg #[.int .i64 (At (pad ts) 0).s, .int .i64 (At (pad ts) 0).d, .int .i64 (At (pad ts) 1).s, .int .i64 (At (pad ts) 1).d, .int .i64 (At (pad ts) 2).s, .int .i64 (At (pad ts) 2).d, .int .i64 (At (pad ts) 3).s, .int .i64 (At (pad ts) 3).d] :: .int .i64 fi :: _ :: .slice tb st.length tc :: .int .i64 st.length :: .int .i64 k :: .bool true :: .int .i64 k :: .slice la ls.length lc :: .slice tb st.length tc :: .int .i64 st.length :: .slice (some ⟨w.heap.size, 0, none⟩) st.length 4 :: .int .i64 k :: u34 :: u35 :: u36 :: u37 :: u38 :: u39 :: u40 :: u41 :: u42 :: u43 :: u44 :: u45 :: u46 :: u47 :: u48 :: u49 :: u50 :: u51 :: u52 :: u53 :: u54 :: u55 :: u56 :: []), defers := [] } _
        refine wpAnyH_ready (rs := [5]) (by kernel_rfl) (by simp) ?_
        refine AllReadyH.cons rfl (fun K hK => ?_) AllReadyH.nil
        go_simp
        go_wp2_with (first | (go_at_call 48; refine (CG _ (Below.refl _ _).drew).mono ?_; rintro e w6 ⟨rfl, hb6⟩; have HB6 := undrew hb6; clear hb6))
        clear hHeld
        refine hK.out _ _ (⟨ble HB6 cL, ble HB6 cT⟩) (fun hHeld => ?_)
        clear hK K
        change wpAnyH _ _ _ _ _ _ _ { tmps := List.toArray (.agg #[.int .i64 (At (pad ts) 0).s, .int .i64 (At (pad ts) 0).d, .int .i64 (At (pad ts) 1).s, .int .i64 (At (pad ts) 1).d, .int .i64 (At (pad ts) 2).s, .int .i64 (At (pad ts) 2).d, .int .i64 (At (pad ts) 3).s, .int .i64 (At (pad ts) 3).d] :: .pointer (some ⟨bo, 0, none⟩) :: .pointer (some ⟨bt, 0, none⟩) :: .pointer (some ⟨bl, 0, none⟩) :: .pointer (some ⟨bv, 0, none⟩) :: .pointer (some ⟨bf, 0, none⟩) :: .pointer (some ⟨w.heap.size, 0, none⟩) :: u7 :: .int .i64 fi :: .bool true :: .int .i64 k :: u11 :: .tuple #[.int .i64 fi, .bool true] :: .map (some bm) :: .agg #[.int .i64 (At (pad ts) 0).s, .int .i64 (At (pad ts) 0).d, .int .i64 (At (pad ts) 1).s, .int .i64 (At (pad ts) 1).d, .int .i64 (At (pad ts) 2).s, .int .i64 (At (pad ts) 2).d, .int .i64 (At (pad ts) 3).s, .int .i64 (At (pad ts) 3).d] :: .tuple #[.int .i64 fi, .bool true] :: .int .i64 fi :: .bool true :: .bool true :: .bool false :: .map (some bm) :: .agg #[.int .i64 (At (pad ts) 0).s, .int .i64 (At (pad ts) 0).d, .int .i64 (At (pad ts) 1).s, .int .i64 (At (pad ts) 1).d, .int .i64 (At (pad ts) 2).s, .int .i64 (At (pad ts) 2).d, .int .i64 (At (pad ts) 3).s, .int .i64 (At (pad ts) 3).d] :: .int .i64 fi :: _ :: .slice tb st.length tc :: .int .i64 st.length :: .int .i64 k :: .bool true :: .int .i64 k :: .slice la ls.length lc :: .slice tb st.length tc :: .int .i64 st.length :: .slice (some ⟨w.heap.size, 0, none⟩) st.length 4 :: .int .i64 k :: .bool false :: u35 :: u36 :: u37 :: u38 :: u39 :: u40 :: u41 :: u42 :: u43 :: u44 :: u45 :: u46 :: u47 :: u48 :: u49 :: u50 :: u51 :: u52 :: u53 :: u54 :: u55 :: u56 :: []), defers := [] } _
        refine wpAnyH_take (i := 6) (v := .bool true) rfl (by kernel_rfl) (by kernel_rfl) (by kernel_rfl) (fun _ _ _ h => h) (Or.inl ⟨by kernel_rfl, fun w hS => by (obtain ⟨hS0, hS1⟩ := hS; go_simp)⟩) hHeld ?_
        change wpAnyH _ _ _ _ _ _ _ { tmps := List.toArray (.agg #[.int .i64 (At (pad ts) 0).s, .int .i64 (At (pad ts) 0).d, .int .i64 (At (pad ts) 1).s, .int .i64 (At (pad ts) 1).d, .int .i64 (At (pad ts) 2).s, .int .i64 (At (pad ts) 2).d, .int .i64 (At (pad ts) 3).s, .int .i64 (At (pad ts) 3).d] :: .pointer (some ⟨bo, 0, none⟩) :: .pointer (some ⟨bt, 0, none⟩) :: .pointer (some ⟨bl, 0, none⟩) :: .pointer (some ⟨bv, 0, none⟩) :: .pointer (some ⟨bf, 0, none⟩) :: .pointer (some ⟨w.heap.size, 0, none⟩) :: u7 :: .int .i64 fi :: .bool true :: .int .i64 k :: u11 :: .tuple #[.int .i64 fi, .bool true] :: .map (some bm) :: .agg #[.int .i64 (At (pad ts) 0).s, .int .i64 (At (pad ts) 0).d, .int .i64 (At (pad ts) 1).s, .int .i64 (At (pad ts) 1).d, .int .i64 (At (pad ts) 2).s, .int .i64 (At (pad ts) 2).d, .int .i64 (At (pad ts) 3).s, .int .i64 (At (pad ts) 3).d] :: .tuple #[.int .i64 fi, .bool true] :: .int .i64 fi :: .bool true :: .bool true :: .bool false :: .map (some bm) :: .agg #[.int .i64 (At (pad ts) 0).s, .int .i64 (At (pad ts) 0).d, .int .i64 (At (pad ts) 1).s, .int .i64 (At (pad ts) 1).d, .int .i64 (At (pad ts) 2).s, .int .i64 (At (pad ts) 2).d, .int .i64 (At (pad ts) 3).s, .int .i64 (At (pad ts) 3).d] :: .int .i64 fi :: _ :: .slice tb st.length tc :: .int .i64 st.length :: .int .i64 k :: .bool true :: .int .i64 k :: .slice la ls.length lc :: .slice tb st.length tc :: .int .i64 st.length :: .slice (some ⟨w.heap.size, 0, none⟩) st.length 4 :: .int .i64 k :: .bool false :: .bool true :: u36 :: u37 :: u38 :: u39 :: u40 :: u41 :: u42 :: u43 :: u44 :: u45 :: u46 :: u47 :: u48 :: u49 :: u50 :: u51 :: u52 :: u53 :: u54 :: u55 :: u56 :: []), defers := [] } _
        refine wpAnyH_done (by kernel_rfl) ?_ _
        have E6 := E.below HB6
        have M6 := OM.below M HB6
        have O6 := own_keep O HB6
        have S6 := S.below HB6
        have U6 := U.below HB6
        clear hHeld E M O S U CG cL cT hIr HB6
        go_wp2
        go_roundw
        case rel => exact ⟨k + 1, D', v', by omega, by go_num, E6, M6, O6, S6, U6, hvn', hnow.out, hbad2.out⟩
        case measure => simp [intOf]; omega
      · rw [hmg] at CG
        go_wp2_with fail
        refine wp_region_held_drew (S := (fun w' => w'.cell? ⟨bl, 0, none⟩ = some (.slice la ls.length lc) ∧ w'.cell? ⟨bt, 0, none⟩ = some (.slice tb st.length tc))) (by kernel_rfl) ?_ (fun hHeld => ?_)
        · go_keep
        refine wpAnyH_take (i := 0) (v := .slice la ls.length lc) rfl (by kernel_rfl) (by kernel_rfl) (by kernel_rfl) (fun _ _ _ h => h) (Or.inl ⟨by kernel_rfl, fun w hS => by (obtain ⟨hS0, hS1⟩ := hS; go_simp)⟩) hHeld ?_
        change wpAnyH _ _ _ _ _ _ _ { tmps := List.toArray (.agg #[.int .i64 (At (pad ts) 0).s, .int .i64 (At (pad ts) 0).d, .int .i64 (At (pad ts) 1).s, .int .i64 (At (pad ts) 1).d, .int .i64 (At (pad ts) 2).s, .int .i64 (At (pad ts) 2).d, .int .i64 (At (pad ts) 3).s, .int .i64 (At (pad ts) 3).d] :: .pointer (some ⟨bo, 0, none⟩) :: .pointer (some ⟨bt, 0, none⟩) :: .pointer (some ⟨bl, 0, none⟩) :: .pointer (some ⟨bv, 0, none⟩) :: .pointer (some ⟨bf, 0, none⟩) :: .pointer (some ⟨w.heap.size, 0, none⟩) :: u7 :: .int .i64 fi :: .bool true :: .int .i64 k :: u11 :: .tuple #[.int .i64 fi, .bool true] :: .map (some bm) :: .agg #[.int .i64 (At (pad ts) 0).s, .int .i64 (At (pad ts) 0).d, .int .i64 (At (pad ts) 1).s, .int .i64 (At (pad ts) 1).d, .int .i64 (At (pad ts) 2).s, .int .i64 (At (pad ts) 2).d, .int .i64 (At (pad ts) 3).s, .int .i64 (At (pad ts) 3).d] :: .tuple #[.int .i64 fi, .bool true] :: .int .i64 fi :: .bool true :: .bool true :: .bool false :: .map (some bm) :: .agg #[.int .i64 (At (pad ts) 0).s, .int .i64 (At (pad ts) 0).d, .int .i64 (At (pad ts) 1).s, .int .i64 (At (pad ts) 1).d, .int .i64 (At (pad ts) 2).s, .int .i64 (At (pad ts) 2).d, .int .i64 (At (pad ts) 3).s, .int .i64 (At (pad ts) 3).d] :: .int .i64 fi :: _ :: .slice tb st.length tc :: .int .i64 st.length :: .int .i64 k :: .bool true :: .int .i64 k :: .slice la ls.length lc :: u30 :: u31 :: u32 :: u33 :: u34 :: u35 :: u36 :: u37 :: u38 :: u39 :: u40 :: u41 :: u42 :: u43 :: u44 :: u45 :: u46 :: u47 :: u48 :: u49 :: u50 :: u51 :: u52 :: u53 :: u54 :: u55 :: u56 :: []), defers := [] } _
        refine wpAnyH_take (i := 1) (v := .slice tb st.length tc) rfl (by kernel_rfl) (by kernel_rfl) (by kernel_rfl) (fun _ _ _ h => h) (Or.inl ⟨by kernel_rfl, fun w hS => by (obtain ⟨hS0, hS1⟩ := hS; go_simp)⟩) hHeld ?_
        change wpAnyH _ _ _ _ _ _ _ { tmps := List.toArray (.agg #[.int .i64 (At (pad ts) 0).s, .int .i64 (At (pad ts) 0).d, .int .i64 (At (pad ts) 1).s, .int .i64 (At (pad ts) 1).d, .int .i64 (At (pad ts) 2).s, .int .i64 (At (pad ts) 2).d, .int .i64 (At (pad ts) 3).s, .int .i64 (At (pad ts) 3).d] :: .pointer (some ⟨bo, 0, none⟩) :: .pointer (some ⟨bt, 0, none⟩) :: .pointer (some ⟨bl, 0, none⟩) :: .pointer (some ⟨bv, 0, none⟩) :: .pointer (some ⟨bf, 0, none⟩) :: .pointer (some ⟨w.heap.size, 0, none⟩) :: u7 :: .int .i64 fi :: .bool true :: .int .i64 k :: u11 :: .tuple #[.int .i64 fi, .bool true] :: .map (some bm) :: .agg #[.int .i64 (At (pad ts) 0).s, .int .i64 (At (pad ts) 0).d, .int .i64 (At (pad ts) 1).s, .int .i64 (At (pad ts) 1).d, .int .i64 (At (pad ts) 2).s, .int .i64 (At (pad ts) 2).d, .int .i64 (At (pad ts) 3).s, .int .i64 (At (pad ts) 3).d] :: .tuple #[.int .i64 fi, .bool true] :: .int .i64 fi :: .bool true :: .bool true :: .bool false :: .map (some bm) :: .agg #[.int .i64 (At (pad ts) 0).s, .int .i64 (At (pad ts) 0).d, .int .i64 (At (pad ts) 1).s, .int .i64 (At (pad ts) 1).d, .int .i64 (At (pad ts) 2).s, .int .i64 (At (pad ts) 2).d, .int .i64 (At (pad ts) 3).s, .int .i64 (At (pad ts) 3).d] :: .int .i64 fi :: _ :: .slice tb st.length tc :: .int .i64 st.length :: .int .i64 k :: .bool true :: .int .i64 k :: .slice la ls.length lc :: .slice tb st.length tc :: u31 :: u32 :: u33 :: u34 :: u35 :: u36 :: u37 :: u38 :: u39 :: u40 :: u41 :: u42 :: u43 :: u44 :: u45 :: u46 :: u47 :: u48 :: u49 :: u50 :: u51 :: u52 :: u53 :: u54 :: u55 :: u56 :: []), defers := [] } _
        refine wpAnyH_take (i := 2) (v := .int .i64 st.length) rfl (by kernel_rfl) (by kernel_rfl) (by kernel_rfl) (fun _ _ _ h => h) (Or.inl ⟨by kernel_rfl, fun w hS => by (obtain ⟨hS0, hS1⟩ := hS; go_simp)⟩) hHeld ?_
        change wpAnyH _ _ _ _ _ _ _ { tmps := List.toArray (.agg #[.int .i64 (At (pad ts) 0).s, .int .i64 (At (pad ts) 0).d, .int .i64 (At (pad ts) 1).s, .int .i64 (At (pad ts) 1).d, .int .i64 (At (pad ts) 2).s, .int .i64 (At (pad ts) 2).d, .int .i64 (At (pad ts) 3).s, .int .i64 (At (pad ts) 3).d] :: .pointer (some ⟨bo, 0, none⟩) :: .pointer (some ⟨bt, 0, none⟩) :: .pointer (some ⟨bl, 0, none⟩) :: .pointer (some ⟨bv, 0, none⟩) :: .pointer (some ⟨bf, 0, none⟩) :: .pointer (some ⟨w.heap.size, 0, none⟩) :: u7 :: .int .i64 fi :: .bool true :: .int .i64 k :: u11 :: .tuple #[.int .i64 fi, .bool true] :: .map (some bm) :: .agg #[.int .i64 (At (pad ts) 0).s, .int .i64 (At (pad ts) 0).d, .int .i64 (At (pad ts) 1).s, .int .i64 (At (pad ts) 1).d, .int .i64 (At (pad ts) 2).s, .int .i64 (At (pad ts) 2).d, .int .i64 (At (pad ts) 3).s, .int .i64 (At (pad ts) 3).d] :: .tuple #[.int .i64 fi, .bool true] :: .int .i64 fi :: .bool true :: .bool true :: .bool false :: .map (some bm) :: .agg #[.int .i64 (At (pad ts) 0).s, .int .i64 (At (pad ts) 0).d, .int .i64 (At (pad ts) 1).s, .int .i64 (At (pad ts) 1).d, .int .i64 (At (pad ts) 2).s, .int .i64 (At (pad ts) 2).d, .int .i64 (At (pad ts) 3).s, .int .i64 (At (pad ts) 3).d] :: .int .i64 fi :: _ :: .slice tb st.length tc :: .int .i64 st.length :: .int .i64 k :: .bool true :: .int .i64 k :: .slice la ls.length lc :: .slice tb st.length tc :: .int .i64 st.length :: u32 :: u33 :: u34 :: u35 :: u36 :: u37 :: u38 :: u39 :: u40 :: u41 :: u42 :: u43 :: u44 :: u45 :: u46 :: u47 :: u48 :: u49 :: u50 :: u51 :: u52 :: u53 :: u54 :: u55 :: u56 :: []), defers := [] } _
        refine wpAnyH_take (i := 3) (v := .slice (some ⟨w.heap.size, 0, none⟩) st.length 4) rfl (by kernel_rfl) (by kernel_rfl) (by kernel_rfl) (fun _ _ _ h => h) (Or.inl ⟨by kernel_rfl, fun w hS => by (go_simp; rw [slice_lu _ _ _ hst4]; rfl)⟩) hHeld ?_
        change wpAnyH _ _ _ _ _ _ _ { tmps := List.toArray (.agg #[.int .i64 (At (pad ts) 0).s, .int .i64 (At (pad ts) 0).d, .int .i64 (At (pad ts) 1).s, .int .i64 (At (pad ts) 1).d, .int .i64 (At (pad ts) 2).s, .int .i64 (At (pad ts) 2).d, .int .i64 (At (pad ts) 3).s, .int .i64 (At (pad ts) 3).d] :: .pointer (some ⟨bo, 0, none⟩) :: .pointer (some ⟨bt, 0, none⟩) :: .pointer (some ⟨bl, 0, none⟩) :: .pointer (some ⟨bv, 0, none⟩) :: .pointer (some ⟨bf, 0, none⟩) :: .pointer (some ⟨w.heap.size, 0, none⟩) :: u7 :: .int .i64 fi :: .bool true :: .int .i64 k :: u11 :: .tuple #[.int .i64 fi, .bool true] :: .map (some bm) :: .agg #[.int .i64 (At (pad ts) 0).s, .int .i64 (At (pad ts) 0).d, .int .i64 (At (pad ts) 1).s, .int .i64 (At (pad ts) 1).d, .int .i64 (At (pad ts) 2).s, .int .i64 (At (pad ts) 2).d, .int .i64 (At (pad ts) 3).s, .int .i64 (At (pad ts) 3).d] :: .tuple #[.int .i64 fi, .bool true] :: .int .i64 fi :: .bool true :: .bool true :: .bool false :: .map (some bm) :: .agg #[.int .i64 (At (pad ts) 0).s, .int .i64 (At (pad ts) 0).d, .int .i64 (At (pad ts) 1).s, .int .i64 (At (pad ts) 1).d, .int .i64 (At (pad ts) 2).s, .int .i64 (At (pad ts) 2).d, .int .i64 (At (pad ts) 3).s, .int .i64 (At (pad ts) 3).d] :: .int .i64 fi :: _ :: .slice tb st.length tc :: .int .i64 st.length :: .int .i64 k :: .bool true :: .int .i64 k :: .slice la ls.length lc :: .slice tb st.length tc :: .int .i64 st.length :: .slice (some ⟨w.heap.size, 0, none⟩) st.length 4 :: u33 :: u34 :: u35 :: u36 :: u37 :: u38 :: u39 :: u40 :: u41 :: u42 :: u43 :: u44 :: u45 :: u46 :: u47 :: u48 :: u49 :: u50 :: u51 :: u52 :: u53 :: u54 :: u55 :: u56 :: []), defers := [] } _
        refine wpAnyH_take (i := 4) (v := .int .i64 k) rfl (by kernel_rfl) (by kernel_rfl) (by kernel_rfl) (fun _ _ _ h => h) (Or.inl ⟨by kernel_rfl, fun w hS => by (obtain ⟨hS0, hS1⟩ := hS; go_simp)⟩) hHeld ?_
        change wpAnyH _ _ _ _ _ _ _ { tmps := List.toArray (.agg #[.int .i64 (At (pad ts) 0).s, .int .i64 (At (pad ts) 0).d, .int .i64 (At (pad ts) 1).s, .int .i64 (At (pad ts) 1).d, .int .i64 (At (pad ts) 2).s, .int .i64 (At (pad ts) 2).d, .int .i64 (At (pad ts) 3).s, .int .i64 (At (pad ts) 3).d] :: .pointer (some ⟨bo, 0, none⟩) :: .pointer (some ⟨bt, 0, none⟩) :: .pointer (some ⟨bl, 0, none⟩) :: .pointer (some ⟨bv, 0, none⟩) :: .pointer (some ⟨bf, 0, none⟩) :: .pointer (some ⟨w.heap.size, 0, none⟩) :: u7 :: .int .i64 fi :: .bool true :: .int .i64 k :: u11 :: .tuple #[.int .i64 fi, .bool true] :: .map (some bm) :: .agg #[.int .i64 (At (pad ts) 0).s, .int .i64 (At (pad ts) 0).d, .int .i64 (At (pad ts) 1).s, .int .i64 (At (pad ts) 1).d, .int .i64 (At (pad ts) 2).s, .int .i64 (At (pad ts) 2).d, .int .i64 (At (pad ts) 3).s, .int .i64 (At (pad ts) 3).d] :: .tuple #[.int .i64 fi, .bool true] :: .int .i64 fi :: .bool true :: .bool true :: .bool false :: .map (some bm) :: .agg #[.int .i64 (At (pad ts) 0).s, .int .i64 (At (pad ts) 0).d, .int .i64 (At (pad ts) 1).s, .int .i64 (At (pad ts) 1).d, .int .i64 (At (pad ts) 2).s, .int .i64 (At (pad ts) 2).d, .int .i64 (At (pad ts) 3).s, .int .i64 (At (pad ts) 3).d] :: .int .i64 fi :: _ :: .slice tb st.length tc :: .int .i64 st.length :: .int .i64 k :: .bool true :: .int .i64 k :: .slice la ls.length lc :: .slice tb st.length tc :: .int .i64 st.length :: .slice (some ⟨w.heap.size, 0, none⟩) st.length 4 :: .int .i64 k :: u34 :: u35 :: u36 :: u37 :: u38 :: u39 :: u40 :: u41 :: u42 :: u43 :: u44 :: u45 :: u46 :: u47 :: u48 :: u49 :: u50 :: u51 :: u52 :: u53 :: u54 :: u55 :: u56 :: []), defers := [] } _
        refine wpAnyH_ready (rs := [5]) (by kernel_rfl) (by simp) ?_
        refine AllReadyH.cons rfl (fun K hK => ?_) AllReadyH.nil
        go_simp
        go_wp2_with (first | (go_at_call 48; refine (CG _ (Below.refl _ _).drew).mono ?_; rintro e w6 ⟨rfl, hb6⟩; have HB6 := undrew hb6; clear hb6))
        clear hHeld
        refine hK.out _ _ (⟨ble HB6 cL, ble HB6 cT⟩) (fun hHeld => ?_)
        clear hK K
        change wpAnyH _ _ _ _ _ _ _ { tmps := List.toArray (.agg #[.int .i64 (At (pad ts) 0).s, .int .i64 (At (pad ts) 0).d, .int .i64 (At (pad ts) 1).s, .int .i64 (At (pad ts) 1).d, .int .i64 (At (pad ts) 2).s, .int .i64 (At (pad ts) 2).d, .int .i64 (At (pad ts) 3).s, .int .i64 (At (pad ts) 3).d] :: .pointer (some ⟨bo, 0, none⟩) :: .pointer (some ⟨bt, 0, none⟩) :: .pointer (some ⟨bl, 0, none⟩) :: .pointer (some ⟨bv, 0, none⟩) :: .pointer (some ⟨bf, 0, none⟩) :: .pointer (some ⟨w.heap.size, 0, none⟩) :: u7 :: .int .i64 fi :: .bool true :: .int .i64 k :: u11 :: .tuple #[.int .i64 fi, .bool true] :: .map (some bm) :: .agg #[.int .i64 (At (pad ts) 0).s, .int .i64 (At (pad ts) 0).d, .int .i64 (At (pad ts) 1).s, .int .i64 (At (pad ts) 1).d, .int .i64 (At (pad ts) 2).s, .int .i64 (At (pad ts) 2).d, .int .i64 (At (pad ts) 3).s, .int .i64 (At (pad ts) 3).d] :: .tuple #[.int .i64 fi, .bool true] :: .int .i64 fi :: .bool true :: .bool true :: .bool false :: .map (some bm) :: .agg #[.int .i64 (At (pad ts) 0).s, .int .i64 (At (pad ts) 0).d, .int .i64 (At (pad ts) 1).s, .int .i64 (At (pad ts) 1).d, .int .i64 (At (pad ts) 2).s, .int .i64 (At (pad ts) 2).d, .int .i64 (At (pad ts) 3).s, .int .i64 (At (pad ts) 3).d] :: .int .i64 fi :: _ :: .slice tb st.length tc :: .int .i64 st.length :: .int .i64 k :: .bool true :: .int .i64 k :: .slice la ls.length lc :: .slice tb st.length tc :: .int .i64 st.length :: .slice (some ⟨w.heap.size, 0, none⟩) st.length 4 :: .int .i64 k :: .bool true :: u35 :: u36 :: u37 :: u38 :: u39 :: u40 :: u41 :: u42 :: u43 :: u44 :: u45 :: u46 :: u47 :: u48 :: u49 :: u50 :: u51 :: u52 :: u53 :: u54 :: u55 :: u56 :: []), defers := [] } _
        refine wpAnyH_take (i := 6) (v := .bool false) rfl (by kernel_rfl) (by kernel_rfl) (by kernel_rfl) (fun _ _ _ h => h) (Or.inl ⟨by kernel_rfl, fun w hS => by (obtain ⟨hS0, hS1⟩ := hS; go_simp)⟩) hHeld ?_
        change wpAnyH _ _ _ _ _ _ _ { tmps := List.toArray (.agg #[.int .i64 (At (pad ts) 0).s, .int .i64 (At (pad ts) 0).d, .int .i64 (At (pad ts) 1).s, .int .i64 (At (pad ts) 1).d, .int .i64 (At (pad ts) 2).s, .int .i64 (At (pad ts) 2).d, .int .i64 (At (pad ts) 3).s, .int .i64 (At (pad ts) 3).d] :: .pointer (some ⟨bo, 0, none⟩) :: .pointer (some ⟨bt, 0, none⟩) :: .pointer (some ⟨bl, 0, none⟩) :: .pointer (some ⟨bv, 0, none⟩) :: .pointer (some ⟨bf, 0, none⟩) :: .pointer (some ⟨w.heap.size, 0, none⟩) :: u7 :: .int .i64 fi :: .bool true :: .int .i64 k :: u11 :: .tuple #[.int .i64 fi, .bool true] :: .map (some bm) :: .agg #[.int .i64 (At (pad ts) 0).s, .int .i64 (At (pad ts) 0).d, .int .i64 (At (pad ts) 1).s, .int .i64 (At (pad ts) 1).d, .int .i64 (At (pad ts) 2).s, .int .i64 (At (pad ts) 2).d, .int .i64 (At (pad ts) 3).s, .int .i64 (At (pad ts) 3).d] :: .tuple #[.int .i64 fi, .bool true] :: .int .i64 fi :: .bool true :: .bool true :: .bool false :: .map (some bm) :: .agg #[.int .i64 (At (pad ts) 0).s, .int .i64 (At (pad ts) 0).d, .int .i64 (At (pad ts) 1).s, .int .i64 (At (pad ts) 1).d, .int .i64 (At (pad ts) 2).s, .int .i64 (At (pad ts) 2).d, .int .i64 (At (pad ts) 3).s, .int .i64 (At (pad ts) 3).d] :: .int .i64 fi :: _ :: .slice tb st.length tc :: .int .i64 st.length :: .int .i64 k :: .bool true :: .int .i64 k :: .slice la ls.length lc :: .slice tb st.length tc :: .int .i64 st.length :: .slice (some ⟨w.heap.size, 0, none⟩) st.length 4 :: .int .i64 k :: .bool true :: .bool false :: u36 :: u37 :: u38 :: u39 :: u40 :: u41 :: u42 :: u43 :: u44 :: u45 :: u46 :: u47 :: u48 :: u49 :: u50 :: u51 :: u52 :: u53 :: u54 :: u55 :: u56 :: []), defers := [] } _
        refine wpAnyH_done (by kernel_rfl) ?_ _
        have E6 := E.below HB6
        have M6 := OM.below M HB6
        have O6 := own_keep O HB6
        have S6 := S.below HB6
        have U6 := U.below HB6
        have hgk : goodI ls ts k = canFin ls (moveT ts k) := by simp only [goodI, hmg, Bool.true_and]
        have hbad2 : canFin ls (moveT ts k) = false → ∀ j, j < k + 1 → goodI ls ts j = false := by
          intro h j hj
          by_cases e : j = k
          · subst e; rw [hgk]; exact h
          · exact hbad j (by omega)
        have hgood : canFin ls (moveT ts k) = true → canFin ls ts = true ∧ movesOf ls ts ms = movesOf ls (moveT ts k) (ms ++ [(k : Int)]) := fun h => by
          have h1 := canFin_of hkt (by rw [hgk]; exact h)
          refine ⟨h1, ?_⟩
          rw [movesOf_yes ms h1, movesOf_yes _ h, fin_good hkt (by rw [hgk]; exact h) hbad]
          simp
        have hokR := move_ok hok hkt hmg
        have hfR := far_move hkt hmg
        have hboxR := hbox.move hkt hmg
        have hsub := hnow.sub hopn.out (R := moveT ts k) (by omega)
        have hstep := fun f'' => hnow.step (f'' := f'')
        have hpm := pad_move hkt
        have hPR := ok_nice hokR
        have hne := (mayGo_parts hkt hmg).1
        have hat : At ts k = ts[k] := At_lt hkt
        have hrgk := hP.rng k (by omega)
        rw [At_pad] at hrgk
        have CO := fun w' => cOnw (At ts k) w' (by omega) (by omega)
        rw [onw_next (by rw [hat]; exact hne)] at CO
        obtain ⟨⟨q0, q1⟩, -⟩ := U6 k (by omega)
        rw [At_pad] at q0 q1
        obtain ⟨⟨u0, u1⟩, ⟨u2, u3⟩, ⟨u4, u5⟩, u6, u7'⟩ := U6.eight
        have HA := balloc w6 (.cells #[.int .i64 (At (pad ts) 0).s, .int .i64 (At (pad ts) 0).d, .int .i64 (At (pad ts) 1).s, .int .i64 (At (pad ts) 1).d, .int .i64 (At (pad ts) 2).s, .int .i64 (At (pad ts) 2).d, .int .i64 (At (pad ts) 3).s, .int .i64 (At (pad ts) 3).d] 74)
        have UN := Up.new w6 (pad ts)
        have hszw := U6.lt
        have IHR := fun v11 W12 e m o i b => IH (far (moveT ts k)) (by rw [← hfar.out]; omega) (moveT ts k) (ms ++ [(k : Int)]) v11 D' W12 rfl hokR hboxR (by simp; omega) e m o i b hsub
        rw [luVal_at hPR.len] at IHR
        have hPl := hP.len
        clear hHeld CG cL cT hIr HB6 E M O S U hgk hne hrgk hbad IH hsub hokR hboxR hPR hfR
        generalize moveT ts k = R at *
        replace hgood := hide hgood
        replace hbad2 := hide hbad2
        replace hstep := hide hstep
        replace hpm := hide hpm
        replace hnow := hide hnow
        replace hat := hide hat
        unfold SingleV.val at CO
        generalize hxs : (At ts k).s = xs at *
        generalize hxd : (At ts k).d = xd at *
        generalize hnx : nextS (At ts k) = nx at *
        replace hxs := hide hxs
        replace hxd := hide hxd
        replace hnx := hide hnx
        go_wp2_with fail
        refine (CO _).mono ?_
        rintro e w8 ⟨rfl, hb8⟩
        have h68 := btrans HA hb8
        have UN8 := UN.below hb8
        have O8 := own_keep O6 h68
        have hlo := own_blk_lt O6
        obtain ⟨⟨z0, z1⟩, f0, -⟩ := UN8 k (by omega)
        have O10 := (own_set (b := w6.heap.size) (i := k * 2) (u := .int .i64 nx) O8 (fun j hj e => by have := hlo j hj; omega)).alloc (.cells #[.int .i64 (k : Int)] 3)
        have hbv6 : bv < w6.heap.size := E6.vlt
        have hv9 : (w8.setCell ⟨w6.heap.size, k * 2, none⟩ (.int .i64 nx)).heap[bv]? = some (.cells #[v'] 24 (0, 0)) := (Below.heap_setCell _ _ _ _ (by show bv ≠ w6.heap.size; omega)).trans ((h68.block bv hbv6).trans E6.mv)
        have cV9 := cell_of_one hv9
        have hsz8 := h68.size
        have hsw := S6.size
        clear hv9 O8 hlo hb8 HA CO u0 u1 u2 u3 u4 u5 u6 u7' q0 q1
        go_wp2_with (at_builtin; refine wpList_append_own_at _ rfl _ _ 24 rfl B 3 i0 (.int .i64 0) 1 8 Try.underlying24 hi hz0 hz1 hz2 rfl (by decide) _ _ _ rfl O10 ⟨w8.heap.size, 0, none⟩ 1 1 [.int .i64 (k : Int)] rfl rfl (new_one' _ _ _ _ (by simp)) (one_cells _) (by unfold maxLen; omega) (by omega) (by simp; omega) ?_; intro v11 w11 O11 G11 hnil L11; clear hnil; obtain ⟨a11, c11, rfl⟩ := own_form O11; have MM := mid_of (b11 := w6.heap.size) E6 M6 O6 h68 rfl UN8 hPl (by omega) O11 G11 L11; clear O11 G11 L11; have cV11 := cell_of_one MM.old; have fV11 := free_of_one MM.old; have cF12 := cell_of_one MM.e.fn; have UR : Up (w11.setCell ⟨bv, 0, none⟩ (.slice a11 (ms.length + 1) c11)) w6.heap.size (pad R) := (by have h := MM.u; rw [At_pad, hxd.out, ← hpm.out] at h; exact h); obtain ⟨⟨y0, y1⟩, ⟨y2, y3⟩, ⟨y4, y5⟩, y6, y7⟩ := UR.eight; clear UR)
        clear y0 y1 y2 y3 y4 y5 y6 y7 cF12 cV11 fV11 cV9 z0 z1 f0 O10 UN8 UN
        have hszm := MM.t.size
        have S12 := S6.trans MM.t
        have OR : (w11.setCell ⟨bv, 0, none⟩ (.slice a11 (ms.length + 1) c11)).ownsRow B 3 1 (.slice a11 (ms.length + 1) c11) (ms ++ [(k : Int)]).length ((ms ++ [(k : Int)]).map (Value.int .i64)) := by
          rw [List.map_append, List.length_append]; exact MM.o
        refine (IHR _ _ MM.e MM.om OR (S12.ints hO hBm hBv hI hla) (by omega)).mono ?_
        rintro e w13 ⟨v13, rfl, hv13, O13, S13, hfl⟩
        have S14 := S12.trans S13
        clear IHR OR
        cases hcf : canFin ls R
        · rw [movesOf_no _ hcf] at O13
          obtain ⟨D13, M13, hnew⟩ := hfl hcf
          have hnow15 := hide (hstep.out _ hnew)
          have hbad15 := hide (hbad2.out hcf)
          rw [show (ms ++ [(k : Int)]).length = ms.length + 1 by simp] at O13
          rcases O13.2 with ⟨_, h0⟩ | ⟨g13, c13, cur, rfl, hg13, -⟩
          · omega
          obtain ⟨O14, -, hcap, -⟩ := own_cut O13
          rw [Nat.add_sub_cancel] at O14
          have hvne := own_ty O14 hv13 (by decide)
          have T15 := (S13.cut (v2 := .slice (some ⟨g13, 0, none⟩) ms.length c13) rfl).set 0 (.slice (some ⟨g13, 0, none⟩) ms.length c13)
          have hv15 : (w13.setCell ⟨bv, 0, none⟩ (.slice (some ⟨g13, 0, none⟩) ms.length c13)).heap[bv]? = some (.cells #[.slice (some ⟨g13, 0, none⟩) ms.length c13] 24 (0, 0)) := one_setCell hv13
          have E15 := MM.e.step MM.om MM.o T15 hv15
          have M15 := World.ownsMap.setCell M13 (a := ⟨bv, 0, none⟩) (fun e => hbvm (by rw [e])) (.slice (some ⟨g13, 0, none⟩) ms.length c13)
          have O15 := own_set (b := bv) (i := 0) (u := .slice (some ⟨g13, 0, none⟩) ms.length c13) O14 (fun j hj e => hvne (by rw [hj, e]))
          have T06 := MM.t.trans T15
          have U15 := U6.step T06 hbm0 (by omega) (fun e => hvn' _ e.symm rfl)
          have S15 := S6.trans T06
          have hvn15 : ∀ q, (Value.slice (some ⟨g13, 0, none⟩) ms.length c13).ownBlock = some q → q ≠ w.heap.size := by
            intro q hq
            rcases T06.own with e | e
            · rw [e] at hq; exact hvn' q hq
            · have := e q hq; omega
          have cV13 := cell_of_one hv13
          have fV13 := free_of_one hv13
          have hc1 : (ms.length : Int) ≤ c13 := by omega
          have hc2 : ¬ (c13 = 0) := by omega
          have hsb : ((ms.length : Int) + 1) - 1 = ms.length := by omega
          clear hfl hstep hbad2 hgood hnow hnew O13 O14 T15 hv15 hv13 M13 T06 MM S12 S13 S14 S6 E6 M6 O6 U6 hvne
          replace hvn15 := hide hvn15
          go_wp2
          go_roundw
          case rel => exact ⟨k + 1, D13, _, by omega, by go_num, E15, M15, O15, S15, U15, hvn15.out, hnow15.out, hbad15.out⟩
          case measure => simp [intOf]; omega
        · obtain ⟨hc, hmo⟩ := hgood.out hcf
          clear hfl hstep hbad2 hgood hnow
          go_wp2
          go_ret
          exact ⟨v13, ret_bool hc.symm, hv13, by rw [hmo]; exact O13, S14, fun h => by rw [hc] at h; cases h⟩
    · obtain rfl : k = st.length := by omega
      have hcf := canFin_none hdn.out (by rw [hll.out]; exact hbad)
      have hv2 := E.mv
      clear IH hbad hopn E U
      replace hnow := hide (hnow.done hcf)
      go_wp2
      go_ret
      exact ⟨v', by rw [hcf]; rfl, hv2, by rw [movesOf_no ms hcf]; exact O, S, fun _ => ⟨D', M, hnow.out⟩⟩
end Go.Proofs.Ytggdejceobagcaa
