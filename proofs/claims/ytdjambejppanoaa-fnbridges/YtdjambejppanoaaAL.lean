/- One step further: along. -/
import Derived.Test.YtdjambejppanoaaFH
namespace Go.Proofs.Ytdjambejppanoaa
open Go.RowKit
/-- An address that a slice may have: none with no room, or plain. -/
def Plain (a : Option Addr) (c : Nat) : Prop := (a = none → c = 0) ∧ ∀ x, a = some x → x.spot = none
theorem ints_cells {w : World} {b off : Nat} {zs : List Int} (h : Ints w (some ⟨b, off, none⟩) zs) : ∀ j u, (zs.map (Value.int .i64))[j]? = some u → w.cell? ((⟨b, off, none⟩ : Addr).add j) = some u := by
  intro j u hu
  rcases h with rfl | ⟨b', off', he, hc⟩
  · simp at hu
  · simp only [Option.some.injEq, Addr.mk.injEq, and_true] at he
    obtain ⟨rfl, rfl⟩ := he
    have hj : j < zs.length := by
      by_cases hj : j < zs.length
      · exact hj
      · rw [List.getElem?_eq_none (by simpa using hj)] at hu; cases hu
    rw [List.getElem?_eq_getElem (by simpa using hj), List.getElem_map] at hu
    have e0 : zs.getD j 0 = zs[j] := by simp [List.getD, hj]
    have := hc j hj
    rw [e0] at this
    cases hu
    by_cases h0 : j = 0
    · subst h0; simpa [Addr.add] using this
    · simpa [Addr.add, h0] using this
theorem info_parts2 {t : TypeId} {z : Value} {n m : Nat} (h : (Try.prog.info? t).map (fun i => (i.zero, i.size, i.bytes)) = some (some z, n, m)) : ∃ i0, Try.prog.info? t = some i0 ∧ i0.zero = some z ∧ i0.size = n ∧ i0.bytes = m := by
  cases hi : Try.prog.info? t with
  | none => rw [hi] at h; cases h
  | some i0 => rw [hi] at h; simp at h; exact ⟨i0, rfl, h.1, h.2.1, h.2.2⟩
theorem own_plain {w : World} {base e sz n c : Nat} {a : Option Addr} {xs : List Value} (h : w.ownsRow base e sz (.slice a n c) n xs) : Plain a c := by
  rcases h.2 with ⟨he, _⟩ | ⟨g, cap', cur, he, _⟩
  · simp only [Value.slice.injEq] at he; obtain ⟨rfl, _, rfl⟩ := he; exact ⟨fun _ => rfl, (fun x h => by cases h)⟩
  · simp only [Value.slice.injEq] at he; obtain ⟨rfl, _, rfl⟩ := he; exact ⟨(fun h => by cases h), (fun x h => by cases h; rfl)⟩

set_option maxRecDepth 20000 in
set_option maxHeartbeats 800000 in
theorem cCloneInts (a : Option Addr) (cap : Nat) (zs : List Int) (w : World) (he : Ints w a zs) (hp : Plain a cap) (hl : zs.length ≤ 1048576) :
    Calls Try.prog 68 #[.slice a zs.length cap] w fun e w' => ∃ v, e = .returned v ∧
      w'.ownsRow w.heap.size 3 1 v zs.length (zs.map (Value.int .i64)) ∧ Below w.heap.size w w' := by
  obtain ⟨ha, hspot⟩ := hp
  cases a with
  | none =>
    have h0 : zs = [] := by
      rcases he with h | ⟨b, off, h, _⟩
      · exact h
      · cases h
    subst h0
    obtain rfl := ha rfl
    have hq : ∀ w, (binOp .eql 29 (.slice none 0 0) (.slice none 0 0)).run Try.prog w = .ok (.bool true) w := fun w => Go.Lib.run_eql_slice_nil w _ _ none 0 0 0 0 Try.underlying29
    go_enter Try.func68, Try.ntmps68
    go_wp2
    go_ret
    exact ⟨_, rfl, World.ownsRow_nil _ _ _ _, Below.refl _ _⟩
  | some x =>
    obtain ⟨b, off, spot⟩ := x
    obtain rfl : spot = none := hspot _ rfl
    obtain ⟨i0, hi, hz0, hz1, hz2⟩ := info_parts2 infoInts
    have hq : ∀ w, (binOp .eql 29 (.slice (some ⟨b, off, none⟩) zs.length cap) (.slice none 0 0)).run Try.prog w = .ok (.bool false) w := fun w => Go.Lib.run_eql_slice_nil w _ _ (some ⟨b, off, none⟩) zs.length cap 0 0 Try.underlying29
    have hc := ints_cells (he.below (balloc w (.cells #[] 3)))
    go_enter Try.func68, Try.ntmps68
    go_wp2_with (at_builtin; refine wpList_append_own _ rfl _ _ 29 rfl w.heap.size 3 i0 (.int .i64 0) 1 8 Try.underlying29 hi hz0 hz1 hz2 rfl (by decide) _ 0 [] rfl (World.ownsRow_made _ #[] 0 (Nat.le_refl _) (by omega) rfl) ⟨b, off, none⟩ zs.length cap (zs.map (Value.int .i64)) rfl (by simp) hc ?c2 ?c3 ?c4 ?c5 ?_)
    case c2 => intro u hu; obtain ⟨q, _, rfl⟩ := List.mem_map.1 hu; rfl
    case c3 => unfold maxLen; omega
    case c4 => omega
    case c5 => simp
    intro v' w5 hown' hgrow _
    have hbel : Below w.heap.size w w5 := (balloc w _).grown hgrow (by simp) (fun j e => by simp [Value.ownBlock] at e; omega)
    clear hgrow
    go_wp2
    go_ret
    exact ⟨_, rfl, hown', hbel⟩

set_option maxRecDepth 20000 in
set_option maxHeartbeats 3200000 in
theorem cAlong (p : PT) (k : Nat) (y l : Int) (w : World) (hp : Ints w p.a (nI p.t.way)) (hpl : Plain p.a p.c) (hn : p.t.way.length ≤ 1000000) (hl0 : 0 ≤ p.t.len) (hl1 : p.t.len ≤ 1000000000) (h0 : 0 ≤ l) (h1 : l ≤ 100000) :
    Calls Try.prog 59 #[p.val, .agg #[.int .i64 (k : Int), .int .i64 y, .int .i64 l]] w fun e w' => ∃ q : PT, e = .returned q.val ∧ q.t = ⟨y, p.t.len + l, p.t.way ++ [k]⟩ ∧ w'.ownsRow w.heap.size 3 1 (.slice q.a q.t.way.length q.c) q.t.way.length ((nI q.t.way).map (.int .i64)) ∧ Below w.heap.size w w' := by
  obtain ⟨i1, hi1, hy0, hy1, hy2⟩ := info_parts2 infoInts
  obtain ⟨⟨pm, pk, pp⟩, pa, pc⟩ := p
  unfold PT.val
  dsimp only at *
  have hA1 := balloc w (.cells #[.int .i64 pm, .int .i64 pk, .slice pa pp.length pc] 59)
  have hA2 := balloc (w.alloc (.cells #[.int .i64 pm, .int .i64 pk, .slice pa pp.length pc] 59)) (.cells #[.int .i64 (k : Int), .int .i64 y, .int .i64 l] 83)
  have hA3 := balloc ((w.alloc (.cells #[.int .i64 pm, .int .i64 pk, .slice pa pp.length pc] 59)).alloc (.cells #[.int .i64 (k : Int), .int .i64 y, .int .i64 l] 83)) (.cells #[.int .i64 0, .int .i64 0, .slice none 0 0] 59)
  have hA := btrans hA1 (btrans hA2 hA3)
  have B0 := ((Bx3p.new w (.int .i64 pm) (.int .i64 pk) (.slice pa pp.length pc) 59).below hA2).below hA3
  have B1 := (Bx3p.new1 w (.cells #[.int .i64 pm, .int .i64 pk, .slice pa pp.length pc] 59) (.int .i64 (k : Int)) (.int .i64 y) (.int .i64 l) 83).below hA3
  have R0 := heap_alloc_new ((w.alloc (.cells #[.int .i64 pm, .int .i64 pk, .slice pa pp.length pc] 59)).alloc (.cells #[.int .i64 (k : Int), .int .i64 y, .int .i64 l] 83)) (.cells #[.int .i64 0, .int .i64 0, .slice none 0 0] 59)
  have hsz : ((w.alloc (.cells #[.int .i64 pm, .int .i64 pk, .slice pa pp.length pc] 59)).alloc (.cells #[.int .i64 (k : Int), .int .i64 y, .int .i64 l] 83)).heap.size = w.heap.size + 1 + 1 := by simp
  rw [hsz] at R0
  clear hA1 hA2 hA3 hsz
  go_enter Try.func59, Try.ntmps59
  go_wp2_with fail
  generalize (((w.alloc (.cells #[.int .i64 pm, .int .i64 pk, .slice pa pp.length pc] 59)).alloc (.cells #[.int .i64 (k : Int), .int .i64 y, .int .i64 l] 83)).alloc (.cells #[.int .i64 0, .int .i64 0, .slice none 0 0] 59)) = v at *
  have hps := hp.below hA
  have hvd : Below v.heap.size v v.drew := (Below.refl _ _).drew
  have hpd : Ints v.drew pa (nI pp) := hps.below hvd
  obtain ⟨p0, p1, p2⟩ := B0
  obtain ⟨q0, q1, q2⟩ := B1
  have hwv := lt_of_block R0
  have hne1 : w.heap.size ≠ w.heap.size + 1 + 1 := by omega
  have hne2 : w.heap.size + 1 + 1 ≠ w.heap.size := by omega
  have hw1 : IntKind.i64.wrap (pk + l) = pk + l := wrap_in _ (by omega) (by omega)
  have CC := cCloneInts pa pc (nI pp) v.drew hpd hpl (by rw [nI_len]; omega)
  rw [nI_len] at CC
  have hvA : Below v.heap.size v (v.alloc (.cells #[.int .i64 (k : Int)] 3)).drew := (balloc v _).drew
  have NA : (v.alloc (.cells #[.int .i64 (k : Int)] 3)).drew.heap[v.heap.size]? = some (.cells #[.int .i64 (k : Int)] 3) := heap_alloc_new v _
  have CC2 := cCloneInts pa pc (nI pp) (v.alloc (.cells #[.int .i64 (k : Int)] 3)).drew (hps.below hvA) hpl (by rw [nI_len]; omega)
  rw [nI_len] at CC2
  go_region_held3 (fun w' => w'.cell? ⟨w.heap.size, 1, none⟩ = some (.int .i64 pk) ∧ w'.cell? ⟨w.heap.size, 2, none⟩ = some (.slice pa pp.length pc) ∧ w'.cell? ⟨w.heap.size + 1, 0, none⟩ = some (.int .i64 (k : Int)) ∧ w'.cell? ⟨w.heap.size + 1, 1, none⟩ = some (.int .i64 y) ∧ w'.cell? ⟨w.heap.size + 1, 2, none⟩ = some (.int .i64 l)) (go_keep) (first
    | (go_at_call 68; with_reducible refine CC.mono ?_; rintro e w5 ⟨cv, rfl, O5, hb5d⟩; have hb5 : Below v.heap.size v w5 := btrans hvd hb5d; obtain ⟨ca, cc, rfl⟩ := own_form O5; have a1 := ble hb5 p1; have a2 := ble hb5 p2; have a3 := ble hb5 q0; have a4 := ble hb5 q1; have a5 := ble hb5 q2; have R5 := blk_keep hb5 R0; have hs5 := hb5.size)
    | (go_at_call 68; with_reducible refine CC2.mono ?_; rintro e w5 ⟨cv, rfl, O5', hb5d⟩; have hb5 : Below v.heap.size v w5 := btrans hvA hb5d; have O5 : w5.ownsRow v.heap.size 3 1 cv pp.length ((nI pp).map (.int .i64)) := own_base O5' (by simp); obtain ⟨ca, cc, rfl⟩ := own_form O5; have N5 := blk_keep hb5d NA; have a1 := ble hb5 p1; have a2 := ble hb5 p2; have a3 := ble hb5 q0; have a4 := ble hb5 q1; have a5 := ble hb5 q2; have R5 := blk_keep hb5 R0; have hs5 := hb5.size)
    | (refine step_append_lies _ (by rfl) _ _ _ (by rfl) v.heap.size 3 i1 _ 1 8 Try.underlying29 hi1 hy0 hy1 hy2 rfl (by decide) (.slice ca pp.length cc) pp.length ((nI pp).map (.int .i64)) (by rfl) (by exact O5.alloc _) ⟨w5.heap.size, 0, none⟩ 1 1 [.int .i64 (k : Int)] (by rfl) (by rfl) (World.news_of_block (cs := #[.int .i64 (k : Int)]) (t := 3) (fr := (0, 0)) (heap_alloc_new w5 _)) (by simp [Value.oneCell']) (by decide) (by unfold maxLen; omega) (by omega) (by simp; omega) (w5.heap.size + 1) (by simp) ?_; intro g cap2 w6 hown hgrow hat hlt2; have hge := own_from O5 (Nat.le_refl _); have hA5 := balloc w5 (.cells #[.int .i64 (k : Int)] 3); have H6 : Below v.heap.size v w6 := (btrans hb5 hA5).grown hgrow (btrans hb5 hA5).size (fun j hj => hge j hj); have R6 := blk_keep H6 R0; have c1 := ble H6 p1; have c2 := ble H6 p2; have c3 := ble H6 q0; have c4 := ble H6 q1; have c5 := ble H6 q2; obtain ⟨r0, r1, r2⟩ := blk3 R6; have r3 := Go.Joins.unfrozen_of_block R6 0; have r4 := Go.Joins.unfrozen_of_block R6 1; have r5 := Go.Joins.unfrozen_of_block R6 2)
    | (refine step_append_lies _ (by rfl) _ _ _ (by rfl) v.heap.size 3 i1 _ 1 8 Try.underlying29 hi1 hy0 hy1 hy2 rfl (by decide) (.slice ca pp.length cc) pp.length ((nI pp).map (.int .i64)) (by rfl) (by exact O5) ⟨v.heap.size, 0, none⟩ 1 1 [.int .i64 (k : Int)] (by rfl) (by rfl) (World.news_of_block (cs := #[.int .i64 (k : Int)]) (t := 3) (fr := (0, 0)) N5) (by simp [Value.oneCell']) (by decide) (by unfold maxLen; omega) (by omega) (by omega) w5.heap.size (by rfl) ?_; intro g cap2 w6 hown hgrow hat hlt2; have hge := own_from O5 (Nat.le_refl _); have hA5 := hb5; have H6 : Below v.heap.size v w6 := hb5.grown hgrow hb5.size (fun j hj => hge j hj); have R6 := blk_keep H6 R0; have c1 := ble H6 p1; have c2 := ble H6 p2; have c3 := ble H6 q0; have c4 := ble H6 q1; have c5 := ble H6 q2; obtain ⟨r0, r1, r2⟩ := blk3 R6; have r3 := Go.Joins.unfrozen_of_block R6 0; have r4 := Go.Joins.unfrozen_of_block R6 1; have r5 := Go.Joins.unfrozen_of_block R6 2))
  all_goals (
    have HF := btrans hA H6
    have e1 : pp.length + 1 = (pp ++ [k]).length := by simp
    have e2 : (nI pp).map (Value.int .i64) ++ [.int .i64 (k : Int)] = (nI (pp ++ [k])).map (.int .i64) := by simp [nI]
    rw [e1, e2] at hown
    have hgv := own_from hown (Nat.le_refl _)
    have hvw := hA.size
    clear CC CC2 hb5 hb5d O5 R5 a1 a2 a3 a4 a5 hA5 c1 c2 c3 c4 c5 hgrow hat p0 p1 p2 q0 q1 q2 R0 R6 e2
    rw [e1]
    go_wp2
    refine bodyPost_ret (v := PT.val ⟨⟨y, pk + l, pp ++ [k]⟩, some ⟨g, 0, none⟩, cap2⟩) (by simp [results, Try.results59, go_sem, r0, r1, r2, PT.val]) rfl ?_
    refine ⟨⟨⟨y, pk + l, pp ++ [k]⟩, some ⟨g, 0, none⟩, cap2⟩, rfl, rfl, own_base (own_set (own_set (own_set hown (fun k hk => by have := hgv k hk; omega)) (fun k hk => by have := hgv k hk; omega)) (fun k hk => by have := hgv k hk; omega)) (by omega), ?_⟩
    exact below_set (by omega) (below_set (by omega) (below_set (by omega) HF)))
end Go.Proofs.Ytdjambejppanoaa
