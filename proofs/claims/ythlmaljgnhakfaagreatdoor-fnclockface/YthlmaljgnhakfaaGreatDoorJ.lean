/- A trip moved: of the program. -/
import Derived.Test.YthlmaljgnhakfaaGreatDoorI
namespace Go.Proofs.YthlmaljgnhakfaaGreatDoor
open Go.RowKit
def movedL (x : Int) (cs : List HaltV) : List HaltV := cs.map fun c => ⟨c.n, c.a + x, c.d + x⟩
def movedT (t : TripV) (x : Int) : TripV := if tripB t = true ∧ inB x (-100000) 100000 = true then ifOk ⟨t.name, movedL x t.calls⟩ else TripV.zero
theorem movedL_len (x : Int) (cs : List HaltV) : (movedL x cs).length = cs.length := by simp [movedL]
theorem movedL_step (x : Int) {cs : List HaltV} {k : Nat} (hk : k < cs.length) : movedL x (cs.take (k + 1)) = movedL x (cs.take k) ++ [⟨(cs.getD k HaltV.zero).n, (cs.getD k HaltV.zero).a + x, (cs.getD k HaltV.zero).d + x⟩] := by
  have e : cs.getD k HaltV.zero = cs[k] := by simp [List.getD, hk]
  rw [List.take_succ_eq_append_getElem hk, e]; unfold movedL; rw [List.map_append]; rfl
theorem own_cap {w : World} {base e sz n c : Nat} {a : Option Addr} {xs : List Value} (h : w.ownsRow base e sz (.slice a n c) n xs) : n ≤ c := by
  rcases h.2 with ⟨h2, h0⟩ | ⟨g, cap, cur, hv, hg, hh, hc, r⟩
  · omega
  · simp only [Value.slice.injEq] at hv; omega
theorem blk3 {w : World} {g : Nat} {c0 c1 c2 : Value} {t : TypeId} (h : w.heap[g]? = some (.cells #[c0, c1, c2] t (0, 0))) :
    (w.cell? ⟨g, 0, none⟩ = some c0 ∧ w.cell? ⟨g, 1, none⟩ = some c1 ∧ w.cell? ⟨g, 2, none⟩ = some c2) :=
  ⟨Go.Joins.cell_of_block h 0, Go.Joins.cell_of_block h 1, Go.Joins.cell_of_block h 2⟩
theorem heap_alloc_new (w : World) (o : Obj) : (w.alloc o).heap[w.heap.size]? = some o := one_block w o

set_option maxRecDepth 100000 in
set_option maxHeartbeats 3200000 in
theorem cMovedI (s : ByteArray) (a : Option Addr) (cap : Nat) (cs : List HaltV) (x : Int) (w : World) (hz : Halts w a cs) (hl : cs.length ≤ 1048576) (hcap : cs.length ≤ cap) :
    Calls Tryz.prog 16 #[.agg #[.string s, .slice a cs.length cap], .int .i64 x] w (AnsTrip w (movedT ⟨s, cs⟩ x)) := by
  have E : Hid (movedT ⟨s, cs⟩ x = (if tripB ⟨s, cs⟩ = true ∧ inB x (-100000) 100000 = true then ifOk ⟨s, movedL x cs⟩ else TripV.zero)) := rfl
  generalize movedT ⟨s, cs⟩ x = res at *
  have A0 := blk_keep (balloc _ (.cells #[.string ⟨#[]⟩, .slice none 0 0] 26)) (one_block w (.cells #[.string s, .slice a cs.length cap] 26))
  have K0 := one_block (w.alloc (.cells #[.string s, .slice a cs.length cap] 26)) (.cells #[.string ⟨#[]⟩, .slice none 0 0] 26)
  have HB := btrans (balloc w (.cells #[.string s, .slice a cs.length cap] 26)) (balloc _ (.cells #[.string ⟨#[]⟩, .slice none 0 0] 26))
  simp only [sz1] at K0
  go_enter Tryz.func16, Tryz.ntmps16
  go_wp2_with fail
  refine (cTripI s a cap cs _ (hz.below HB) hl hcap).mono ?_
  rintro e w1 ⟨rfl, hb⟩
  replace HB := btrans HB hb
  replace A0 := blk_keep hb A0
  replace K0 := blk_keep hb K0
  clear hb
  cases hT : tripB ⟨s, cs⟩
  · have hq := hide (show res = TripV.zero by rw [E.out, hT, if_neg (by simp)])
    clear E hT
    obtain ⟨⟨y0, y1⟩, f0, f1⟩ := blk2 K0
    go_wp2
    refine bodyPost_ret (v := .agg #[.string ⟨#[]⟩, .slice none 0 0]) (by simp [results, Tryz.results16, go_sem, y0, y1]) rfl ?_
    rw [hq.out]
    exact ⟨none, 0, rfl, World.ownsRow_nil _ _ _ _, below_set (by omega) (below_set (by omega) HB)⟩
  go_wp2_with fail
  refine (cWithin x (-100000) 100000 _).mono ?_
  rintro e w2 ⟨rfl, hw⟩
  subst w2
  cases hX : inB x (-100000) 100000
  · have hq := hide (show res = TripV.zero by rw [E.out, hX, if_neg (by simp)])
    clear E hT hX
    obtain ⟨⟨y0, y1⟩, f0, f1⟩ := blk2 K0
    go_wp2
    refine bodyPost_ret (v := .agg #[.string ⟨#[]⟩, .slice none 0 0]) (by simp [results, Tryz.results16, go_sem, y0, y1]) rfl ?_
    rw [hq.out]
    exact ⟨none, 0, rfl, World.ownsRow_nil _ _ _ _, below_set (by omega) (below_set (by omega) HB)⟩
  have hq := hide (show res = ifOk ⟨s, movedL x cs⟩ by rw [E.out, hT, hX, if_pos ⟨rfl, rfl⟩])
  obtain ⟨-, l1, l2, hall, -⟩ := trip_parts hT
  dsimp only at l1 l2 hall
  obtain ⟨x1, x2⟩ := inB_true hX
  clear E hT hX
  obtain ⟨⟨z0, z1⟩, -⟩ := blk2 A0
  obtain ⟨i0, hi, hz0, hz1, hz2⟩ := info_parts infoHalts
  have L0 : OutT w1 (w1.alloc (.cells #[.string s, .slice none 0 0] 26)) s none 0 (movedL x (cs.take 0)) := ⟨balloc _ _, one_block _ _, World.ownsRow_nil _ _ _ _⟩
  have hws := lt_of_block A0
  go_wp2
  go_loopw [24] (fun i wr => ∃ k : Nat, ∃ ao cp, k ≤ cs.length ∧ i = .int .i64 k ∧ OutT w1 wr s ao cp (movedL x (cs.take k))) (fun i _ => cs.length - (intOf i).toNat)
  case atStart => exact ⟨0, none, 0, by omega, rfl, L0⟩
  case round =>
    obtain ⟨k, ao, cp, hk, rfl, L⟩ := hrel
    clear L0
    by_cases hlt : k < cs.length
    · have S := hide (movedL_step x hlt)
      rcases hz with h | ⟨b, off, rfl, hc⟩
      · simp [h] at hlt
      obtain ⟨q0, q1, q2⟩ := hc k hlt
      have fin := btrans HB L.bel
      replace q0 := ble fin q0
      replace q1 := ble fin q1
      replace q2 := ble fin q2
      obtain ⟨-, ⟨b1, b2⟩, b3⟩ := call_parts (call_at hall hlt)
      generalize cs.getD k HaltV.zero = y at *
      obtain ⟨n, a, d⟩ := y
      dsimp only at *
      have hw1 : IntKind.i64.wrap (a + x) = a + x := wrap_in _ (by omega) (by omega)
      have hw2 : IntKind.i64.wrap (d + x) = d + x := wrap_in _ (by omega) (by omega)
      have hl2 : (movedL x (cs.take k)).length ≤ 12 := by rw [movedL_len]; simp; omega
      generalize hM : movedL x (cs.take k) = ms at *
      replace hM := hide hM
      have hob := own_blk_lt L.own
      have hLt := L.lt
      have hC := one_block wr (.cells #[.int .i64 n, .int .i64 a, .int .i64 d] 33)
      have L1 := L.keep (balloc wr (.cells #[.int .i64 n, .int .i64 a, .int .i64 d] 33))
      have hcl : wr.heap.size < (wr.alloc (.cells #[.int .i64 n, .int .i64 a, .int .i64 d] 33)).heap.size := by simp
      clear hc
      go_wp2_with fail
      generalize wr.alloc (.cells #[.int .i64 n, .int .i64 a, .int .i64 d] 33) = wc at *
      have hne : ∀ j, (Value.slice ao ms.length cp).ownBlock = some j → j ≠ wr.heap.size := fun j hj => by have := hob j hj; omega
      have hne2 : w1.heap.size ≠ wr.heap.size := by omega
      have hbase : w1.heap.size + 1 ≤ wc.heap.size := by omega
      have hxl : w1.heap.size < wc.heap.size := by omega
      obtain ⟨c0, c1, c2⟩ := blk3 hC
      obtain ⟨⟨o0, o1⟩, f0, f1⟩ := blk2 L1.out
      clear q0 q1 q2 hob
      go_region_law
        ((refine step_append_lies _ (by rfl) _ _ _ (by rfl) (w1.heap.size + 1) 33 i0 _ 3 24 Tryz.underlying24 hi hz0 hz1 hz2 rfl (by omega) (.slice ao ms.length cp) ms.length (flatHalts ms) (by rfl) ((L1.own.drew).alloc _)
            ⟨wc.heap.size, 0, none⟩ 1 1 (HaltV.vs ⟨n, a + x, d + x⟩) (by rfl) (by rfl) (World.news_of_block (cs := #[.int .i64 n, .int .i64 (a + x), .int .i64 (d + x)]) (t := 33) (fr := (0, 0)) (heap_alloc_new wc.drew _)) (by simp [HaltV.vs, Value.oneCell'])
            (by omega) (by unfold maxLen; omega) (by omega) (by simp; omega) (wc.heap.size + 1) (by simp) ?_; intro g cap2 w2 hown hgrow hat hlt2; obtain ⟨⟨u0, u1⟩, t0, t1⟩ := blk2 (L1.out2 hgrow); obtain ⟨v0, v1, v2⟩ := blk3 ((L1.far hgrow hcl hne).trans hC)))
      all_goals have L2 := L1.push hown hgrow
      all_goals rw [← S.out] at L2
      all_goals clear hown hgrow hat u0 u1 t0 t1 v0 v1 v2
      all_goals go_wp2
      all_goals go_roundw
      all_goals first | exact ⟨k + 1, some ⟨g, 0, none⟩, cap2, by omega, by go_num, by simpa using L2⟩ | (simp [intOf]; omega)
    · obtain rfl : k = cs.length := by omega
      rw [List.take_length] at L
      have hlm : (movedL x cs).length ≤ 1048576 := by rw [movedL_len]; exact hl
      have fin := btrans HB L.bel
      have K1 := blk_keep L.bel K0
      have hws2 := lt_of_block K0
      have hq2 : Hid (ifOk ⟨s, movedL x cs⟩ = if tripB ⟨s, movedL x cs⟩ = true then ⟨s, movedL x cs⟩ else TripV.zero) := rfl
      generalize movedL x cs = ms at *
      clear hz hall K0
      go_wp2_with fail
      refine (cIfOk w1.heap.size s ao cp ms _ L.out (Halts.own L.own) hlm (own_cap L.own)).mono ?_
      rintro e w3 ⟨hb, he⟩
      have fin2 := btrans fin hb
      have K2 := blk_keep hb K1
      have ho := own_keep L.own hb
      clear hb fin K1 L A0
      obtain ⟨⟨y0, y1⟩, f0, f1⟩ := blk2 K2
      cases hT : tripB ⟨s, ms⟩
      · have hq3 := hide (show res = TripV.zero by rw [hq.out, hq2.out, hT, if_neg (by simp)])
        rw [hT, if_neg (by simp)] at he
        subst he
        clear hq hq2 hT ho
        go_wp2
        refine bodyPost_ret (v := .agg #[.string ⟨#[]⟩, .slice none 0 0]) (by simp [results, Tryz.results16, go_sem, y0, y1]) rfl ?_
        rw [hq3.out]
        exact ⟨none, 0, rfl, World.ownsRow_nil _ _ _ _, below_set (by omega) (below_set (by omega) fin2)⟩
      · have hq3 := hide (show res = ⟨s, ms⟩ by rw [hq.out, hq2.out, hT, if_pos rfl])
        rw [hT, if_pos rfl] at he
        subst he
        clear hq hq2 hT
        go_wp2
        refine bodyPost_ret (v := .agg #[.string s, .slice ao ms.length cp]) (by simp [results, Tryz.results16, go_sem, y0, y1]) rfl ?_
        rw [hq3.out]
        have hfr := own_from ho (Nat.le_refl _)
        exact ⟨ao, cp, rfl, own_base (own_set (own_set ho (fun k hk => by have := hfr k hk; omega)) (fun k hk => by have := hfr k hk; omega)) (by omega), below_set (by omega) (below_set (by omega) fin2)⟩
end Go.Proofs.YthlmaljgnhakfaaGreatDoor
