/- The uses by their edges: sixty ranks in one block. -/
import Derived.Test.YtbghfihlpbcomaaKE
import Derived.Test.YtbghfihlpbcomaaCB
import Derived.Deep.WholeRow
import Derived.Laws.Tables
namespace Go.Proofs.Ytbghfihlpbcomaa
open Go.RowKit Go.Lib

/-- Sixty ranks in block r: the rank of each edge, their rows apart. -/
def Rks (w : World) (base r : Nat) (us : List RideV) (k : Nat) (vs : Array Value) : Prop :=
  vs.size = 60 ∧ w.heap[r]? = some (.cells vs 87 (0, 0)) ∧
    (∀ e, e < 60 → ∃ v rs, vs[e]? = some v ∧ RowOf us k e rs ∧ rs.length ≤ k ∧ w.ownsRow base 120 6 v rs.length (flatPls rs)) ∧
    ∀ (e e' : Nat) (v v' : Value) (b : Nat), e ≠ e' → vs[e]? = some v → vs[e']? = some v' → v.ownBlock = some b → v'.ownBlock ≠ some b
theorem Rks.below {w w' : World} {base r k : Nat} {us : List RideV} {vs : Array Value} (h : Rks w base r us k vs) (hb : Below w.heap.size w w') : Rks w' base r us k vs := by
  obtain ⟨h1, h2, h3, h4⟩ := h
  refine ⟨h1, (hb.block r (lt_of_block h2)).trans h2, fun e he => ?_, h4⟩
  obtain ⟨v, rs, a1, a2, a3, a4⟩ := h3 e he
  exact ⟨v, rs, a1, a2, a3, own_keep a4 hb⟩
theorem Rks.skip {w : World} {base r k : Nat} {us : List RideV} {vs : Array Value} (h : Rks w base r us k vs) (g : rideB (rdA us k) = false) : Rks w base r us (k + 1) vs := by
  obtain ⟨h1, h2, h3, h4⟩ := h
  refine ⟨h1, h2, fun e he => ?_, h4⟩
  obtain ⟨v, rs, a1, a2, a3, a4⟩ := h3 e he
  exact ⟨v, rs, a1, a2.skip (by rw [g]; simp), by omega, a4⟩
theorem Rks.add {w w' : World} {base r k e : Nat} {us : List RideV} {vs : Array Value} {v : Value} {rs : List PlV} (h : Rks w base r us k vs) (he : e < 60) (g : rideB (rdA us k) = true) (ge : (rdA us k).e = e) (hv : vs[e]? = some v) (hR : RowOf us k e rs) (hk : rs.length ≤ k)
    (hA : Added 87 w w' base r e vs v rs ⟨rdA us k, k⟩) : ∃ vs', Rks w' base r us (k + 1) vs' := by
  obtain ⟨h1, h2, h3, h4⟩ := h
  obtain ⟨⟨v', p, q1, q2, q3, q4, q5, q6⟩, -, -, -, -, hbl⟩ := hA
  have same : (vs.setIfInBounds e v')[e]? = some v' := by simp [h1, he]
  have other : ∀ f, f ≠ e → (vs.setIfInBounds e v')[f]? = vs[f]? := fun f hf => by rw [Array.getElem?_setIfInBounds]; simp [Ne.symm hf]
  have hlt : ∀ (f : Nat) (u : Value) (b : Nat), vs[f]? = some u → u.ownBlock = some b → b < w.heap.size := fun f u b hf hb => by
    have hf60 : f < 60 := by
      rw [← h1]
      exact (Array.getElem?_eq_some_iff.1 hf).1
    obtain ⟨u', rs', a1, a2, a3, a4⟩ := h3 f hf60
    rw [hf] at a1
    cases a1
    exact own_blk_lt a4 b hb
  refine ⟨vs.setIfInBounds e v', by simpa using h1, q1, fun f hf => ?_, ?_⟩
  · by_cases hfe : f = e
    · subst hfe
      refine ⟨v', putAt rs p ⟨rdA us k, k⟩, same, hR.add g ge q3 (fun t ht => cmpP_neg.2 (q4 t ht)) (fun t ht1 ht2 hc => q5 t ht1 ht2 (cmpP_neg.1 hc)), ?_, ?_⟩
      · unfold putAt; simp; omega
      · have hl : (putAt rs p ⟨rdA us k, k⟩).length = rs.length + 1 := by unfold putAt; simp; omega
        rw [hl]; exact q2
    · obtain ⟨u, rs', a1, a2, a3, a4⟩ := h3 f hf
      refine ⟨u, rs', (other f hfe).trans a1, a2.skip (fun hx => hfe (by have := hx.2; omega)), by omega, ?_⟩
      rcases a4.2 with ⟨rfl, h0⟩ | ⟨gb, cap, cur, rfl, hB, hh, hrest⟩
      · exact ⟨a4.1, .inl ⟨rfl, h0⟩⟩
      · refine ⟨a4.1, .inr ⟨gb, cap, cur, rfl, hB, ?_, hrest⟩⟩
        rw [hbl gb (lt_of_block hh) ?_ ?_]
        · exact hh
        · rintro rfl
          rw [h2] at hh
          simp only [Option.some.injEq, Obj.cells.injEq] at hh
          exact absurd hh.2.1 (by decide)
        · intro hx
          exact h4 f e _ v gb hfe a1 hv rfl hx.symm
  · intro f f' u u' b hff hu hu' hb
    by_cases hfe : f = e
    · subst hfe
      rw [same] at hu
      cases hu
      rw [other f' (Ne.symm hff)] at hu'
      intro hb'
      rcases q6 with q6 | ⟨gg, q6, q7⟩
      · rw [q6] at hb
        exact h4 f f' v u' b hff hv hu' hb hb'
      · rw [q6] at hb
        have e1 : gg = b := by simpa using hb
        have := hlt f' u' b hu' hb'
        omega
    · rw [other f hfe] at hu
      by_cases hfe' : f' = e
      · subst hfe'
        rw [same] at hu'
        cases hu'
        intro hb'
        rcases q6 with q6 | ⟨gg, q6, q7⟩
        · rw [q6] at hb'
          exact h4 f f' u v b hff hu hv hb hb'
        · rw [q6] at hb'
          have e1 : gg = b := by simpa using hb'
          have := hlt f u b hu hb
          omega
      · rw [other f' hfe'] at hu'
        exact h4 f f' u u' b hff hu hu' hb
theorem Rks.start {w : World} {r : Nat} {us : List RideV} (base : Nat) (h : w.heap[r]? = some (.cells (Array.replicate 60 (.slice none 0 0)) 87 (0, 0))) : Rks w base r us 0 (Array.replicate 60 (.slice none 0 0)) := by
  refine ⟨by simp, h, fun e he => ⟨.slice none 0 0, [], by simp [he], RowOf.nil us e, Nat.le_refl _, World.ownsRow_nil _ _ _ _⟩, ?_⟩
  intro e e' v v' b _ h1 _ hb
  rw [Array.getElem?_replicate] at h1
  split at h1
  · cases h1; simp [Value.ownBlock] at hb
  · cases h1
/-- What byEdge answers: the ranks of all edges. -/
def AnsRks (w : World) (us : List RideV) (e : Ending) (w' : World) : Prop := ∃ vs, e = .returned (.agg vs) ∧ Below w.heap.size w w' ∧ vs.size = 60 ∧ ∀ e, e < 60 → ∃ v rs, vs[e]? = some v ∧ RowOf us us.length e rs ∧ rs.length ≤ us.length ∧ w'.ownsRow w.heap.size 120 6 v rs.length (flatPls rs)

theorem Added.keep {ty : TypeId} {w w' : World} {base rb ro : Nat} {cs : Array Value} {v : Value} {es : List PlV} {t : PlV} (hA : Added ty w w' base rb ro cs v es t) (ho : w.ownsRow base 120 6 v es.length (flatPls es)) {g : Nat} {c : Array Value} {tt : TypeId} {f : Nat × Nat} (h : w.heap[g]? = some (.cells c tt f)) (ht : tt ≠ 120) (hg : g ≠ rb) : w'.heap[g]? = some (.cells c tt f) := by
  rw [hA.block g (lt_of_block h) hg ?_]
  · exact h
  · intro hv
    rcases ho.2 with ⟨rfl, _⟩ | ⟨g', cap', cur, rfl, _, hh, _⟩
    · simp [Value.ownBlock] at hv
    · simp only [Value.ownBlock, Option.some.injEq] at hv
      subst hv
      rw [h] at hh
      simp only [Option.some.injEq, Obj.cells.injEq] at hh
      exact ht hh.2.1
theorem Added.below {ty : TypeId} {w0 w w' : World} {rb ro : Nat} {cs : Array Value} {v : Value} {es : List PlV} {t : PlV} (hA : Added ty w w' w0.heap.size rb ro cs v es t) (ho : w.ownsRow w0.heap.size 120 6 v es.length (flatPls es)) (hb : Below w0.heap.size w0 w) (hrb : w0.heap.size ≤ rb) : Below w0.heap.size w0 w' :=
  ⟨hA.os.trans hb.os, hA.tape.trans hb.tape, hA.output.trans hb.output, Nat.le_trans hb.size hA.size, fun k hk => (hA.block k (Nat.lt_of_lt_of_le hk hb.size) (by omega) (fun e => by have := own_from ho (Nat.le_refl _) k e.symm; omega)).trans (hb.block k hk)⟩
theorem grow_below' {w0 w w' : World} {r : Option Nat} (hb : Below w0.heap.size w0 w) (h : w.grownBy w' r) (hr : ∀ k, r = some k → w0.heap.size ≤ k) : Below w0.heap.size w0 w' :=
  ⟨h.os.trans hb.os, h.tape.trans hb.tape, h.output.trans hb.output, Nat.le_trans hb.size h.size, fun k hk => (h.block k (Nat.lt_of_lt_of_le hk hb.size) (fun e => by have := hr k e.symm; omega)).trans (hb.block k hk)⟩
theorem wpList_load_run {P : Program} {ops : Array Oper} {rest : List Oper} {op : Oper} {a : Act} {w : World} {Q : Exit → Act → World → Prop} (hgd : op.guard = none) (ty : TypeId) (x : Operand) (ho : op.op = .load ty x) (p : Addr) (hx : a.eval x = .pointer (some p)) {v : Value} (hr : (loadVar ty p).run P w = .ok v w)
    (h : wpList P ops Q rest (a.put op.dst v) w) : wpList P ops Q (op :: rest) a w := by
  refine wpList_plain hgd fun _ hK => ?_
  unfold Oper.wp execOp
  simp only [ho, hx, Instr.loadAt, Instr.sureAddr, Sem.run_bind, Sem.run_pure, Result.andThen_ok, hr]
  exact hK _ _ h
theorem wpList_store_run {P : Program} {ops : Array Oper} {rest : List Oper} {op : Oper} {a : Act} {w w' : World} {Q : Exit → Act → World → Prop} (hgd : op.guard = none) (ty : TypeId) (x y : Operand) (ho : op.op = .store ty x y) (p : Addr) (v : Value) (hx : a.eval x = .pointer (some p)) (hy : a.eval y = v) (hr : (storeVar ty p v).run P w = .ok () w')
    (h : wpList P ops Q rest (a.put op.dst undef) w') : wpList P ops Q (op :: rest) a w := by
  refine wpList_plain hgd fun _ hK => ?_
  unfold Oper.wp execOp
  simp only [ho, hx, hy, Instr.storeAt, Instr.sureAddr, Sem.run_bind, Sem.run_pure, Result.andThen_ok, hr]
  exact hK _ _ h
theorem below2 (w : World) (o1 o2 : Obj) : Below w.heap.size w ((w.alloc o1).alloc o2) := btrans (balloc _ _) (balloc _ _)
theorem blocks2 (w : World) (o1 o2 : Obj) : ((w.alloc o1).alloc o2).heap[w.heap.size]? = some o1 ∧ ((w.alloc o1).alloc o2).heap[w.heap.size + 1]? = some o2 := by
  refine ⟨blk_keep (balloc _ _) (one_block w o1), ?_⟩
  have h := one_block (w.alloc o1) o2
  rwa [sz1] at h
theorem size60 : (Try.prog.info? 87).map (·.size) = some 60 := by kernel_rfl
abbrev Z60 : Array Value := Array.replicate 60 (.slice none 0 0)

set_option maxRecDepth 20000 in
set_option maxHeartbeats 6400000 in
theorem cByEdge (a : Option Addr) (cap : Nat) (us : List RideV) (w : World) (hz : Rides w a us) (hl : us.length ≤ 300) :
    Calls Try.prog 49 #[.slice a us.length cap] w (AnsRks w us) := by
  go_enter Try.func49, Try.ntmps49
  go_wp2_with fail
  go_loopw [8] (fun i wr => ∃ (k : Nat) (vs : Array Value), k ≤ us.length ∧ i = .int .i64 k ∧ Rks wr w.heap.size (w.heap.size + 1) us k vs ∧ wr.heap[w.heap.size]? = some (.cells Z60 87 (0, 0)) ∧ Below w.heap.size w wr) (fun i _ => us.length - (intOf i).toNat)
  case atStart => exact ⟨0, Z60, Nat.zero_le _, rfl, Rks.start _ (blocks2 w (.cells Z60 87) (.cells Z60 87)).2, (blocks2 w (.cells Z60 87) (.cells Z60 87)).1, below2 w (.cells Z60 87) (.cells Z60 87)⟩
  case round =>
    obtain ⟨k, vs, hk, rfl, hR, hX, hb⟩ := hrel
    by_cases hlt : k < us.length
    · have hlt' : (k : Int) < (us.length : Int) := by omega
      rcases hz with hz | ⟨b, off, rfl, hc⟩
      · simp [hz] at hlt
      obtain ⟨p0, p1, p2, p3, p4⟩ := hc k hlt
      replace p0 := ble hb p0
      replace p1 := ble hb p1
      replace p2 := ble hb p2
      replace p3 := ble hb p3
      replace p4 := ble hb p4
      have CU := cUseI (us.getD k RideV.zero)
      have hu : Hid (us.getD k RideV.zero = rdA us k) := rfl
      generalize us.getD k RideV.zero = u at *
      obtain ⟨ue, ud, uf, ut, up⟩ := u
      unfold RideV.val at CU
      dsimp only at *
      have hbA := balloc wr (.cells #[.int .i64 ue, .int .i64 ud, .int .i64 uf, .int .i64 ut, .int .i64 up] 41)
      have hXA := one_block wr (.cells #[.int .i64 ue, .int .i64 ud, .int .i64 uf, .int .i64 ut, .int .i64 up] 41)
      clear hc
      go_wp2_with fail
      refine (CU _).mono ?_
      rintro e w2 ⟨rfl, hb2⟩
      have hbB := btrans hbA hb2
      have hR2 := hR.below hbB
      have hX2 := blk_keep hbB hX
      have hb3 := btrans hb hbB
      replace hXA := blk_keep hb2 hXA
      clear hbA hbB hb2 p0 p1 p2 p3 p4 hX hb CU
      cases hok : rideB ⟨ue, ud, uf, ut, up⟩
      · have hR3 := hR2.skip (by rw [← hu.out]; exact hok)
        replace hok := hide hok
        clear hR2 hR hXA
        go_wp2
        go_roundw
        case rel => exact ⟨k + 1, vs, by omega, by go_num, hR3, hX2, hb3⟩
        case measure => simp [intOf]; omega
      · obtain ⟨g0, g1, -⟩ := rideB_iff.1 hok
        dsimp only at g0 g1
        obtain ⟨en, rfl⟩ : ∃ en : Nat, ue = (en : Int) := ⟨ue.toNat, by omega⟩
        have hen : en < 60 := by omega
        have hen' : (en : Int) < 60 := by omega
        have hge : (rdA us k).e = en := by rw [← hu.out]
        have hgo : rideB (rdA us k) = true := by rw [← hu.out]; exact hok
        obtain ⟨v, rs, hv, hRow, hrs, hown⟩ := hR2.2.2.1 en hen
        have hRd : Rks w2.drew w.heap.size (w.heap.size + 1) us k vs := hR2.below (bdrew (Below.refl _ _))
        have CA := cAdd 87 (by decide) w.heap.size (w.heap.size + 1) en vs v rs ⟨⟨en, ud, uf, ut, up⟩, k⟩ w2.drew hR2.2.1 hv hown (by omega) hRow.1 hb3.size
        have ub3 : ∀ w3, Added 87 w2.drew w3 w.heap.size (w.heap.size + 1) en vs v rs ⟨⟨en, ud, uf, ut, up⟩, k⟩ → w3.cell? ⟨wr.heap.size, 0, none⟩ = some (.int .i64 en) ∧ w3.cell? ⟨wr.heap.size, 1, none⟩ = some (.int .i64 ud) ∧ w3.cell? ⟨wr.heap.size, 2, none⟩ = some (.int .i64 uf) ∧ w3.cell? ⟨wr.heap.size, 3, none⟩ = some (.int .i64 ut) ∧ w3.cell? ⟨wr.heap.size, 4, none⟩ = some (.int .i64 up) := fun w3 hA => by
          have h := hA.keep hown (show w2.drew.heap[wr.heap.size]? = _ from hXA) (by decide) (by have := lt_of_block hR.2.1; omega)
          exact ⟨by simp [World.cell?, h], by simp [World.cell?, h], by simp [World.cell?, h], by simp [World.cell?, h], by simp [World.cell?, h]⟩
        have hfin : Hid (∀ w3, Added 87 w2.drew w3 w.heap.size (w.heap.size + 1) en vs v rs ⟨⟨en, ud, uf, ut, up⟩, k⟩ → ∃ vs', Rks w3 w.heap.size (w.heap.size + 1) us (k + 1) vs' ∧ w3.heap[w.heap.size]? = some (.cells Z60 87 (0, 0)) ∧ Below w.heap.size w w3) := hide (fun w3 hA => by
          have hA2 := hA
          rw [hu.out] at hA2
          obtain ⟨vs', h1⟩ := hRd.add hen hgo hge hv hRow hrs hA2
          exact ⟨vs', h1, hA.keep hown (show w2.drew.heap[w.heap.size]? = _ from hX2) (by decide) (by omega), hA.below hown (bdrew hb3) (by omega)⟩)
        obtain ⟨u0, u1, u2, u3, u4⟩ : Bx5 w2 wr.heap.size (.int .i64 en) (.int .i64 ud) (.int .i64 uf) (.int .i64 ut) (.int .i64 up) := ⟨by simp [World.cell?, hXA], by simp [World.cell?, hXA], by simp [World.cell?, hXA], by simp [World.cell?, hXA], by simp [World.cell?, hXA]⟩
        unfold PlV.val at CA
        dsimp only at CA
        clear hRd hRow hrs hR2 hR hX2 hb3 hXA hok hgo hge hu
        go_wp2_with fail
        go_region_held3 (fun w' => w'.cell? ⟨wr.heap.size, 0, none⟩ = some (.int .i64 en) ∧ w'.cell? ⟨wr.heap.size, 1, none⟩ = some (.int .i64 ud) ∧ w'.cell? ⟨wr.heap.size, 2, none⟩ = some (.int .i64 uf) ∧ w'.cell? ⟨wr.heap.size, 3, none⟩ = some (.int .i64 ut) ∧ w'.cell? ⟨wr.heap.size, 4, none⟩ = some (.int .i64 up)) (go_keep) (
          (go_at_call 79; with_reducible refine CA.mono ?_; rintro e w3 ⟨rfl, hA⟩; have v0 := (ub3 _ hA).1; have v1 := (ub3 _ hA).2.1; have v2 := (ub3 _ hA).2.2.1; have v3 := (ub3 _ hA).2.2.2.1; have v4 := (ub3 _ hA).2.2.2.2))
        obtain ⟨vs', h1, h2, h3⟩ := hfin.out _ hA
        clear hfin ub3 CA hA
        go_wp2
        go_roundw
        case rel => exact ⟨k + 1, vs', by omega, by go_num, h1, h2, h3⟩
        case measure => simp [intOf]; omega
    · obtain rfl : k = us.length := by omega
      have hnl : ¬ ((us.length : Int) < (us.length : Int)) := by omega
      have hall : vs.all (·.oneCell') = true := by
        rw [Array.all_eq_true_iff_forall_mem]
        intro x hx
        obtain ⟨i, hi, rfl⟩ := Array.mem_iff_getElem.1 hx
        obtain ⟨v, rs, a1, a2, a3, a4⟩ := hR.2.2.1 i (by have := hR.1; omega)
        have : vs[i] = v := by simpa [hi] using a1
        rw [this]
        obtain ⟨aa, cc, rfl⟩ := own_form a4
        rfl
      have hsz := hR.1
      have hld := run_loadVar_row (P := Try.prog) wr (w.heap.size + 1) _ 87 vs (0, 0) _ hR.2.1 Try.underlying87 rfl (by rw [hsz]; exact size60)
      have hst := run_storeVar_row (P := Try.prog) wr w.heap.size _ 87 Z60 vs hX (by rw [hsz]; exact size60) (by rw [hsz]; rfl) hall
      have hX3 : (wr.setRow w.heap.size vs).heap[w.heap.size]? = some (.cells vs 87 (0, 0)) := setRow_heap wr w.heap.size Z60 vs _ _ hX
      have hld3 := run_loadVar_row (P := Try.prog) (wr.setRow w.heap.size vs) w.heap.size _ 87 vs (0, 0) _ hX3 Try.underlying87 rfl (by rw [hsz]; exact size60)
      have hG : wr.grownBy (wr.setRow w.heap.size vs) (some w.heap.size) := ⟨rfl, rfl, rfl, by simp, fun k hk hne => setRow_other _ _ _ _ (fun h => hne (by rw [h]))⟩
      have hfin : Hid (AnsRks w us (.returned (.agg vs)) (wr.setRow w.heap.size vs)) := hide ⟨vs, rfl, grow_below' hb hG (fun k e => by cases e; exact Nat.le_refl _), hsz, fun e he => by
        obtain ⟨v, rs, a1, a2, a3, a4⟩ := hR.2.2.1 e he
        refine ⟨v, rs, a1, a2, a3, own_far a4 hG (fun k hk e => ?_)⟩
        cases e
        rcases a4.2 with ⟨rfl, _⟩ | ⟨g', cap', cur, rfl, _, hh, _⟩
        · simp [Value.ownBlock] at hk
        · simp only [Value.ownBlock, Option.some.injEq] at hk
          subst hk
          rw [hX] at hh
          simp only [Option.some.injEq, Obj.cells.injEq] at hh
          exact absurd hh.2.1 (by decide)⟩
      clear hR hX hX3 hG hall
      go_wp2_with (first
        | (refine wpList_load_run rfl 87 _ rfl _ rfl hld ?_)
        | (refine wpList_store_run rfl 87 _ _ rfl _ _ rfl rfl hst ?_))
      refine bodyPost_ret (v := .agg vs) ?_ rfl hfin.out
      simp only [results, Try.results49]
      simp [asAddr, hld3]
end Go.Proofs.Ytbghfihlpbcomaa
