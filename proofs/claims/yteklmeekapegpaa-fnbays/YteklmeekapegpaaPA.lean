/- The passages of stays, in their order. -/
import Derived.Test.YteklmeekapegpaaRE
import Derived.Test.YteklmeekapegpaaC
namespace Go.Proofs.Yteklmeekapegpaa
open Go.RowKit Go.Lib

def comeP (ss : List StayV) (i : Nat) : PassV := ⟨(ss.getD i StayV.zero).f, 1, i⟩
def leaveP (ss : List StayV) (g : Int) (i : Nat) : PassV := ⟨(ss.getD i StayV.zero).t + g, 0, i⟩
/-- es is what the first k stays do, in order. -/
structure IsPass (ss : List StayV) (g : Int) (k : Nat) (es : List PassV) : Prop where
  sorted : es.Pairwise ltP
  len : es.length = 2 * k
  mem : ∀ p, p ∈ es ↔ ∃ i, i < k ∧ (p = comeP ss i ∨ p = leaveP ss g i)
theorem putAt_len (es : List PassV) (i : Nat) (t : PassV) : (putAt es i t).length = es.length + 1 := by simp [putAt]; omega
theorem putAt_mem (es : List PassV) (i : Nat) (t x : PassV) : x ∈ putAt es i t ↔ x = t ∨ x ∈ es := by
  unfold putAt
  rw [List.mem_append, List.mem_cons]
  conv => rhs; rw [← List.take_append_drop i es, List.mem_append]
  constructor
  · rintro (h | h | h)
    · exact .inr (.inl h)
    · exact .inl h
    · exact .inr (.inr h)
  · rintro (h | h | h)
    · exact .inr (.inl h)
    · exact .inl h
    · exact .inr (.inr h)
theorem putAt_sorted {es : List PassV} {p : Nat} {t : PassV} (hs : es.Pairwise ltP) (hp : p ≤ es.length) (hA : ∀ i, i < p → ltP (es.getD i PassV.zero) t) (hZ : ∀ i, p ≤ i → i < es.length → ¬ ltP (es.getD i PassV.zero) t) (hn : t ∉ es) : (putAt es p t).Pairwise ltP := by
  have key : es = es.take p ++ es.drop p := (List.take_append_drop p es).symm
  rw [key] at hs
  rw [List.pairwise_append] at hs
  obtain ⟨h1, h2, h3⟩ := hs
  have hA' : ∀ x ∈ es.take p, ltP x t := by
    intro x hx
    obtain ⟨i, hi, rfl⟩ := List.mem_iff_getElem.1 hx
    rw [List.length_take] at hi
    rw [List.getElem_take]
    have := hA i (by omega)
    simpa [List.getD, show i < es.length by omega] using this
  have hZ' : ∀ x ∈ es.drop p, ltP t x := by
    intro x hx
    have hxe : x ∈ es := List.mem_of_mem_drop hx
    obtain ⟨i, hi, rfl⟩ := List.mem_iff_getElem.1 hx
    rw [List.length_drop] at hi
    rw [List.getElem_drop] at hxe ⊢
    have := hZ (p + i) (by omega) (by omega)
    simp only [List.getD, List.getElem?_eq_getElem (show p + i < es.length by omega), Option.getD_some] at this
    rcases ltP_total (es[p + i]) t with h | h | h
    · exact absurd h this
    · exact absurd (h ▸ hxe) hn
    · exact h
  unfold putAt
  rw [List.pairwise_append]
  refine ⟨h1, List.pairwise_cons.2 ⟨hZ', h2⟩, fun x hx y hy => ?_⟩
  rcases List.mem_cons.1 hy with rfl | hy
  · exact hA' x hx
  · exact h3 x hx y hy
/-- Behind the coming of stay k. -/
structure IsHalf (ss : List StayV) (g : Int) (k : Nat) (es : List PassV) : Prop where
  sorted : es.Pairwise ltP
  len : es.length = 2 * k + 1
  mem : ∀ p, p ∈ es ↔ p = comeP ss k ∨ ∃ i, i < k ∧ (p = comeP ss i ∨ p = leaveP ss g i)
theorem IsPass.nil (ss : List StayV) (g : Int) : IsPass ss g 0 [] := ⟨List.Pairwise.nil, rfl, fun p => by simp⟩
theorem IsPass.come {ss : List StayV} {g : Int} {k : Nat} {es : List PassV} (h : IsPass ss g k es) {p : Nat} (hp : p ≤ es.length) (hA : ∀ i, i < p → ltP (es.getD i PassV.zero) (comeP ss k)) (hZ : ∀ i, p ≤ i → i < es.length → ¬ ltP (es.getD i PassV.zero) (comeP ss k)) : IsHalf ss g k (putAt es p (comeP ss k)) := by
  refine ⟨putAt_sorted h.sorted hp hA hZ ?_, by rw [putAt_len, h.len], fun x => by rw [putAt_mem, h.mem]⟩
  rw [h.mem]
  rintro ⟨i, hi, e | e⟩
  · have := congrArg PassV.p e; simp [comeP] at this; omega
  · have := congrArg PassV.k e; simp [comeP, leaveP] at this
theorem IsHalf.leave {ss : List StayV} {g : Int} {k : Nat} {es : List PassV} (h : IsHalf ss g k es) {p : Nat} (hp : p ≤ es.length) (hA : ∀ i, i < p → ltP (es.getD i PassV.zero) (leaveP ss g k)) (hZ : ∀ i, p ≤ i → i < es.length → ¬ ltP (es.getD i PassV.zero) (leaveP ss g k)) : IsPass ss g (k + 1) (putAt es p (leaveP ss g k)) := by
  refine ⟨putAt_sorted h.sorted hp hA hZ ?_, by rw [putAt_len, h.len]; omega, fun x => ?_⟩
  · rw [h.mem]
    rintro (e | ⟨i, hi, e | e⟩)
    · have := congrArg PassV.k e; simp [comeP, leaveP] at this
    · have := congrArg PassV.k e; simp [comeP, leaveP] at this
    · have := congrArg PassV.p e; simp [leaveP] at this; omega
  · rw [putAt_mem, h.mem]
    constructor
    · rintro (e | e | ⟨i, hi, e⟩)
      · exact ⟨k, by omega, .inr e⟩
      · exact ⟨k, by omega, .inl e⟩
      · exact ⟨i, by omega, e⟩
    · rintro ⟨i, hi, e⟩
      by_cases hk : i = k
      · subst hk; rcases e with e | e
        · exact .inr (.inl e)
        · exact .inl e
      · exact .inr (.inr ⟨i, by omega, e⟩)

theorem Added.below {w w' w0 : World} {base rb ro : Nat} {cs : Array Value} {v : Value} {es : List PassV} {t : PassV} (h : Added w w' base rb ro cs v es t) (hb : Below w0.heap.size w0 w) (hrb : w0.heap.size ≤ rb) (hbase : w0.heap.size ≤ base) (ho : w.ownsRow base 60 3 v es.length (flatPasses es)) : Below w0.heap.size w0 w' :=
  ⟨h.os.trans hb.os, h.tape.trans hb.tape, h.output.trans hb.output, Nat.le_trans hb.size h.size, fun k hk => (h.block k (Nat.lt_of_lt_of_le hk hb.size) (by omega) (fun e => by have := own_from ho hbase k e.symm; omega)).trans (hb.block k hk)⟩
theorem Added.blk {w w' : World} {base rb ro : Nat} {cs : Array Value} {v : Value} {es : List PassV} {t : PassV} (h : Added w w' base rb ro cs v es t) (ho : w.ownsRow base 60 3 v es.length (flatPasses es)) {g : Nat} {c : Array Value} {T : TypeId} {f : Nat × Nat} (hg : w.heap[g]? = some (.cells c T f)) (hT : T ≠ 60) (hne : g ≠ rb) : w'.heap[g]? = some (.cells c T f) := by
  refine (h.block g (lt_of_block hg) hne ?_).trans hg
  intro hv
  rcases ho.2 with ⟨rfl, _⟩ | ⟨g', cap', cur, rfl, _, hh, _⟩
  · simp [Value.ownBlock] at hv
  · simp only [Value.ownBlock, Option.some.injEq] at hv
    subst hv
    rw [hg] at hh
    simp only [Option.some.injEq, Obj.cells.injEq] at hh
    exact hT hh.2.1
theorem Added.one {w w' : World} {base rb : Nat} {v : Value} {es : List PassV} {t : PassV} (h : Added w w' base rb 0 #[v] v es t) : ∃ v' p, w'.heap[rb]? = some (.cells #[v'] 84 (0, 0)) ∧ w'.ownsRow base 60 3 v' (putAt es p t).length (flatPasses (putAt es p t)) ∧ p ≤ es.length ∧ (∀ i, i < p → ltP (es.getD i PassV.zero) t) ∧ (∀ i, p ≤ i → i < es.length → ¬ ltP (es.getD i PassV.zero) t) := by
  obtain ⟨v', p, h1, h2, h3⟩ := h.ex
  exact ⟨v', p, by simpa using h1, by rw [putAt_len]; exact h2, h3⟩
theorem stays_get {ss : List StayV} (h : staysB ss = true) {k : Nat} (hk : k < ss.length) : 0 ≤ (ss.getD k StayV.zero).f ∧ (ss.getD k StayV.zero).f ≤ (ss.getD k StayV.zero).t ∧ (ss.getD k StayV.zero).t ≤ 100000 := by
  simp only [staysB, Bool.and_eq_true, List.all_eq_true] at h
  have h2 := h.2 ss[k] (List.getElem_mem hk)
  have e0 : ss.getD k StayV.zero = ss[k] := by simp [List.getD, hk]
  rw [e0]
  simp only [stayB, Bool.and_eq_true, decide_eq_true_eq] at h2
  exact ⟨h2.1, h2.2.1, h2.2.2.1⟩
theorem stays_len {ss : List StayV} (h : staysB ss = true) : ss.length ≤ 60 := by
  simp only [staysB, Bool.and_eq_true, decide_eq_true_eq] at h; exact h.1

set_option maxRecDepth 20000 in
set_option maxHeartbeats 3200000 in
theorem cPassages (a : Option Addr) (cap : Nat) (ss : List StayV) (g : Int) (w : World) (hz : Stays w a ss) (hS : staysB ss = true) (hg : gapB g = true) :
    Calls Try.prog 44 #[.slice a ss.length cap, .int .i64 g] w fun e w' => ∃ v es, e = .returned v ∧ w'.ownsRow w.heap.size 60 3 v es.length (flatPasses es) ∧ IsPass ss g ss.length es ∧ Below w.heap.size w w' := by
  have h60 := stays_len hS
  have hg2 := inB_true hg
  obtain ⟨hg0, hg1⟩ := hg2
  have hW := balloc w (.cells #[.slice none 0 0] 84)
  have hR := heap_alloc_new w (.cells #[.slice none 0 0] 84)
  replace hS := hide hS
  clear hg
  go_enter Try.func44, Try.ntmps44
  go_wp2
  go_loopw [10] (fun i wr => ∃ k : Nat, ∃ v es, k ≤ ss.length ∧ i = .int .i64 k ∧ wr.heap[w.heap.size]? = some (.cells #[v] 84 (0, 0)) ∧ wr.ownsRow w.heap.size 60 3 v (List.length es) (flatPasses es) ∧ IsPass ss g k es ∧ Below w.heap.size w wr) (fun i _ => ss.length - (intOf i).toNat)
  case atStart => exact ⟨0, .slice none 0 0, [], Nat.zero_le _, rfl, hR, World.ownsRow_nil _ _ _ _, IsPass.nil ss g, hW⟩
  case round =>
    obtain ⟨k, v, es, hk, rfl, hrb, ho, hP, hb⟩ := hrel
    clear hW hR
    by_cases hlt : k < ss.length
    · rcases hz with h | ⟨b, off, rfl, hc⟩
      · simp [h] at hlt
      obtain ⟨q0, q1, q2⟩ := hc k hlt
      replace q0 := ble hb q0
      replace q1 := ble hb q1
      replace q2 := ble hb q2
      obtain ⟨y0, y1, y2⟩ := stays_get hS.out hlt
      have hC : Hid (comeP ss k = ⟨(ss.getD k StayV.zero).f, 1, k⟩) := rfl
      have hL : Hid (leaveP ss g k = ⟨(ss.getD k StayV.zero).t + g, 0, k⟩) := rfl
      have hlen : es.length ≤ 1000 := by rw [hP.len]; omega
      generalize ss.getD k StayV.zero = y at *
      obtain ⟨f, t, l⟩ := y
      dsimp only at *
      have hwr : IntKind.i64.wrap (t + g) = t + g := wrap_in _ (by omega) (by omega)
      have hAl := balloc wr (.cells #[.int .i64 f, .int .i64 t, .int .i64 l] 37)
      have hbx := heap_alloc_new wr (.cells #[.int .i64 f, .int .i64 t, .int .i64 l] 37)
      have hwl : w.heap.size < wr.heap.size := lt_of_block hrb
      have hb1 := btrans hb hAl
      have ho1 := own_keep ho hAl
      have hrb1 := (hAl.block _ hwl).trans hrb
      have A1 := cAdd w.heap.size w.heap.size 0 #[v] v es (comeP ss k) _ hrb1 rfl ho1 hlen hP.sorted hb1.size
      rw [hC.out] at A1
      unfold PassV.val at A1
      dsimp only at A1
      clear hc hAl
      go_wp2_with fail
      refine A1.mono ?_
      rintro e w1 ⟨rfl, had⟩
      rw [← hC.out] at had
      have hb2 := had.below hb1 (Nat.le_refl _) (Nat.le_refl _) ho1
      have hbx2 := had.blk ho1 hbx (by decide) (by omega)
      obtain ⟨v2, p, hr2, ho2, hp1, hp2, hp3⟩ := had.one
      have hH := hP.come hp1 hp2 hp3
      generalize putAt es p (comeP ss k) = es2 at *
      clear had A1 hbx hrb1 ho1 hb1 hP hp1 hp2 hp3
      have hlen2 : es2.length ≤ 1000 := by rw [hH.len]; omega
      have A2 := cAdd w.heap.size w.heap.size 0 #[v2] v2 es2 (leaveP ss g k) _ hr2 rfl ho2 hlen2 hH.sorted hb2.size
      rw [hL.out] at A2
      unfold PassV.val at A2
      dsimp only at A2
      have x1 : w1.cell? ⟨wr.heap.size, 1, none⟩ = some (.int .i64 t) := by simp [World.cell?, hbx2]
      go_wp2_with fail
      refine A2.mono ?_
      rintro e w2 ⟨rfl, had⟩
      rw [← hL.out] at had
      have hb3 := had.below hb2 (Nat.le_refl _) (Nat.le_refl _) ho2
      obtain ⟨v3, p, hr3, ho3, hp1, hp2, hp3⟩ := had.one
      have hP3 := hH.leave hp1 hp2 hp3
      generalize putAt es2 p (leaveP ss g k) = es3 at *
      clear had A2 hbx2 hr2 ho2 hb2 hH hp1 hp2 hp3
      go_wp2
      go_roundw
      case rel => exact ⟨k + 1, v3, es3, by omega, by go_num, hr3, ho3, hP3, hb3⟩
      case measure => simp [intOf]; omega
    · obtain rfl : k = ss.length := by omega
      obtain ⟨va, vc, rfl⟩ := own_form ho
      have x0 : wr.cell? ⟨w.heap.size, 0, none⟩ = some (.slice va es.length vc) := by simp [World.cell?, hrb]
      clear hz
      go_wp2
      go_ret
      exact ⟨_, es, rfl, ho, hP, hb⟩
end Go.Proofs.Yteklmeekapegpaa
