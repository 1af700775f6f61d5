/- Telegrams held against each other, and what is scanned of telegrams that are sent. -/
import Derived.Test.YtgnohomplehacaaXA
import Derived.Laws.BytesArg
namespace Go.Proofs.Ytgnohomplehacaa
open Go.RowKit
theorem str_inj {xs ys : List Int} (hx : By xs) (hy : By ys) (h : strOfNums xs = strOfNums ys) : xs = ys := by
  have h2 : (xs.map fun n => UInt8.ofNat n.toNat) = (ys.map fun n => UInt8.ofNat n.toNat) := by rw [← strOfNums_data, ← strOfNums_data, h]
  have hl : xs.length = ys.length := by have := congrArg List.length h2; simpa using this
  apply List.ext_getElem hl
  intro i h1 h3
  have e : UInt8.ofNat xs[i].toNat = UInt8.ofNat ys[i].toNat := by
    have := congrArg (fun l : List UInt8 => l[i]?) h2
    simpa [h1, h3] using this
  obtain ⟨x0, x1⟩ := hx _ (List.getElem_mem h1)
  obtain ⟨y0, y1⟩ := hy _ (List.getElem_mem h3)
  have e2 := congrArg UInt8.toNat e
  simp at e2
  omega
theorem str_ne {a b : ByteArray} (h : ¬ a = b) : (a.toList == b.toList) = false := by
  rw [ByteArray.toList_eq, ByteArray.toList_eq]
  cases hq : (a.data.toList == b.data.toList)
  · rfl
  · have e := eq_of_beq hq
    exact absurd (by obtain ⟨⟨x⟩⟩ := a; obtain ⟨⟨y⟩⟩ := b; simpa using e) h
theorem conv_own {w : World} {B n : Nat} {v : Value} {xs : List Int} (h : w.ownsRow B 5 1 v n (enc8 xs)) (hn : xs.length = n) : (convert 22 9 v).run Try.prog w = .ok (.string (strOfNums xs)) w := by
  have hb := h
  rcases h.2 with ⟨rfl, h0⟩ | ⟨g, cap, cur, rfl, _⟩
  · have hx : xs = [] := List.length_eq_zero_iff.1 (by omega)
    subst hx
    exact run_convert_bytes_nil (w := w) 22 5 Try.underlying22 Try.underlying5 0 0 9 Try.underlying9
  · refine run_convert_bytes_arg (w := w) 22 5 Try.underlying22 Try.underlying5 g 0 n cap xs hn ?_ 9 Try.underlying9
    intro i hi
    rcases Bys.own hb hn with h1 | ⟨b', o', e, hc⟩
    · rw [h1] at hn; simp at hn; omega
    · simp only [Option.some.injEq, Addr.mk.injEq, and_true] at e
      obtain ⟨rfl, rfl⟩ := e
      exact hc i (by omega)
def sameB (t u : TelV) : Bool := (t.q == u.q) && ((t.k == u.k) && decide (t.b = u.b))
theorem sameB_self (t : TelV) : sameB t t = true := by simp [sameB]
theorem sameB_eq {t u : TelV} (h : sameB t u = true) : t = u := by
  obtain ⟨a, b, c⟩ := t
  obtain ⟨d, e, f⟩ := u
  simp [sameB] at h
  obtain ⟨rfl, rfl, rfl⟩ := h
  rfl
theorem two_blocks (w : World) (o1 o2 : Obj) : ((w.alloc o1).alloc o2).heap[w.heap.size]? = some o1 ∧ ((w.alloc o1).alloc o2).heap[w.heap.size + 1]? = some o2 := by
  refine ⟨?_, ?_⟩
  · show ((w.heap.push o1).push o2)[w.heap.size]? = _
    simp [Array.getElem?_push]
  · show ((w.heap.push o1).push o2)[w.heap.size + 1]? = _
    rw [Array.getElem?_push, if_pos (by simp)]
set_option maxRecDepth 100000 in
set_option maxHeartbeats 3200000 in
theorem cSameT (B1 B2 n1 n2 : Nat) (q1 k1 q2 k2 : Int) (v1 v2 : Value) (b1 b2 : List Int) (w : World) (hn1 : b1.length = n1) (hn2 : b2.length = n2) (h1 : w.ownsRow B1 5 1 v1 n1 (enc8 b1)) (h2 : w.ownsRow B2 5 1 v2 n2 (enc8 b2)) (y1 : By b1) (y2 : By b2) :
    Calls Try.prog 18 #[.agg #[.int .i64 q1, .int .i64 k1, v1], .agg #[.int .i64 q2, .int .i64 k2, v2]] w fun e w' => e = .returned (.bool (sameB ⟨q1, k1, b1⟩ ⟨q2, k2, b2⟩)) ∧ Below w.heap.size w w' := by
  have hb := btrans (balloc w (.cells #[.int .i64 q1, .int .i64 k1, v1] 25)) (balloc _ (.cells #[.int .i64 q2, .int .i64 k2, v2] 25))
  obtain ⟨K1, K2⟩ := two_blocks w (.cells #[.int .i64 q1, .int .i64 k1, v1] 25) (.cells #[.int .i64 q2, .int .i64 k2, v2] 25)
  have c1 := conv_own (own_keep h1 hb) hn1
  have c2 := conv_own (own_keep h2 hb) hn2
  obtain ⟨⟨x0, x1, x2⟩, -⟩ := blk3 K1
  obtain ⟨⟨z0, z1, z2⟩, -⟩ := blk3 K2
  have hE : Hid (sameB ⟨q1, k1, b1⟩ ⟨q2, k2, b2⟩ = ((q1 == q2) && ((k1 == k2) && decide (b1 = b2)))) := hide rfl
  have hS1 : b1 = b2 → Hid (strOfNums b1 = strOfNums b2) := fun h => hide (by rw [h])
  have hS2 : ¬ (b1 = b2) → ((strOfNums b1).toList == (strOfNums b2).toList) = false := fun h => str_ne (fun e => h (str_inj y1 y2 e))
  obtain ⟨a1, p1, rfl⟩ := own_form h1
  obtain ⟨a2, p2, rfl⟩ := own_form h2
  clear h1 h2 K1 K2 hn1 hn2
  cases hq : (q1 == q2)
  · rw [hq] at hE
    go_enter Try.func18, Try.ntmps18
    go_wp2
    go_ret
    exact ⟨ret_bool hE.out.symm, hb⟩
  cases hk : (k1 == k2)
  · rw [hq, hk] at hE
    go_enter Try.func18, Try.ntmps18
    go_wp2
    go_ret
    exact ⟨ret_bool hE.out.symm, hb⟩
  by_cases hbb : b1 = b2
  · rw [hq, hk, decide_eq_true hbb] at hE
    have h9 := (hS1 hbb).out
    rw [← h9] at c2
    generalize strOfNums b1 = s1 at *
    clear hS1 hS2 h9
    replace hbb := hide hbb
    go_enter Try.func18, Try.ntmps18
    go_wp2
    go_ret
    exact ⟨ret_bool hE.out.symm, hb⟩
  · rw [hq, hk, decide_eq_false hbb] at hE
    have h9 := hS2 hbb
    generalize strOfNums b1 = s1 at *
    generalize strOfNums b2 = s2 at *
    clear hS1 hS2
    replace hbb := hide hbb
    go_enter Try.func18, Try.ntmps18
    go_wp2
    go_ret
    exact ⟨ret_bool hE.out.symm, hb⟩
theorem esc_no {l : List Int} (h : By l) : ∀ z ∈ esc l, z ≠ 126 := by
  induction l with
  | nil => intro z hz; simp [esc] at hz
  | cons x l ih =>
    intro z hz
    rw [esc_cons] at hz
    rcases List.mem_append.1 hz with hz | hz
    · unfold escB at hz
      split at hz
      · rename_i hm
        have hx : x = 126 ∨ x = 125 := by simpa [mustB] using hm
        simp at hz
        rcases hz with rfl | rfl
        · decide
        · rcases hx with rfl | rfl
          · rw [x32_126]; decide
          · rw [x32_125]; decide
      · rename_i hm
        simp at hz
        subst hz
        simp [mustB] at hm
        exact hm.1
    · exact ih (fun y hy => h y (by simp [hy])) z hz
theorem scV_run : ∀ (q p l : List Int) (st : List TelV × Int), (∀ z ∈ q, z ≠ 126) → scV (q ++ 126 :: l) p st = scV l [] (takeP st (p ++ q)) := by
  intro q
  induction q with
  | nil => intro p l st _; simp [scV]
  | cons z q ih =>
    intro p l st h
    rw [List.cons_append, scV, if_neg (h z (by simp)), ih (p ++ [z]) l st (fun y hy => h y (by simp [hy]))]
    simp
theorem scV_enc {t : TelV} (h : okT t = true) (hb : By t.b) (l : List Int) (st : List TelV × Int) : scV (encL t ++ l) [] st = scV l [] (st.1 ++ [t], st.2) := by
  have hne : esc (loadL t) ≠ [] := fun e => by
    have h1 := (esc_len (loadL t)).1
    rw [e, load_len] at h1
    simp at h1
  unfold encL
  rw [List.cons_append, List.append_assoc, scV, if_pos rfl, takeP_nil, show [126] ++ l = 126 :: l from rfl, scV_run _ _ _ _ (esc_no (load_by h hb)), List.nil_append, takeP_some hne (decP_load h hb)]
theorem scV_bad (l : List Int) (st : List TelV × Int) : scV ([1, 2, 3, 126] ++ l) [] st = scV l [] (st.1, st.2 + 1) := by
  have h := scV_run [1, 2, 3] [] l st (by decide)
  have hd : decP [1, 2, 3] = none := by decide
  rw [List.nil_append, takeP_none (by simp) hd] at h
  exact h
end Go.Proofs.Ytgnohomplehacaa
