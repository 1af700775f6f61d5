/- As many bays as the peak are enough; with one fewer somebody gets none. -/
import Derived.Test.YteklmeekapegpaaDA
namespace Go.Proofs.Yteklmeekapegpaa
open Go.RowKit

theorem count_ge {n : Nat} {P : Nat → Bool} {l : List Nat} (hn : l.Nodup) (h : ∀ k ∈ l, k < n ∧ P k = true) : l.length ≤ (List.range n).countP P := by
  rw [List.countP_eq_length_filter]
  exact sub_len hn (fun k hk => List.mem_filter.2 ⟨List.mem_range.2 (h k hk).1, (h k hk).2⟩)
theorem assign_cases {zs : List Int} {ss : List StayV} {g : Int} {A : Nat → Int} (h : IsAssign zs ss g A) {i : Nat} (hi : i < ss.length) : A i = -1 ∨ ∃ b : Nat, b < zs.length ∧ A i = b ∧ lenA ss i ≤ zs.getD b 0 ∧ ∀ k, k < ss.length → before ss k i → A k = b → tA ss k + g ≤ fA ss i := by
  rcases h i hi with ⟨b, h1, _, h3⟩ | ⟨_, h2⟩
  · exact .inr ⟨b, h1.1, h3, h1.2.1, h1.2.2⟩
  · exact .inl h2
/-- What is assigned is right. -/
theorem IsAssign.ok {zs : List Int} {ss : List StayV} {g : Int} {ls : List Int} (hok : assignOk zs ss g = true) (hl : ls.length = ss.length) (h : IsAssign zs ss g (fun k => ls.getD k 0)) : AOk zs ss g ls := by
  refine ⟨hok, hl, fun i hi => ?_, fun i k hi hk hc => ?_⟩
  · rcases assign_cases h hi with h1 | ⟨b, h1, h2, h3, _⟩
    · exact .inl h1
    · exact .inr ⟨b, h1, h2, h3⟩
  · obtain ⟨c1, c2, c3, c4⟩ := hc
    rcases assign_cases h hi with h1 | ⟨b, h1, h2, h3, h4⟩
    · have h1' : ls.getD i 0 = -1 := h1
      omega
    · have h2' : ls.getD i 0 = b := h2
      have := h4 k hk c3 (show ls.getD k 0 = b by rw [← c1]; exact h2')
      omega
theorem peak_ge {ss : List StayV} {g : Int} {i : Nat} (hi : i < ss.length) : nowI ss g ss.length i ≤ peakTo ss g ss.length ss.length := Nat.le_trans (nowI_le ss g _ i) ((peakTo_spec ss g ss.length ss.length).1 i hi)
theorem there_self {ss : List StayV} {g : Int} {i : Nat} (hg : 1 ≤ g) (hF : fA ss i ≤ tA ss i) : thereB ss g i i = true := by
  unfold thereB; exact decide_eq_true ⟨.inr ⟨rfl, Nat.le_refl _⟩, by omega⟩
/-- Enough bays, all long enough: everybody gets one. -/
theorem enough {ss : List StayV} {g : Int} {A : Nat → Int} {zs : List Int} (hg : 1 ≤ g) (hF : Fine ss ss.length) (hz : peakTo ss g ss.length ss.length ≤ zs.length) (hlen : ∀ i, i < ss.length → ∀ b, b < zs.length → lenA ss i ≤ zs.getD b 0) (h : IsAssign zs ss g A) : ∀ i, i < ss.length → 0 ≤ A i := by
  intro i hi
  rcases h i hi with ⟨b, _, _, h3⟩ | ⟨h1, _⟩
  · omega
  · exfalso
    have hk : ∀ b, b < zs.length → ∃ k, k < ss.length ∧ before ss k i ∧ A k = b ∧ fA ss i < tA ss k + g := by
      intro b hb
      refine Classical.byContradiction fun hn => h1 b ⟨hb, hlen i hi b hb, fun k hk hbk e => ?_⟩
      refine Classical.byContradiction fun hx => hn ⟨k, hk, hbk, e, by omega⟩
    let kf : Nat → Nat := fun b => if hb : b < zs.length then (hk b hb).choose else 0
    have hkf : ∀ b, b < zs.length → kf b < ss.length ∧ before ss (kf b) i ∧ A (kf b) = b ∧ fA ss i < tA ss (kf b) + g := by
      intro b hb
      have := (hk b hb).choose_spec
      simp only [kf, hb, dif_pos]
      exact this
    have hnd : (i :: (List.range zs.length).map kf).Nodup := by
      refine List.nodup_cons.2 ⟨fun hm => ?_, ?_⟩
      · obtain ⟨b, hb, e⟩ := List.mem_map.1 hm
        have := (hkf b (List.mem_range.1 hb)).2.1
        rw [e] at this
        exact before_irrefl _ this
      · rw [List.nodup_iff_pairwise_ne, List.pairwise_map]
        refine (List.nodup_iff_pairwise_ne.1 (List.nodup_range (n := zs.length))).imp_of_mem (fun {a b} ha hb hab e => hab ?_)
        have h1 := (hkf a (List.mem_range.1 ha)).2.2.1
        have h2 := (hkf b (List.mem_range.1 hb)).2.2.1
        rw [e, h2] at h1
        omega
    have := count_ge (n := ss.length) (P := thereB ss g i) hnd (fun k hk' => by
      rcases List.mem_cons.1 hk' with rfl | hk'
      · exact ⟨hi, there_self hg (hF k hi)⟩
      · obtain ⟨b, hb, rfl⟩ := List.mem_map.1 hk'
        obtain ⟨a1, a2, _, a4⟩ := hkf b (List.mem_range.1 hb)
        refine ⟨a1, ?_⟩
        simp only [thereB, decide_eq_true_eq]
        unfold before at a2
        omega)
    simp only [List.length_cons, List.length_map, List.length_range] at this
    have hp := peak_ge (ss := ss) (g := g) hi
    unfold nowI at hp
    omega
/-- Fewer bays than the peak: somebody gets none. -/
theorem too_few {ss : List StayV} {g : Int} {A : Nat → Int} {zs : List Int} (hz : zs.length < peakTo ss g ss.length ss.length) (h : IsAssign zs ss g A) : ∃ i, i < ss.length ∧ A i = -1 := by
  refine Classical.byContradiction fun hn => ?_
  obtain ⟨p1, p2⟩ := peakTo_spec ss g ss.length ss.length
  rcases p2 with p2 | ⟨i, hi, e⟩
  · omega
  · obtain ⟨l, hl, el, hm⟩ := last_one ss ss.length ss.length i hi (by omega)
    have hnow : nowI ss g ss.length l = peakTo ss g ss.length ss.length := by
      rw [nowI_last (fun k hk ek => hm k hk (ek.trans el)), el, ← e]
    unfold nowI at hnow
    rw [List.countP_eq_length_filter] at hnow
    let ks := (List.range ss.length).filter (thereB ss g l)
    have hks : ∀ k ∈ ks, k < ss.length ∧ (before ss k l ∨ k = l) ∧ fA ss l < tA ss k + g := by
      intro k hk
      obtain ⟨h1, h2⟩ := List.mem_filter.1 hk
      simp only [thereB, decide_eq_true_eq] at h2
      refine ⟨List.mem_range.1 h1, ?_, h2.2⟩
      unfold before; omega
    have hpos : ∀ k ∈ ks, ∃ b : Nat, b < zs.length ∧ A k = b ∧ ∀ x, x < ss.length → before ss x k → A x = b → tA ss x + g ≤ fA ss k := by
      intro k hk
      rcases assign_cases h (hks k hk).1 with h1 | ⟨b, h1, h2, _, h4⟩
      · exact absurd ⟨k, (hks k hk).1, h1⟩ hn
      · exact ⟨b, h1, h2, h4⟩
    have hinj : (ks.map (fun k => (A k).toNat)).Nodup := by
      rw [List.nodup_iff_pairwise_ne, List.pairwise_map]
      have hnd : ks.Nodup := List.nodup_range.filter _
      refine (List.nodup_iff_pairwise_ne.1 hnd).imp_of_mem (fun {x y} hx hy hxy e => ?_)
      obtain ⟨bx, b1, b2, b3⟩ := hpos x hx
      obtain ⟨by', c1, c2, c3⟩ := hpos y hy
      have hbb : bx = by' := by rw [b2, c2] at e; simpa using e
      subst hbb
      obtain ⟨x1, x2, x3⟩ := hks x hx
      obtain ⟨y1, y2, y3⟩ := hks y hy
      have hord : before ss x y ∨ before ss y x := by unfold before; omega
      rcases hord with hb | hb
      · have := c3 x x1 hb b2
        rcases y2 with y2 | rfl
        · unfold before at y2; omega
        · omega
      · have := b3 y y1 hb c2
        rcases x2 with x2 | rfl
        · unfold before at x2; omega
        · omega
    have := sub_len hinj (l2 := List.range zs.length) (fun b hb => by
      obtain ⟨k, hk, rfl⟩ := List.mem_map.1 hb
      obtain ⟨b', b1, b2, _⟩ := hpos k hk
      rw [b2]; exact List.mem_range.2 b1)
    rw [List.length_map, List.length_range] at this
    have hlk : ks.length = peakTo ss g ss.length ss.length := hnow
    omega
theorem peak_zero {ss : List StayV} {g : Int} (hg : 1 ≤ g) (hF : Fine ss ss.length) : peakTo ss g ss.length ss.length = 0 ↔ ss.length = 0 := by
  constructor
  · intro h
    refine Classical.byContradiction fun hn => ?_
    have h0 : 0 < ss.length := by omega
    have := count_ge (n := ss.length) (P := thereB ss g 0) (l := [0]) (by simp) (fun k hk => by
      simp only [List.mem_singleton] at hk; subst hk
      exact ⟨h0, there_self hg (hF 0 h0)⟩)
    have hp := peak_ge (ss := ss) (g := g) h0
    unfold nowI at hp
    simp only [List.length_singleton] at this
    omega
  · intro h
    have := peakTo_le ss g ss.length ss.length
    omega
theorem len_1000 {ss : List StayV} (h : staysB ss = true) {i : Nat} (hi : i < ss.length) : lenA ss i ≤ 1000 := by
  simp only [staysB, Bool.and_eq_true, List.all_eq_true] at h
  have h2 := h.2 ss[i] (List.getElem_mem hi)
  have e0 : ss.getD i StayV.zero = ss[i] := by simp [List.getD, hi]
  simp only [stayB, Bool.and_eq_true, decide_eq_true_eq] at h2
  have := (inB_true h2.2.2.2).2
  unfold lenA; rw [e0]; exact this
theorem bays_rep {p : Nat} (h1 : 1 ≤ p) (h2 : p ≤ 12) : baysB (List.replicate p (1000 : Int)) = true := by
  simp only [baysB, Bool.and_eq_true, List.all_eq_true, List.length_replicate]
  refine ⟨inB_yes (by omega) (by omega), fun z hz => ?_⟩
  rw [List.mem_replicate] at hz
  rw [hz.2]; exact inB_yes (by omega) (by omega)
theorem rep_get {p b : Nat} (h : b < p) : (List.replicate p (1000 : Int)).getD b 0 = 1000 := by simp [List.getD, h]
end Go.Proofs.Yteklmeekapegpaa
