/- Part of the program and of the model. -/
import Derived.Test.YtnddhpdhbmbikaaDoorCG
namespace Go.Proofs.YtnddhpdhbmbikaaDoor
open Go.RowKit
theorem Us.take {w : World} {a : Option Addr} {l : List UV} (h : Us w a l) (q : Nat) : Us w a (l.take q) := by
  rcases h with h | ⟨b, off, ha, hc⟩
  · left; simp [h]
  · rw [ha]; exact ((FlatAt.of_us hc).take q).us
/-- The two lists that one is parted into: each in memory of its own. -/
def AnsP (w : World) (xs ys : List UV) (e : Ending) (w' : World) : Prop :=
  ∃ v1 v2 B2, e = .returned (.tuple #[v1, v2]) ∧ w'.ownsRow w.heap.size 34 4 v1 xs.length (flatUs xs) ∧ w'.ownsRow B2 34 4 v2 ys.length (flatUs ys) ∧ w.heap.size ≤ B2 ∧ (∀ k, v1.ownBlock = some k → k < B2) ∧ Below w.heap.size w w'
theorem AnsP.no {w w' : World} (hb : Below w.heap.size w w') : AnsP w [] [] (.returned (.tuple #[.slice none 0 0, .slice none 0 0])) w' :=
  ⟨_, _, w.heap.size, rfl, row_nil _ _, row_nil _ _, Nat.le_refl _, fun k hk => by simp [Value.ownBlock] at hk, hb⟩
theorem part_no1 {l : List UV} {k : Int} (h : formB l = false) : headL l k = [] ∧ restL l k = [] := by simp [headL, restL, partB, h]
theorem part_no2 {l : List UV} {k : Int} (h : inB k 0 l.length = false) : headL l k = [] ∧ restL l k = [] := by simp [headL, restL, partB, h]
theorem part_yes {l : List UV} {q : Nat} (h : formB l = true) (hq : q ≤ l.length) : headL l q = l.take q ∧ restL l q = l.drop q := by
  have : inB (q : Int) 0 l.length = true := inB_yes (by omega) (by omega)
  simp [headL, restL, partB, h, this]

set_option maxRecDepth 20000 in
set_option maxHeartbeats 1600000 in
theorem cPartI (b off cap : Nat) (l : List UV) (k : Int) (w : World) (he : Us w (some ⟨b, off, none⟩) l) (hl : l.length ≤ cap) (hcap : cap ≤ maxLen) :
    Calls Tryd.prog 8 #[.slice (some ⟨b, off, none⟩) l.length cap, .int .i64 k] w (AnsP w (headL l k) (restL l k)) := by
  have CF := cFormI (some ⟨b, off, none⟩) cap l w he (Nat.le_trans hl hcap)
  unfold maxLen at hcap
  go_enter Tryd.func8, Tryd.ntmps8
  go_wp2_with fail
  refine CF.mono ?_
  rintro e w1 ⟨rfl, hb1⟩
  clear CF
  cases hf : formB l
  · obtain ⟨e1, e2⟩ := part_no1 (k := k) hf
    go_wp2
    go_ret2
    show AnsP w (headL l k) (restL l k) _ _
    rw [e1, e2]
    exact AnsP.no hb1
  have h30 := (formB_iff.1 hf).1
  go_wp2_with fail
  refine (cWithin k 0 l.length _).mono ?_
  rintro e w2 ⟨rfl, hw⟩
  subst hw
  cases hi : inB k 0 l.length
  · obtain ⟨e1, e2⟩ := part_no2 hi
    go_wp2
    go_ret2
    show AnsP w (headL l k) (restL l k) _ _
    rw [e1, e2]
    exact AnsP.no hb1
  obtain ⟨i1, i2⟩ := inB_true hi
  obtain ⟨q, rfl⟩ : ∃ q : Nat, k = q := ⟨k.toNat, by omega⟩
  have hq : q ≤ l.length := by omega
  have E12 := hide (part_yes hf hq)
  clear hi hf
  have he2 := he.below hb1
  have F := he2.flat b off rfl
  have lt : (l.take q).length = q := by simp; omega
  have ld : (l.drop q).length = l.length - q := by simp
  have C1 := fun (w : World) h => cClone (some ⟨b, off, none⟩) cap (l.take q) w h (fun h => by cases h) (fun x h => by cases h; rfl) (by omega)
  rw [lt] at C1
  have i3 : (l.length : Int) ≤ (cap : Int) := by omega
  have i4 : (q : Int) ≤ (cap : Int) := by omega
  have i5 : (0 : Int) ≤ (q : Int) := by omega
  have U1 : Us w2.drew (some ⟨b, off, none⟩) (l.take q) := (he2.below (bdraw (Below.refl _ _) 1)).take q
  by_cases hc : cap = q
  · obtain rfl : q = cap := by omega
    have hlq : l.length = q := by omega
    have C2 := fun (w : World) h => cClone (some ⟨b, off, none⟩) 0 ([] : List UV) w h (fun h => by cases h) (fun x h => by cases h; rfl) (by simp)
    simp only [List.length_nil] at C2
    have U0 : ∀ w, Us w (some ⟨b, off, none⟩) [] := fun w => Or.inl rfl
    have hd := hide (show l.drop q = [] by rw [← hlq]; simp)
    rw [hlq]
    have LT := hide lt
    clear lt ld he hl hq i1 i2 i3 i4 hc hlq
    go_wp2_with fail
    go_region_held3 (fun _ => True) (exact trivial) (first
      | (go_at_call 27; with_reducible refine (C2 _ (U0 _)).mono ?_; rintro e wb ⟨v2, rfl, ho2, hbb⟩; have Bb := btrans Ba hbb; have ho3 := own_keep ho1 hbb)
      | (go_at_call 27; with_reducible refine (C1 _ U1).mono ?_; rintro e wa ⟨v1, rfl, ho1, hba⟩; have Ba := undrew hba))
    have HB := btrans hb1 Bb
    have h0 : w2.heap.size ≤ wa.heap.size := Ba.size
    have hs := hb1.size
    have hv := own_blk_lt ho1
    obtain ⟨va1, vc1, rfl⟩ := own_form ho3
    obtain ⟨va2, vc2, rfl⟩ := own_form ho2
    clear C1 C2
    go_wp2
    go_ret2
    show AnsP w (headL l q) (restL l q) _ _
    rw [E12.out.1, E12.out.2, hd.out]
    exact ⟨_, _, wa.heap.size, rfl, by rw [LT.out]; exact own_base ho3 hs, ho2, by omega, hv, HB⟩
  · obtain ⟨r, hr⟩ : ∃ r, r = l.length - q := ⟨_, rfl⟩
    have C2 := fun (w : World) h => cClone (some ⟨b, off + q * 4, none⟩) (cap - q) (l.drop q) w h (fun h => by cases h) (fun x h => by cases h; rfl) (by omega)
    have U2 : Us w2 (some ⟨b, off + q * 4, none⟩) (l.drop q) := (F.drop q).us
    rw [ld] at C2
    have hc1 : ¬ ((cap : Int) = (q : Int)) := by omega
    have LT := hide lt
    have LD := hide ld
    clear lt ld he hr
    go_wp2_with fail
    go_region_held3 (fun _ => True) (exact trivial) (first
      | (go_at_call 27; with_reducible refine (C2 _ (U2.below Ba)).mono ?_; rintro e wb ⟨v2, rfl, ho2, hbb⟩; have Bb := btrans Ba hbb; have ho3 := own_keep ho1 hbb)
      | (go_at_call 27; with_reducible refine (C1 _ U1).mono ?_; rintro e wa ⟨v1, rfl, ho1, hba⟩; have Ba := undrew hba))
    have HB := btrans hb1 Bb
    have h0 : w2.heap.size ≤ wa.heap.size := Ba.size
    have hs := hb1.size
    have hv := own_blk_lt ho1
    obtain ⟨va1, vc1, rfl⟩ := own_form ho3
    obtain ⟨va2, vc2, rfl⟩ := own_form ho2
    clear C1 C2
    go_wp2
    go_ret2
    show AnsP w (headL l q) (restL l q) _ _
    rw [E12.out.1, E12.out.2]
    exact ⟨_, _, wa.heap.size, rfl, by rw [LT.out]; exact own_base ho3 hs, by rw [LD.out]; exact ho2, by omega, hv, HB⟩

end Go.Proofs.YtnddhpdhbmbikaaDoor
