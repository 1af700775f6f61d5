/- The pattern of both of two: the mathematics. -/
import Derived.Test.YtmchdclieejohaaZ
import Derived.Test.YtmchdclieejohaaLB
namespace Go.Proofs.Ytmchdclieejohaa
open Go.RowKit

set_option maxRecDepth 100000 in
theorem and_bd0 : ∀ (W : Fin 128) (V : Fin 128), 0 ≤ bits BinOp.and IntKind.i64 (W.val : Int) (V.val : Int) ∧ bits BinOp.and IntKind.i64 (W.val : Int) (V.val : Int) ≤ 127 := by decide +kernel
theorem and_bd {W V : Int} (h0 : 0 ≤ W) (h1 : W ≤ 127) (g0 : 0 ≤ V) (g1 : V ≤ 127) : 0 ≤ bits BinOp.and IntKind.i64 W V ∧ bits BinOp.and IntKind.i64 W V ≤ 127 := by
  obtain ⟨u, rfl⟩ := Int.eq_ofNat_of_zero_le h0
  obtain ⟨v, rfl⟩ := Int.eq_ofNat_of_zero_le g0
  exact and_bd0 ⟨u, by omega⟩ ⟨v, by omega⟩
theorem has_pick (b : Int → Bool) (f : Int) (k : Nat) (d : Int) (h0 : f ≤ d) (h1 : d < f + k) : hasB (pick b f k) d = b d := by
  rw [Bool.eq_iff_iff]
  simp only [hasB, List.contains_iff_mem, pick, List.mem_filter, List.mem_map, List.mem_range]
  constructor
  · rintro ⟨_, h⟩; exact h
  · intro h; exact ⟨⟨(d - f).toNat, by omega, by omega⟩, h⟩
theorem pick_at {W F T : Int} {s x : Int → Bool} (hs : ∀ d, s d = true → wkB W d = true) (hx : ∀ d, x d = true → wkB W d = false) :
    ∀ j : Nat, F + j ≤ T + 1 → (pick s F j).length ≤ 20 → (pick x F j).length ≤ 20 → DrawAt W F T (pick s F j) (pick x F j) (F + j) := by
  intro j
  induction j with
  | zero => intro _ _ _; exact DrawAt.start _ _ _ _
  | succ j ih =>
    intro hj h1 h2
    have l1 := (pick_pre s F j (j + 1) (by omega)).length_le
    have l2 := (pick_pre x F j (j + 1) (by omega)).length_le
    have D := ih (by omega) (by omega) (by omega)
    have e : F + ((j + 1 : Nat) : Int) = F + (j : Int) + 1 := by omega
    rw [e]
    cases cs : s (F + (j : Int))
    · rw [pick_no s F j cs]
      cases cx : x (F + (j : Int))
      · rw [pick_no x F j cx]; exact D.skip
      · rw [pick_yes x F j cx] at h2 ⊢
        rw [List.length_append, List.length_singleton] at h2
        exact D.put2 (by omega) (by omega) (by omega) (hx _ cx)
    · have cx : x (F + (j : Int)) = false := by
        cases cx : x (F + (j : Int))
        · rfl
        · have := hs _ cs; rw [hx _ cx] at this; cases this
      rw [pick_no x F j cx]
      rw [pick_yes s F j cs] at h1 ⊢
      rw [List.length_append, List.length_singleton] at h1
      exact D.put1 (by omega) (by omega) (by omega) (hs _ cs)
/-- What is known of both. -/
theorem both_cases (W F T : Int) (zs es : List Int) (V G H : Int) (ys ds : List Int) :
    bothR W F T zs es V G H ys ds = ⟨0, 0, 0, [], []⟩ ∨
    (patOk (bothR W F T zs es V G H ys ds).w (bothR W F T zs es V G H ys ds).f (bothR W F T zs es V G H ys ds).t (bothR W F T zs es V G H ys ds).xs (bothR W F T zs es V G H ys ds).ys = true ∧
      ∀ d, (bothR W F T zs es V G H ys ds).f ≤ d → d ≤ (bothR W F T zs es V G H ys ds).t →
        runsOnB (bothR W F T zs es V G H ys ds).w (bothR W F T zs es V G H ys ds).f (bothR W F T zs es V G H ys ds).t (bothR W F T zs es V G H ys ds).xs (bothR W F T zs es V G H ys ds).ys d = (runsOnB W F T zs es d && runsOnB V G H ys ds d)) := by
  cases hp : patOk W F T zs es
  · left; exact both_no1 hp
  cases hq : patOk V G H ys ds
  · left; exact both_no2 hq
  by_cases h : bothT T H < bothF F G
  · left; exact both_no3 h
  have h3 : bothF F G ≤ bothT T H := by omega
  rw [both_yes hp hq h3]
  unfold keep20
  split
  case isFalse => left; rfl
  case isTrue hk =>
    right
    dsimp only
    have b1 := patOk_bd hp
    have b2 := patOk_bd hq
    have hF : 0 ≤ bothF F G := by unfold bothF; split <;> omega
    have hT : bothT T H ≤ 3650 := by unfold bothT; split <;> omega
    have hW := and_bd b1.1.1 b1.1.2 b2.1.1 b2.1.2
    have hok := (pick_at (W := bits BinOp.and IntKind.i64 W V) (F := bothF F G) (T := bothT T H) (s := skB W F T zs es V G H ys ds) (x := exB W F T zs es V G H ys ds)
      (fun d hd => by simp only [skB, Bool.and_eq_true] at hd; exact hd.1) (fun d hd => by simp only [exB, Bool.and_eq_true, Bool.not_eq_true'] at hd; exact hd.1)
      (bothT T H + 1 - bothF F G).toNat (by omega) hk.1 hk.2).ok hW.1 hW.2 hF h3 hT
    refine ⟨hok, fun d d0 d1 => ?_⟩
    rw [ro_yes hok, ro_yes hp, ro_yes hq]
    conv => lhs; unfold onB
    rw [has_pick _ _ _ _ d0 (by omega), has_pick _ _ _ _ d0 (by omega)]
    have hin : inB d (bothF F G) (bothT T H) = true := by simp [inB]; omega
    rw [hin]
    unfold skB exB
    generalize wkB (bits BinOp.and IntKind.i64 W V) d = k
    generalize (onB W F T zs es d && onB V G H ys ds d) = b
    cases k <;> cases b <;> rfl
end Go.Proofs.Ytmchdclieejohaa
