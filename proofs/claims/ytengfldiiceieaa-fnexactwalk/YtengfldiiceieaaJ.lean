/- Walk and WayLen, both texts. -/
import Derived.Test.YtengfldiiceieaaI
namespace Go.Proofs.Ytengfldiiceieaa
open Go.RowKit

def lenOf : Option (Int × Int) → Int
  | some s => s.2
  | none => -1

set_option maxHeartbeats 800000 in
theorem c21 (a a2 : Option Addr) (p p2 : Nat) (n f : Int) (es : List EdgeV) (zs : List Int) (w : World) (he : Edges w a es) (hz : Ints w a2 zs) (hl : es.length ≤ 1048576) (hl2 : zs.length ≤ 1048576) :
    Calls Try.prog 21 #[.agg #[.int .i64 n, .slice a es.length p], .int .i64 f, .slice a2 zs.length p2] w fun e w' => e = .returned (.tuple #[.int .i64 (atOf (walkB n es f zs)), .bool (walkB n es f zs).isSome]) ∧ Below w.heap.size w w' := by
  have hW := balloc w (.cells #[.int .i64 n, .slice a es.length p] 26)
  have c := c53 a a2 p p2 n f es zs _ (he.below hW) (hz.below hW) hl hl2
  cases ho : walkB n es f zs with
  | none =>
    rw [ho] at c
    go_enter Try.func21, Try.ntmps21
    go_wp2_with fail
    refine c.mono ?_
    rintro e w1 ⟨rfl, hb1⟩
    have HB1 := btrans hW hb1
    clear hb1 c
    unfold trialV
    go_wp2
    go_ret2
    exact ⟨rfl, btrans HB1 (balloc _ _)⟩
  | some s =>
    obtain ⟨y, t⟩ := s
    rw [ho] at c
    go_enter Try.func21, Try.ntmps21
    go_wp2_with fail
    refine c.mono ?_
    rintro e w1 ⟨rfl, hb1⟩
    have HB1 := btrans hW hb1
    clear hb1 c
    unfold trialV
    go_wp2
    go_ret2
    exact ⟨rfl, btrans HB1 (balloc _ _)⟩

set_option maxHeartbeats 800000 in
theorem c22 (a a2 : Option Addr) (p p2 : Nat) (n f : Int) (es : List EdgeV) (zs : List Int) (w : World) (he : Edges w a es) (hz : Ints w a2 zs) (hl : es.length ≤ 1048576) (hl2 : zs.length ≤ 1048576) :
    Calls Try.prog 22 #[.agg #[.int .i64 n, .slice a es.length p], .int .i64 f, .slice a2 zs.length p2] w fun e w' => e = .returned (.int .i64 (lenOf (walkB n es f zs))) ∧ Below w.heap.size w w' := by
  have hW := balloc w (.cells #[.int .i64 n, .slice a es.length p] 26)
  have c := c53 a a2 p p2 n f es zs _ (he.below hW) (hz.below hW) hl hl2
  cases ho : walkB n es f zs with
  | none =>
    rw [ho] at c
    go_enter Try.func22, Try.ntmps22
    go_wp2_with fail
    refine c.mono ?_
    rintro e w1 ⟨rfl, hb1⟩
    have HB1 := btrans hW hb1
    clear hb1 c
    unfold trialV
    go_wp2
    go_ret
    exact ⟨rfl, btrans HB1 (balloc _ _)⟩
  | some s =>
    obtain ⟨y, t⟩ := s
    rw [ho] at c
    go_enter Try.func22, Try.ntmps22
    go_wp2_with fail
    refine c.mono ?_
    rintro e w1 ⟨rfl, hb1⟩
    have HB1 := btrans hW hb1
    clear hb1 c
    unfold trialV
    go_wp2
    go_ret
    exact ⟨rfl, btrans HB1 (balloc _ _)⟩

theorem walkB_some {n : Int} {es : List EdgeV} {f : Int} {zs : List Int} {s : Int × Int} (h : walkB n es f zs = some s) : netB n es = true ∧ zs.length ≤ 60 ∧ wk es (f, 0) zs = some s := by
  unfold walkB at h
  by_cases g : netB n es = true ∧ nodeB n f = true ∧ zs.length ≤ 60
  · rw [if_pos g] at h; exact ⟨g.1, g.2.2, h⟩
  · rw [if_neg g] at h; cases h
theorem step_of {es : List EdgeV} {x p b l : Int} (h : stepF es x p = some (b, l)) : ∃ q : Nat, p = q ∧ ∃ hq : q < es.length, l = es[q].l := by
  unfold stepF at h
  by_cases hp : inB p 0 ((es.length : Int) - 1) = true
  · rw [if_pos hp] at h
    have hq := inB_true hp
    by_cases ho : otherF (es.getD p.toNat EdgeV.zero) x < 0
    · rw [if_pos ho] at h; cases h
    · rw [if_neg ho] at h
      simp only [Option.some.injEq, Prod.mk.injEq] at h
      have hl : p.toNat < es.length := by omega
      refine ⟨p.toNat, by omega, hl, ?_⟩
      rw [← h.2]
      simp [List.getD, hl]
  · rw [if_neg hp] at h; cases h

set_option maxHeartbeats 1600000 in
theorem c36 (a a2 : Option Addr) (p p2 : Nat) (n f : Int) (es : List EdgeV) (zs : List Int) (w : World) (he : Edges w a es) (hz : Ints w a2 zs) (hl : es.length ≤ 1048576) (hl2 : zs.length ≤ 1048576) :
    Calls Try.prog 36 #[.agg #[.int .i64 n, .slice a es.length p], .int .i64 f, .slice a2 zs.length p2] w fun e w' => e = .returned (.int .i64 (lenOf (walkB n es f zs))) ∧ Below w.heap.size w w' := by
  have hW := balloc w (.cells #[.int .i64 n, .slice a es.length p] 26)
  have X0 := Bx2.new w (.int .i64 n) (.slice a es.length p) 26
  have c := c33 a a2 p p2 n f es zs _ (he.below hW) (hz.below hW) hl hl2
  cases ho : walkB n es f zs with
  | none =>
    rw [ho] at c
    go_enter Try.func36, Try.ntmps36
    go_wp2_with fail
    refine c.mono ?_
    rintro e w1 ⟨rfl, hb1⟩
    have HB1 := btrans hW hb1
    clear hb1 c
    go_wp2
    go_ret
    exact ⟨rfl, HB1⟩
  | some s =>
    obtain ⟨y, t⟩ := s
    rw [ho] at c
    obtain ⟨hn, h60, hwz⟩ := walkB_some ho
    go_enter Try.func36, Try.ntmps36
    go_wp2_with fail
    refine c.mono ?_
    rintro e w1 ⟨rfl, hb1⟩
    have HB1 := btrans hW hb1
    have X1 := X0.below hb1
    clear hb1 c X0 hW
    go_wp2
    go_loopw [9, 10] (fun x i wr => ∃ (k : Nat) (y' t' : Int) (q : Nat), k ≤ zs.length ∧ x = .int .i64 t' ∧ i = .int .i64 k ∧ wk es (f, 0) (zs.take k) = some (y', t') ∧ wr = w1.drewN q) (fun _ i _ => zs.length - (intOf i).toNat)
    case atStart => exact ⟨0, f, 0, 0, Nat.zero_le _, rfl, rfl, rfl, rfl⟩
    case round =>
      obtain ⟨k, y', t', q', hk, rfl, rfl, hwk, rfl⟩ := hrel
      obtain ⟨x0, x1⟩ := id X1
      by_cases hlt : k < zs.length
      · rcases hz with hz | ⟨b, off, rfl, hc⟩
        · simp [hz] at hlt
        have hck : w1.cell? ⟨b, off + k, none⟩ = some (.int .i64 zs[k]) := (ble HB1 (hc k hlt)).trans (by simp [List.getD, hlt])
        clear hc
        cases hs : stepF es y' zs[k] with
        | none =>
          have := wk_stop hlt hwk hs
          rw [hwz] at this; cases this
        | some bl =>
          obtain ⟨b2, l2⟩ := bl
          obtain ⟨q, hq, hql, rfl⟩ := step_of hs
          have R := wk_step hlt hwk hs
          have P := he.below HB1
          rcases P with P | ⟨b', off', rfl, hc'⟩
          · simp [P] at hql
          obtain ⟨p0, p1, p2, p3⟩ := hc' q hql
          have eg := edge_parts (net_edge hn hql)
          have E1 : es.getD q EdgeV.zero = es[q] := by simp [List.getD, hql]
          rw [E1] at eg p2
          have bnd := wk_bound hn _ _ _ hwk
          have bl : (zs.take k).length = k := by simp; omega
          rw [bl] at bnd
          simp only at bnd
          have hwt : IntKind.i64.wrap (t' + es[q].l) = t' + es[q].l := wrap_in _ (by omega) (by omega)
          rw [hq] at hck
          clear hc' E1 hq hs p0 p1 p3
          go_wp2
          go_quiet (fail)
          go_wp2
          go_roundw
          case rel => exact ⟨k + 1, _, _, _, by omega, rfl, by go_num, R, rfl⟩
          case measure => simp [intOf]; omega
      · have hkk : k = zs.length := by omega
        subst hkk
        have R : some (y, t) = some (y', t') := by rw [← hwz, ← hwk]; simp
        simp only [Option.some.injEq, Prod.mk.injEq] at R
        have R2 := hide R.2
        clear hz R
        go_wp2
        go_ret
        exact ⟨ret_int R2.out.symm, bdraw HB1 _⟩
end Go.Proofs.Ytengfldiiceieaa
