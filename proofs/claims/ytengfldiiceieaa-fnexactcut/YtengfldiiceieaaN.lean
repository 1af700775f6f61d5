/- Cut: the program's text. -/
import Derived.Test.YtengfldiiceieaaM
import Derived.Deep.RegionHeld3
namespace Go.Proofs.Ytengfldiiceieaa
open Go.RowKit

theorem erase_parts (es : List EdgeV) (q : Nat) : es.take q ++ es.drop (q + 1) = es.eraseIdx q := (List.eraseIdx_eq_take_drop_succ es q).symm

set_option maxRecDepth 100000 in
set_option maxHeartbeats 3200000 in
theorem c26 (a : Option Addr) (p : Nat) (n x : Int) (es : List EdgeV) (w : World) (he : Edges w a es) (hl : es.length ≤ 1048576) (hp : es.length ≤ p) (hp2 : p ≤ maxLen) :
    Calls Try.prog 26 #[.agg #[.int .i64 n, .slice a es.length p], .int .i64 x] w (AnsNet w (cutN n es x) (cutE n es x)) := by
  have hW := btrans (balloc w (.cells #[.int .i64 n, .slice a es.length p] 26)) (balloc _ (.cells #[.int .i64 0, .slice none 0 0] 26))
  have X0 := (Bx2.new w (.int .i64 n) (.slice a es.length p) 26).below (balloc _ (.cells #[.int .i64 0, .slice none 0 0] 26))
  have K0 := blk_new1 w (.cells #[.int .i64 n, .slice a es.length p] 26) (.cells #[.int .i64 0, .slice none 0 0] 26)
  have E0 := he.below hW
  unfold maxLen at hp2
  by_cases hgate : netB n es = true ∧ placeB es.length x = true
  · rw [show cutN n es x = n from if_pos hgate, show cutE n es x = es.eraseIdx x.toNat from if_pos hgate]
    obtain ⟨hn, hx⟩ := hgate
    have hx' : inB x 0 ((es.length : Int) - 1) = true := hx
    obtain ⟨q, hq⟩ : ∃ q : Nat, x = q := ⟨x.toNat, by have := (inB_true hx').1; omega⟩
    subst hq
    have hql : q < es.length := by have := (inB_true hx').2; omega
    clear hx'
    obtain ⟨hn1, hn2, hn3⟩ := net_n hn
    rw [Int.toNat_natCast]
    go_enter Try.func26, Try.ntmps26
    go_wp2_with fail
    refine (c31 a p n es _ E0 hl).mono ?_
    rintro e w1 ⟨rfl, hb1⟩
    have HB1 := btrans hW hb1
    have X1 := X0.below hb1
    have K1 := blk_below K0 hb1
    obtain ⟨x0, x1⟩ := id X1
    rw [hn]
    clear hb1 X0 K0 hW E0
    go_wp2_with fail
    clear x0 x1
    refine (c55 _ _ _ _ _ _).mono ?_
    rintro e w2 ⟨rfl, hb2⟩
    have HB2 := btrans HB1 hb2
    have X2 := X1.below hb2
    have K2 := blk_below K1 hb2
    rw [hx]
    clear hb2 X1 K1 HB1
    rcases he with he | ⟨b, off, rfl, hc⟩
    · simp [he] at hql
    have FA := (FlatAt.of_edges hc).below HB2
    clear hc
    obtain ⟨x0, x1⟩ := id X2
    obtain ⟨⟨b0, b1⟩, f0, f1⟩ := blk2 K2
    have hq0 : (0 : Int) ≤ (q : Int) := Int.natCast_nonneg _
    have hq1 : (q : Int) + 1 ≤ (es.length : Int) := by omega
    have hq2 : (q : Int) ≤ (p : Int) := by omega
    have hq3 : (es.length : Int) ≤ (p : Int) := by omega
    have hwq : IntKind.i64.wrap ((q : Int) + 1) = (q : Int) + 1 := wrap_in _ (by omega) (by omega)
    have hp0 : ¬ p = 0 := by omega
    have hq4 : (0 : Int) ≤ (q : Int) + 1 := by omega
    have le : (es.eraseIdx q).length = q + (es.length - (q + 1)) := by rw [← erase_parts, List.length_append, List.length_take, List.length_drop, Nat.min_eq_left (by omega)]
    have LE := hide le
    clear le
    have lt : (es.take q).length = q := by simp; omega
    have ld : (es.drop (q + 1)).length = es.length - (q + 1) := by simp
    have hs2 : w.heap.size + 1 < w2.heap.size := lt_of_block K2
    have hs1 : w.heap.size < w2.heap.size := by omega
    by_cases hpq : p = q + 1
    · have hlq : es.length = q + 1 := by omega
      have hq6 : (q : Int) ≤ (q : Int) + 1 := by omega
      have hq7 : ¬ q + 1 = 0 := by omega
      subst hpq
      have hde : es.drop (q + 1) = [] := by rw [← hlq]; simp
      go_wp2_with fail
      go_region_held3 (fun w' => w'.cell? ⟨w.heap.size, 0, none⟩ = some (.int .i64 n) ∧ w'.cell? ⟨w.heap.size, 1, none⟩ = some (.slice (some ⟨b, off, none⟩) es.length (q + 1))) (go_keep) (first | (go_at_call 56; refine (c56 w2.heap.size b off (q + 1) b off 0 (es.take q) (es.drop (q + 1)) _ ((FA.below (balloc _ _).drew).take q) (by rw [hde]; intro j u hu; simp [flat] at hu) (by rw [lt]; omega) (by rw [hde]; simp) (by rw [lt]; simp) (by rw [hde]; simp)).mono ?_; rintro e w3 ⟨ao, cp, rfl, hown, hb3⟩; have B3 := btrans (balloc _ _).drew hb3; have B4 := btrans HB2 B3; obtain ⟨x0', x1'⟩ := X2.below B3; obtain ⟨⟨b0', b1'⟩, f0', f1'⟩ := blk2 (blk_below K2 B3)))
      rw [erase_parts] at hown
      clear x0 x1 b0 b1 f0 f1
      go_wp2
      refine bodyPost_ret (v := .agg #[.int .i64 n, .slice ao (q) cp]) (by simp [results, Try.results26, go_sem, b0', b1']) rfl ⟨ao, cp, by rw [LE.out]; rw [hlq]; simp, ?_, ?_⟩
      · exact Go.Joins.ownsRow_le (ownsRow_setCell_below (ownsRow_setCell_below hown (by simp; omega) _) (by simp; omega) _) (by simp; omega)
      · exact below_set (by omega) (below_set (by omega) B4)
    · go_wp2_with fail
      go_region_held3 (fun w' => w'.cell? ⟨w.heap.size, 0, none⟩ = some (.int .i64 n) ∧ w'.cell? ⟨w.heap.size, 1, none⟩ = some (.slice (some ⟨b, off, none⟩) es.length p)) (go_keep) (first | (go_at_call 56; refine (c56 w2.heap.size b off p b (off + (q + 1) * 4) (p - (q + 1)) (es.take q) (es.drop (q + 1)) _ ((FA.below (balloc _ _).drew).take q) ((FA.below (balloc _ _).drew).drop (q + 1)) (by rw [lt]; omega) (by rw [ld]; omega) (by rw [lt]; simp) (by rw [ld]; simp)).mono ?_; rintro e w3 ⟨ao, cp, rfl, hown, hb3⟩; have B3 := btrans (balloc _ _).drew hb3; have B4 := btrans HB2 B3; obtain ⟨x0', x1'⟩ := X2.below B3; obtain ⟨⟨b0', b1'⟩, f0', f1'⟩ := blk2 (blk_below K2 B3)))
      rw [erase_parts] at hown
      clear x0 x1 b0 b1 f0 f1
      go_wp2
      refine bodyPost_ret (v := .agg #[.int .i64 n, .slice ao (q + (es.length - (q + 1))) cp]) (by simp [results, Try.results26, go_sem, b0', b1']) rfl ⟨ao, cp, by rw [LE.out], ?_, ?_⟩
      · exact Go.Joins.ownsRow_le (ownsRow_setCell_below (ownsRow_setCell_below hown (by simp; omega) _) (by simp; omega) _) (by simp; omega)
      · exact below_set (by omega) (below_set (by omega) B4)
  · rw [show cutN n es x = 0 from if_neg hgate, show cutE n es x = [] from if_neg hgate]
    cases hn : netB n es
    · go_enter Try.func26, Try.ntmps26
      go_wp2_with fail
      refine (c31 a p n es _ E0 hl).mono ?_
      rintro e w1 ⟨rfl, hb1⟩
      have HB1 := btrans hW hb1
      obtain ⟨⟨b0, b1⟩, f0, f1⟩ := blk2 (blk_below K0 hb1)
      rw [hn]
      clear hb1
      go_wp2
      refine bodyPost_ret (v := .agg #[.int .i64 0, .slice none 0 0]) (by simp [results, Try.results26, go_sem, b0, b1]) rfl ⟨none, 0, rfl, World.ownsRow_nil _ _ _ _, ?_⟩
      exact below_set (by omega) (below_set (by omega) HB1)
    · have hx : placeB es.length x = false := by
        cases h : placeB es.length x
        · rfl
        · exact absurd ⟨hn, h⟩ hgate
      go_enter Try.func26, Try.ntmps26
      go_wp2_with fail
      refine (c31 a p n es _ E0 hl).mono ?_
      rintro e w1 ⟨rfl, hb1⟩
      have HB1 := btrans hW hb1
      have X1 := X0.below hb1
      have K1 := blk_below K0 hb1
      obtain ⟨x0, x1⟩ := id X1
      rw [hn]
      clear hb1 hgate
      go_wp2_with fail
      clear x0 x1
      refine (c55 _ _ _ _ _ _).mono ?_
      rintro e w2 ⟨rfl, hb2⟩
      have HB2 := btrans HB1 hb2
      obtain ⟨⟨b0, b1⟩, f0, f1⟩ := blk2 (blk_below K1 hb2)
      rw [hx]
      clear hb2
      go_wp2
      refine bodyPost_ret (v := .agg #[.int .i64 0, .slice none 0 0]) (by simp [results, Try.results26, go_sem, b0, b1]) rfl ⟨none, 0, rfl, World.ownsRow_nil _ _ _ _, ?_⟩
      exact below_set (by omega) (below_set (by omega) HB2)
end Go.Proofs.Ytengfldiiceieaa
