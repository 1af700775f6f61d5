/- The model's CanFinish, FirstMove and Finish. -/
import Derived.Test.YtggdejceobagcaaL
namespace Go.Proofs.Ytggdejceobagcaa
open Go.RowKit

def canOk (ls : List Int) (ts : List SingleV) : Bool := singlesOk ls ts && canFin ls ts
def firstOf (ls : List Int) (ts : List SingleV) : Int := if singlesOk ls ts then (match firstT ls ts with | some i => (i : Int) | none => -1) else -1
def finR (ls : List Int) (ts : List SingleV) : List Int := if singlesOk ls ts then fin ls ts else []
theorem seen_none (ls : List Int) (m : Int) (ts : List SingleV) (N : Nat) : Seen ls m ts (List.replicate N false) := by
  intro q _ _ h
  rw [List.getD_eq_getElem?_getD, List.getElem?_replicate] at h
  split at h <;> simp at h

set_option maxRecDepth 20000 in
set_option maxHeartbeats 1600000 in
theorem cCanS (a b : Option Addr) (ca cb : Nat) (ls : List Int) (ts : List SingleV) (w : World) (hz : Ints w a ls) (hl : ls.length ≤ 1048576) (hza : ∀ x, a = some x → x.block < w.heap.size) (ht : Singles w b ts) (hzb : ∀ x, b = some x → x.block < w.heap.size) (hm : ts.length ≤ 1048576) :
    Calls Try.prog 17 #[.slice a ls.length ca, .slice b ts.length cb] w fun e w' => e = .returned (.bool (canOk ls ts)) ∧ Below w.heap.size w w' := by
  cases h1 : singlesOk ls ts
  · have hf := hide (show canOk ls ts = false by simp [canOk, h1])
    go_enter Try.func17, Try.ntmps17
    go_wp2_with fail
    refine (cSinglesS a b ca cb ls ts _ hz hl ht hm).mono ?_
    rintro e w1 ⟨rfl, hb⟩
    rw [h1]
    clear h1
    go_wp2
    go_ret
    exact ⟨ret_bool hf.out.symm, hb⟩
  have hf := hide (show canOk ls ts = canFin ls ts by simp [canOk, h1])
  obtain ⟨p1, p2, -⟩ := singlesOk_parts h1
  obtain ⟨-, hl2, hl5⟩ := lineOk_parts p1
  obtain ⟨i0, hi, hz0, hz1, hz2⟩ := info_parts infoBools
  have hpk : ∀ k, k ≤ 4 → ((2 * ls.length - 1) ^ k : Nat) ≤ 6561 := fun k hk => pow_le (by omega) hk
  have hps : ∀ k, (((2 * ls.length - 1) ^ (k + 1) : Nat) : Int) = (((2 * ls.length - 1) ^ k : Nat) : Int) * (2 * (ls.length : Int) - 1) := by
    intro k
    have e : (2 * (ls.length : Int) - 1) = ((2 * ls.length - 1 : Nat) : Int) := by omega
    rw [Nat.pow_succ, e]; simp
  obtain ⟨PW, hPW⟩ : ∃ P : Nat → Nat, P = fun k => (2 * ls.length - 1) ^ k := ⟨_, rfl⟩
  have hPk : ∀ k, (2 * ls.length - 1) ^ k = PW k := fun k => by rw [hPW]
  have CS := fun g w b cb h1' h2 h3 h4 h5 => cSearchS ls a ca g (PW ts.length) p1 h1' (far ts) ts (List.replicate (PW ts.length) false) b cb w rfl h1 h2 h3 h4 h5 (by rw [hPk]) (seen_none _ _ _ _)
  simp only [hPk] at hpk hps
  have hP0 : Hid (PW 0 = 1) := by show PW 0 = 1; rw [hPW]; rfl
  have hPn := hpk ts.length p2
  clear hPk hPW p1
  replace hpk := hide hpk
  replace hps := hide hps
  go_enter Try.func17, Try.ntmps17
  go_wp2_with fail
  refine (cSinglesS a b ca cb ls ts _ hz hl ht hm).mono ?_
  rintro e w1 ⟨rfl, hb⟩
  rw [h1]
  clear h1
  go_wp2
  go_loop [5, 6] (fun n i => ∃ k : Nat, k ≤ ts.length ∧ i = .int .i64 k ∧ n = .int .i64 (PW k)) (fun _ i => ts.length - (intOf i).toNat)
  case atStart => exact ⟨0, Nat.zero_le _, rfl, by rw [hP0.out]; rfl⟩
  case round =>
    obtain ⟨k, hk, rfl, rfl⟩ := hrel
    clear hP0
    by_cases hlt : k < ts.length
    · have b1 := hpk.out k (by omega)
      have b2 := hpk.out (k + 1) (by omega)
      have st := hps.out k
      generalize hq : PW k = n at *
      have w1 : IntKind.i64.wrap ((n : Int) * (2 * (ls.length : Int) - 1)) = (n : Int) * (2 * (ls.length : Int) - 1) := by
        rw [← st]; exact wrap_in _ (by omega) (by omega)
      have hF := hide st
      clear CS hpk hps st b1 b2 hPn hq
      go_wp2
      go_round
      case rel => exact ⟨k + 1, by omega, by go_num, by rw [hF.out]⟩
      case measure => simp [intOf]; omega
    · obtain rfl : k = ts.length := by omega
      generalize PW ts.length = N at *
      clear hpk hps
      have hs1 := hb.size
      go_wp2_with (at_make; refine wpList_make_full _ rfl _ _ 57 rfl w1.heap.size 4 i0 (.bool false) 1 Try.underlying57 hi hz0 hz1 _ _ _ _ N rfl rfl rfl rfl (by rw [hz2]; omega) (by unfold maxLen; omega) (Nat.le_refl _) ?_; intro w2 hown hgrow)
      have hown' : w2.ownsRow w1.heap.size 4 1 (.slice (some ⟨w1.heap.size, 0, none⟩) N N) N ((List.replicate N false).map Value.bool) := by
        rw [List.map_replicate]
        simpa [toList_madeCells_one, Value.cells] using hown
      have hb2 : Below w1.heap.size w1 w2 := (Below.refl _ _).grown hgrow (Nat.le_refl _) (fun k hk => by cases hk)
      have HB := btrans hb hb2
      clear hown hgrow
      refine (CS w1.heap.size _ b cb (fun x hx => by have := hza x hx; omega) (hz.below HB) (ht.below HB) (fun x hx => by have := hzb x hx; omega) (own_lower hown' (Nat.zero_le _))).mono ?_
      rintro e w3 ⟨S', rfl, -, G3, -⟩
      have HB3 : Below w.heap.size w w3 := HB.grown G3 HB.size (fun k hk => by cases hk; exact hs1)
      clear G3 HB hb2 hown' CS
      rw [← hf.out]
      go_wp2
      go_ret
      exact ⟨rfl, HB3⟩

theorem firstOf_good {ls : List Int} {ts : List SingleV} {i : Nat} (hok : singlesOk ls ts = true) (hi : i < ts.length) (h : goodI ls ts i = true) (hb : ∀ j, j < i → goodI ls ts j = false) : firstOf ls ts = i := by
  simp [firstOf, hok, firstT_some hi h hb]
theorem firstOf_none {ls : List Int} {ts : List SingleV} (h : ∀ i, i < ts.length → (singlesOk ls ts && goodI ls ts i) = false) : firstOf ls ts = -1 := by
  unfold firstOf
  split
  · next hok =>
    rw [firstT_none (fun i hi => by have := h i hi; rw [hok, Bool.true_and] at this; exact this)]
  · rfl
theorem own_lt {w : World} {base e sz n c : Nat} {a : Option Addr} {xs : List Value} (h : w.ownsRow base e sz (.slice a n c) n xs) : ∀ x, a = some x → x.block < w.heap.size := by
  intro x hx
  subst hx
  exact own_blk_lt h x.block rfl

set_option maxRecDepth 20000 in
set_option maxHeartbeats 1600000 in
theorem cFirstS (a b : Option Addr) (ca cb : Nat) (ls : List Int) (ts : List SingleV) (w : World) (hz : Ints w a ls) (hl : ls.length ≤ 1048576) (hza : ∀ x, a = some x → x.block < w.heap.size) (ht : Singles w b ts) (hm : ts.length ≤ 1048576) :
    Calls Try.prog 34 #[.slice a ls.length ca, .slice b ts.length cb] w fun e w' => e = .returned (.int .i64 (firstOf ls ts)) ∧ Below w.heap.size w w' := by
  have CM := fun (k : Nat) w' (h : Below w.heap.size w w') => cMoveOnS a b ca cb ls ts k w' (hz.below h) hl (ht.below h) hm
  have CC := fun b' cb' (q : List SingleV) w' (h : Below w.heap.size w w') h2 h3 h4 => cCanS a b' ca cb' ls q w' (hz.below h) hl (fun x hx => Nat.lt_of_lt_of_le (hza x hx) h.size) h2 h3 h4
  clear ht hz
  go_enter Try.func34, Try.ntmps34
  go_wp2
  go_loopw [5] (fun i wr => ∃ k : Nat, k ≤ ts.length ∧ i = .int .i64 k ∧ (∀ j, j < k → (singlesOk ls ts && goodI ls ts j) = false) ∧ Below w.heap.size w wr) (fun i _ => ts.length - (intOf i).toNat)
  case atStart => exact ⟨0, Nat.zero_le _, rfl, fun j h => by omega, Below.refl _ _⟩
  case round =>
    obtain ⟨k, hk, rfl, hbad, hb⟩ := hrel
    by_cases hlt : k < ts.length
    · have hbad2 : (singlesOk ls ts && goodI ls ts k) = false → ∀ j, j < k + 1 → (singlesOk ls ts && goodI ls ts j) = false := by
        intro h j hj
        by_cases e : j = k
        · rw [e]; exact h
        · exact hbad j (by omega)
      cases hmg : mayMove ls ts k
      · have hb3 := hbad2 (by
          cases hok : singlesOk ls ts
          · rfl
          · rw [mayMove_at hok hlt] at hmg; simp [goodI, hmg])
        have C := CM k
        rw [hmg] at C
        clear CM CC hbad hbad2 hmg
        go_wp2_with fail
        refine (C _ hb).mono ?_
        rintro e w3 ⟨v, rfl, -, hb4⟩
        have HB := btrans hb hb4
        clear C hb4 hb
        go_wp2
        go_roundw
        case rel => exact ⟨k + 1, by omega, by go_num, hb3, HB⟩
        case measure => simp [intOf]; omega
      · obtain ⟨hok, -, -, -, hgo⟩ := mayMove_parts hmg
        rw [Int.toNat_natCast] at hgo
        have C := CM k
        rw [hmg, moveR_at hok hlt hgo, moveT_len] at C
        have hcan : canOk ls (moveT ts k) = goodI ls ts k := by simp [canOk, move_ok hok hlt hgo, goodI, hgo]
        have CCk := fun b' cb' w' (h : Below w.heap.size w w') h2 h3 => CC b' cb' (moveT ts k) w' h h2 h3 (by rw [moveT_len]; exact hm)
        rw [hcan, moveT_len] at CCk
        have hgood : goodI ls ts k = true → firstOf ls ts = k := fun h => firstOf_good hok hlt h (fun j hj => by have := hbad j hj; rw [hok, Bool.true_and] at this; exact this)
        rw [hok, Bool.true_and] at hbad2
        generalize goodI ls ts k = y at *
        generalize moveT ts k = R at *
        replace hgood := hide hgood
        replace hbad2 := hide hbad2
        clear CM CC hbad hmg hgo hcan
        go_wp2_with fail
        refine (C _ hb).mono ?_
        rintro e w3 ⟨v, rfl, OV, hb4⟩
        have HB := btrans hb hb4
        obtain ⟨vo, vc, rfl⟩ := own_form OV
        have SV := Singles.own OV
        have LV := own_lt OV
        clear C hb4 hb OV
        go_wp2_with fail
        refine (CCk vo vc _ HB SV LV).mono ?_
        rintro e w4 ⟨rfl, hb5⟩
        have HB5 := btrans HB hb5
        clear CCk hb5 HB SV LV
        cases y
        · have hb6 := hbad2.out rfl
          clear hbad2 hgood
          go_wp2
          go_roundw
          case rel => exact ⟨k + 1, by omega, by go_num, by rw [hok]; simpa using hb6, HB5⟩
          case measure => simp [intOf]; omega
        · have hF := hide (hgood.out rfl)
          clear hbad2 hgood
          go_wp2
          go_ret
          exact ⟨ret_int hF.out.symm, HB5⟩
    · obtain rfl : k = ts.length := by omega
      have hF := hide (firstOf_none hbad)
      clear CM CC hbad
      go_wp2
      go_ret
      exact ⟨ret_int hF.out.symm, hb⟩
end Go.Proofs.Ytggdejceobagcaa
