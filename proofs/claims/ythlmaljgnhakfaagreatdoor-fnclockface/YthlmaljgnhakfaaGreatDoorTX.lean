/- The text of a trip: both texts compute one list of bytes. -/
import Derived.Test.YthlmaljgnhakfaaGreatDoorTT
import Derived.Test.YthlmaljgnhakfaaGreatDoorF
import Derived.Test.YthlmaljgnhakfaaGreatDoorG
import Derived.Deep.RegionHeld3
import Derived.Deep.AppendLies
namespace Go.Proofs.YthlmaljgnhakfaaGreatDoor
open Go.RowKit
/-- What is told of a call. -/
def callL (c : HaltV) : List UInt8 := Lib.decDigits c.n.toNat ++ (64 :: (tt c.a ++ (45 :: tt c.d)))
def restL (cs : List HaltV) : List UInt8 := cs.flatMap fun c => 32 :: callL c
def tripL (t : TripV) : List UInt8 := if tripB t = true then t.name.data.toList ++ restL t.calls else []
theorem restL_snoc (cs : List HaltV) (c : HaltV) : restL (cs ++ [c]) = restL cs ++ (32 :: callL c) := by simp [restL]
theorem tt_le (m : Int) : (tt m).length ≤ 23 := by
  unfold tt
  split
  · have h1 := two_le (m.toNat / 60) (by omega)
    have h2 := two_le (m.toNat % 60) (by omega)
    simp [ttL]; omega
  · simp
theorem callL_le {c : HaltV} (h0 : 0 ≤ c.n) (h1 : c.n ≤ 29) : (callL c).length ≤ 60 := by
  have e1 := tt_le c.a
  have e2 := tt_le c.d
  have e3 := dec_le c.n.toNat (by omega)
  simp [callL]; omega
theorem join_words (x : List UInt8) (ws : List (List UInt8)) : Lib.join (x :: ws) [32] = x ++ ws.flatMap (fun w => 32 :: w) := by
  unfold Lib.join
  induction ws generalizing x with
  | nil => simp [List.intercalate, List.intersperse]
  | cons y ys ih =>
    rw [List.flatMap_cons]
    have := ih y
    simp only [List.intercalate] at this ⊢
    rw [List.intersperse_cons_cons]
    simp only [List.flatten_cons, this]
    simp
theorem own_one (w : World) (x : Value) (e : Nat) : (w.alloc (.cells #[x] e)).ownsRow w.heap.size e 1 (.slice (some ⟨w.heap.size, 0, none⟩) 1 1) 1 [x] := by
  refine ⟨rfl, .inr ⟨w.heap.size, 1, #[x], rfl, Nat.le_refl _, ?_, Nat.le_refl _, by unfold maxLen; omega, rfl, rfl⟩⟩
  show (w.heap.push _)[w.heap.size]? = _
  simp
theorem infoStr : (Tryz.prog.info? 9).map (fun i => (i.zero, i.size, i.bytes)) = some (some (.string ⟨#[]⟩), 1, 16) := by kernel_rfl
/-- The words of a trip's text. -/
def wordsB (s : ByteArray) (cs : List HaltV) : List ByteArray := s :: cs.map fun c => ⟨(callL c).toArray⟩
theorem wordsB_len (s : ByteArray) (cs : List HaltV) : (wordsB s cs).length = cs.length + 1 := by simp [wordsB]
theorem wordsB_step (s : ByteArray) {cs : List HaltV} {k : Nat} (hk : k < cs.length) : (wordsB s (cs.take (k + 1))).map Value.string = (wordsB s (cs.take k)).map Value.string ++ [.string ⟨(callL (cs.getD k HaltV.zero)).toArray⟩] := by
  have e : cs.getD k HaltV.zero = cs[k] := by simp [List.getD, hk]
  rw [List.take_succ_eq_append_getElem hk, e]; unfold wordsB; rw [List.map_append, List.map_cons, List.map_append]; rfl
theorem join_trip (s : ByteArray) (cs : List HaltV) : Lib.join ((wordsB s cs).map (·.data.toList)) [32] = s.data.toList ++ restL cs := by
  unfold wordsB restL
  rw [List.map_cons, join_words]
  congr 1
  induction cs with
  | nil => rfl
  | cons c cs ih => simp [List.flatMap_cons] at ih ⊢; rw [ih]
theorem restL_le {cs : List HaltV} (h : cs.all callB = true) : (restL cs).length ≤ 61 * cs.length := by
  induction cs with
  | nil => simp [restL]
  | cons c cs ih =>
    rw [List.all_cons, Bool.and_eq_true] at h
    have h1 := ih h.2
    have h2 : 0 ≤ c.n ∧ c.n ≤ 29 := by
      have := h.1
      simp only [callB, Bool.and_eq_true] at this
      exact inB_true this.1.1
    have h3 := callL_le h2.1 h2.2
    have e : restL (c :: cs) = (32 :: callL c) ++ restL cs := rfl
    rw [e]; simp; omega
theorem one_block' (w : World) (o : Obj) : (w.alloc o).heap[w.heap.size]? = some o := by
  show (w.heap.push o)[w.heap.size]? = _
  simp
theorem text5 (a b c : List UInt8) : ((((⟨a.toArray⟩ : ByteArray) ++ ⟨#[64]⟩) ++ ⟨b.toArray⟩) ++ ⟨#[45]⟩) ++ ⟨c.toArray⟩ = ⟨(a ++ (64 :: (b ++ (45 :: c)))).toArray⟩ := by
  rw [show (⟨#[64]⟩ : ByteArray) = ⟨[64].toArray⟩ from rfl, show (⟨#[45]⟩ : ByteArray) = ⟨[45].toArray⟩ from rfl, str_append, str_append, str_append, str_append]
  simp

set_option maxRecDepth 100000 in
set_option maxHeartbeats 3200000 in
theorem cText (c : HaltV) (w : World) (ht : Tab w) (h0 : 0 ≤ c.n) (h1 : c.n ≤ 29) :
    Calls Tryz.prog 23 #[c.val] w fun e w' => e = .returned (S (callL c)) ∧ Below w.heap.size w w' := by
  obtain ⟨n, a, d⟩ := c
  unfold HaltV.val
  dsimp only at *
  obtain ⟨x, rfl⟩ : ∃ x : Nat, n = x := ⟨n.toNat, by omega⟩
  have E : Hid (callL ⟨x, a, d⟩ = Lib.decDigits x ++ (64 :: (tt a ++ (45 :: tt d)))) := rfl
  have hb := balloc w (.cells #[.int .i64 x, .int .i64 a, .int .i64 d] 33)
  have CI := fun w ht => cItoa x w ht (by omega)
  have l1 := dec_le x (by omega)
  have l2 := tt_le a
  have l3 := tt_le d
  have CA := fun w ht => cTimeI a w ht
  have CD := fun w ht => cTimeI d w ht
  generalize callL ⟨x, a, d⟩ = R at *
  generalize Lib.decDigits x = A at *
  generalize tt a = B at *
  generalize tt d = C at *
  have c0 : (w.alloc (.cells #[.int .i64 x, .int .i64 a, .int .i64 d] 33)).cell? ⟨w.heap.size, 0, none⟩ = some (.int .i64 x) := by simp [go_sem]
  have c1 : (w.alloc (.cells #[.int .i64 x, .int .i64 a, .int .i64 d] 33)).cell? ⟨w.heap.size, 1, none⟩ = some (.int .i64 a) := by simp [go_sem]
  have c2 : (w.alloc (.cells #[.int .i64 x, .int .i64 a, .int .i64 d] 33)).cell? ⟨w.heap.size, 2, none⟩ = some (.int .i64 d) := by simp [go_sem]
  go_enter Tryz.func23, Tryz.ntmps23
  go_wp2_with fail
  generalize (w.alloc (.cells #[.int .i64 x, .int .i64 a, .int .i64 d] 33)) = V at *
  have htV := ht.below hb
  have n1 : ¬ 9223372036854775807 < A.length + 1 := by omega
  have n2 : ¬ 9223372036854775807 < A.length + 1 + B.length := by omega
  have n3 : ¬ 9223372036854775807 < A.length + 1 + B.length + 1 := by omega
  have n4 : ¬ 9223372036854775807 < A.length + 1 + B.length + 1 + C.length := by omega
  have htd : Tab V.drew := htV.below (bdraw (Below.refl _ _) 1)
  go_region_held3 (fun w' => w'.cell? ⟨w.heap.size, 0, none⟩ = some (.int .i64 x) ∧ w'.cell? ⟨w.heap.size, 1, none⟩ = some (.int .i64 a) ∧ w'.cell? ⟨w.heap.size, 2, none⟩ = some (.int .i64 d)) (go_keep) (first
    | (go_at_call 38; with_reducible refine (CD _ (htV.below Bb)).mono ?_; rintro e wc ⟨rfl, hbc⟩; have Bc := btrans Bb hbc; have z0 := ble Bc c0; have z1 := ble Bc c1; have z2 := ble Bc c2)
    | (go_at_call 38; with_reducible refine (CA _ (htV.below Ba)).mono ?_; rintro e wb ⟨rfl, hbb⟩; have Bb := btrans Ba hbb; have y0 := ble Bb c0; have y1 := ble Bb c1; have y2 := ble Bb c2)
    | (go_at_call 17; with_reducible refine (CI _ htd).mono ?_; rintro e wa ⟨rfl, hba⟩; have Ba := undrew hba; have x0 := ble Ba c0; have x1 := ble Ba c1; have x2 := ble Ba c2))
  go_wp2
  go_ret
  exact ⟨by rw [E.out]; exact congrArg (fun b => Ending.returned (.string b)) (text5 A B C), btrans hb Bc⟩

set_option maxRecDepth 100000 in
set_option maxHeartbeats 3200000 in
theorem cTextI (s : ByteArray) (a : Option Addr) (cap : Nat) (cs : List HaltV) (w : World) (ht : Tab w) (hz : Halts w a cs) (hl : cs.length ≤ 1048576) (hcap : cs.length ≤ cap) :
    Calls Tryz.prog 10 #[.agg #[.string s, .slice a cs.length cap]] w fun e w' => e = .returned (S (tripL ⟨s, cs⟩)) ∧ Below w.heap.size w w' := by
  have E : Hid (tripL ⟨s, cs⟩ = (if tripB ⟨s, cs⟩ = true then s.data.toList ++ restL cs else [])) := rfl
  generalize tripL ⟨s, cs⟩ = res at *
  have hb := balloc w (.cells #[.string s, .slice a cs.length cap] 26)
  have A0 := one_block' w (.cells #[.string s, .slice a cs.length cap] 26)
  go_enter Tryz.func10, Tryz.ntmps10
  go_wp2_with fail
  refine (cTripI s a cap cs _ (hz.below hb) hl hcap).mono ?_
  rintro e w1 ⟨rfl, hw⟩
  have HB := btrans hb hw
  replace A0 := blk_keep hw A0
  clear hb hw
  cases hT : tripB ⟨s, cs⟩
  · have hq := hide (show res = [] by rw [E.out, hT, if_neg (by simp)])
    clear E hT
    go_wp2
    go_ret
    exact ⟨by rw [hq.out]; rfl, HB⟩
  have hq := hide (show res = s.data.toList ++ restL cs by rw [E.out, hT, if_pos rfl])
  clear E
  simp only [tripB, Bool.and_eq_true] at hT
  obtain ⟨⟨⟨hn1, hn2⟩, hall⟩, -⟩ := hT
  obtain ⟨l1, l2⟩ := inB_true hn2
  have hns : s.size ≤ 12 := by
    simp only [nameB, Bool.and_eq_true] at hn1
    have := (inB_true hn1.2).2
    omega
  clear hn1 hn2
  have ht1 := ht.below HB
  obtain ⟨⟨x0, x1⟩, -⟩ := blk2 A0
  have hlw := lt_of_block A0
  obtain ⟨i0, hi, hz0, hz1, hz2⟩ := info_parts infoStr
  have O0 : (w1.alloc (.cells #[.string s] 9)).ownsRow w1.heap.size 9 1 (.slice (some ⟨w1.heap.size, 0, none⟩) 1 1) 1 ((wordsB s (cs.take 0)).map Value.string) := own_one w1 (.string s) 9
  have hbA := balloc w1 (.cells #[.string s] 9)
  have hcall : Hid (∀ k, k < cs.length → 0 ≤ (cs.getD k HaltV.zero).n ∧ (cs.getD k HaltV.zero).n ≤ 29) := hide (fun k hk => by
    have e : cs.getD k HaltV.zero = cs[k] := by simp [List.getD, hk]
    have h := List.all_eq_true.1 hall _ (List.getElem_mem hk)
    rw [e]
    simp only [callB, Bool.and_eq_true] at h
    exact inB_true h.1.1)
  have hlen := restL_le hall
  have hrl : (s.data.toList ++ restL cs).length ≤ 2000 := by rw [List.length_append, size_list]; omega
  replace hrl := hide hrl
  clear hlen hall
  have hz1' := hz.below HB
  go_wp2
  go_loopw [3, 15] (fun v i wr => ∃ k : Nat, k ≤ cs.length ∧ i = .int .i64 k ∧ wr.ownsRow w1.heap.size 9 1 v (k + 1) ((wordsB s (cs.take k)).map Value.string) ∧ Below w1.heap.size w1 wr) (fun _ i _ => cs.length - (intOf i).toNat)
  case atStart => exact ⟨0, by omega, rfl, O0, hbA⟩
  case round =>
    obtain ⟨k, hk, rfl, ho, hbr⟩ := hrel
    clear O0 hbA x0 x1
    by_cases hlt : k < cs.length
    · have hlt' : (k : Int) < (cs.length : Int) := by omega
      obtain ⟨va, vc, rfl⟩ := own_form ho
      have S1 := hide (wordsB_step s hlt)
      obtain ⟨g0, g1⟩ := hcall.out k hlt
      rcases hz1' with h | ⟨b, off, rfl, hc⟩
      · simp [h] at hlt
      obtain ⟨q0, q1, q2⟩ := hc k hlt
      replace q0 := ble hbr q0
      replace q1 := ble hbr q1
      replace q2 := ble hbr q2
      have CT := fun w ht => cText (cs.getD k HaltV.zero) w ht g0 g1
      have hcl := callL_le g0 g1
      generalize callL (cs.getD k HaltV.zero) = L at *
      generalize cs.getD k HaltV.zero = y at *
      obtain ⟨n, ar, d⟩ := y
      unfold HaltV.val at CT
      dsimp only at *
      have hb1 := balloc wr (.cells #[.int .i64 n, .int .i64 ar, .int .i64 d] 33)
      have ht2 : Tab (wr.alloc (.cells #[.int .i64 n, .int .i64 ar, .int .i64 d] 33)) := ht1.below (btrans hbr hb1)
      clear hc
      go_wp2_with fail
      refine (CT _ ht2).mono ?_
      rintro e w3 ⟨rfl, hb3⟩
      have ho3 := own_keep ho (btrans hb1 hb3)
      have hbw := btrans hbr (btrans hb1 hb3)
      have hN := one_block' w3 (.cells #[.string ⟨L.toArray⟩] 9)
      have hb4 := balloc w3 (.cells #[.string ⟨L.toArray⟩] 9)
      have ho4 := own_keep ho3 hb4
      have hbx := btrans hbw hb4
      clear CT ht2 hb1 hb3 ho3 hbw hb4 q0 q1 q2
      go_wp2_with (at_builtin; refine wpList_append_own _ rfl _ _ 53 rfl w1.heap.size 9 i0 _ 1 16 Tryz.underlying53 hi hz0 hz1 hz2 rfl (by decide) _ _ _ rfl ho4 ⟨w3.heap.size, 0, none⟩ 1 1 [.string ⟨L.toArray⟩] rfl rfl ?c1 ?c2 ?c3 ?c4 ?c5 ?_)
      case c1 => exact World.news_of_block hN
      case c2 => simp [Value.oneCell']
      case c3 => unfold maxLen; omega
      case c4 => omega
      case c5 => exact hbx.size
      intro v2 w5 hown hgrow _
      have hb5 := hbx.grown hgrow hbx.size (own_from ho4 (Nat.le_refl _))
      rw [← S1.out] at hown
      clear hgrow hN ho4 hbx ho S1
      go_wp2
      go_roundw
      case rel => exact ⟨k + 1, by omega, by go_num, hown, hb5⟩
      case measure => simp [intOf]; omega
    · have hlt' : ¬ ((k : Int) < (cs.length : Int)) := by omega
      obtain rfl : k = cs.length := by omega
      rw [List.take_length] at ho
      rcases ho.2 with ⟨_, h0⟩ | ⟨g, c2, cur, rfl, hg1, hg2, hg3, _⟩
      · omega
      have hcells : ∀ (j : Nat) x, (wordsB s cs)[j]? = some x → wr.cell? ⟨g, 0 + j, none⟩ = some (.string x) := fun j x hx => by
        have hj : j < (wordsB s cs).length := (List.getElem?_eq_some_iff.1 hx).1
        rw [wordsB_len] at hj
        rw [Nat.zero_add, ho.cellAt j (by omega), List.getElem?_map, hx]; rfl
      have CJ := Tryz.strings_Join g 0 c2 (wordsB s cs) ⟨#[32]⟩ wr hcells (lt_of_block hg2) (by rw [wordsB_len]; omega) (by rw [wordsB_len]; exact hg3) (by
        rw [show (⟨#[32]⟩ : ByteArray).data.toList = [32] from rfl, join_trip]; have := hrl.out; omega)
      rw [show (⟨#[32]⟩ : ByteArray).data.toList = [32] from rfl, join_trip, wordsB_len, ← hq.out] at CJ
      have hb9 := btrans HB hbr
      clear hcells hq ho hg2 hz1' hz hrl hcall
      go_wp2_with fail
      refine CJ.mono ?_
      rintro e w6 ⟨rfl, hb6⟩
      have hb7 := btrans hb9 hb6
      clear CJ
      go_wp2
      go_ret
      exact ⟨rfl, hb7⟩
end Go.Proofs.YthlmaljgnhakfaaGreatDoor
