/- The program's soonest stretch, and its minute. -/
import Derived.Test.YtpfnnpgielnaeaaSH
namespace Go.Proofs.Ytpfnnpgielnaeaa
open Go.RowKit Go.Maps

def ptrOf (bks : List Nat) : Option Nat → Value
  | none => .pointer none
  | some b => .pointer (some ⟨bks.getD b 0, 0, none⟩)
def SsPost (w : World) (ts : List TripV) (f tn m ch h : Int) (e : Ending) (w' : World) : Prop :=
  Below w.heap.size w w' ∧ ((¬ AskP ts f tn m ch h ∧ e = .returned (.pointer none)) ∨
    (AskP ts f tn m ch h ∧ ∃ gr bks R o, e = .returned (ptrOf bks o) ∧ Bf ts ⟨f, m⟩ ch h.toNat R R.length ∧ Bx ts ⟨f, m⟩ ch h.toNat R R.length ∧ Told w' w.heap.size gr bks R ∧ Best R tn R.length o))

set_option maxRecDepth 20000 in
set_option maxHeartbeats 3200000 in
theorem cStretch (a : Option Addr) (cap : Nat) (ts : List TripV) (f tn m ch h : Int) (w : World) (hz : Trips w a ts) (hS : Small ts) :
    Calls Try.prog 44 #[.slice a ts.length cap, .int .i64 f, .int .i64 tn, .int .i64 m, .int .i64 ch, .int .i64 h] w (SsPost w ts f tn m ch h) := by
  go_enter Try.func44, Try.ntmps44
  go_wp2_with fail
  refine (cAskI a cap ts f tn m ch h _ hz hS).mono ?_
  rintro e w1 ⟨r, rfl, hr, hb⟩
  cases r
  · have hF : SsPost w ts f tn m ch h (.returned (.pointer none)) w1 := ⟨hb, .inl ⟨fun q => absurd (hr.2 q) (by decide), rfl⟩⟩
    clear hr
    go_wp2
    go_ret
    exact hF
  have hq := hide (hr.1 rfl)
  clear hr
  obtain ⟨hg, hf, ht, hm, hc, hh⟩ := hq.out.parts
  obtain ⟨H, rfl⟩ : ∃ H : Nat, h = H := ⟨h.toNat, by omega⟩
  have CS := cSearched a cap ts f m ch H w1 (hz.below hb) hg hf.1 hf.2 hm.1 hm.2 hc.1 hc.2 (by omega)
  clear hg hf ht hm hc hh
  go_wp2_with fail
  refine CS.mono ?_
  rintro e w2 ⟨gr, c, bks, R, rfl, hBf, hBx, T0, hb2⟩
  have HB := btrans hb hb2
  have hR289 : R.length ≤ 289 := hBf.short (table_gd hq.out.1)
  have hbx := hide hBx
  have hbf := hide hBf
  have T : Told w2 w.heap.size gr bks R := ⟨T0.len, T0.row, T0.st, fun j hj => Nat.le_trans hb.size (T0.nb j hj), T0.nd⟩
  clear CS hBx hb hb2 hBf T0
  go_wp2
  go_loopw [13, 31] (fun s ii wr => ∃ (i : Nat) (o : Option Nat), i ≤ R.length ∧ ii = .int .i64 i ∧ s = ptrOf bks o ∧ Best R tn i o ∧ Told wr w.heap.size gr bks R ∧ Below w.heap.size w wr) (fun _ ii _ => R.length - (intOf ii).toNat)
  case atStart => exact ⟨0, none, Nat.zero_le _, rfl, rfl, best_start R tn, T, HB⟩
  case round =>
    clear T HB
    obtain ⟨i, o, hil, rfl, rfl, hB, Tr, HBr⟩ := hrel
    by_cases hlt : i < R.length
    · have hlt' : (i : Int) < (R.length : Int) := by omega
      have t0 := Tr.row i hlt
      have hst := Tr.st i hlt
      obtain ⟨-, -, -, y3, y4, -⟩ := six_cells (by unfold recCells at hst; exact hst)
      have hlast : Hid (ptrOf bks (some i) = .pointer (some ⟨bks.getD i 0, 0, none⟩)) := rfl
      have hBs := hide (fun (h : (R.getD i Rec.zero).n ≠ tn) => best_skip hB h)
      by_cases hn : (R.getD i Rec.zero).n = tn
      · have hn1 : ((R.getD i Rec.zero).n == tn) = true := by simpa using hn
        cases o with
        | none =>
          have hB2 := best_first hB hn
          generalize (R.getD i Rec.zero).n = qn at *
          generalize (R.getD i Rec.zero).m = qm at *
          subst hn
          clear hB hBs hst hn1
          have hp : Hid (Value.pointer (some ⟨bks.getD i 0, 0, none⟩) = ptrOf bks (some i)) := rfl
          generalize bks.getD i 0 = g at *
          simp only [ptrOf]
          go_wp2_with fail
          go_quiet (fail)
          go_wp2
          go_roundw
          case rel => exact ⟨i + 1, some i, by omega, by go_num, hp.out, hB2, Tr.below (bdraw (Below.refl _ _) _), bdraw HBr _⟩
          case measure => simp [intOf]; omega
        | some b =>
          have hbl : b < R.length := by
            rcases hB with ⟨h, _⟩ | ⟨b', h1, h2, _⟩
            · cases h
            · cases h2; omega
          have hsb := Tr.st b hbl
          obtain ⟨-, -, -, -, u4, -⟩ := six_cells (by unfold recCells at hsb; exact hsb)
          have hBl := hide (fun h => best_less hB hn h)
          have hBk := hide (fun h => best_keep hB h)
          have hp : Hid (Value.pointer (some ⟨bks.getD i 0, 0, none⟩) = ptrOf bks (some i)) := rfl
          have hp2 : Hid (Value.pointer (some ⟨bks.getD b 0, 0, none⟩) = ptrOf bks (some b)) := rfl
          generalize (R.getD i Rec.zero).n = qn at *
          generalize (R.getD i Rec.zero).m = qm at *
          generalize (R.getD b Rec.zero).m = bm at *
          subst hn
          clear hB hBs hst hsb hn1 hbl
          simp only [ptrOf]
          generalize bks.getD i 0 = g at *
          generalize bks.getD b 0 = gb at *
          by_cases hl : qm < bm
          · have hB2 := hBl.out hl
            clear hBl hBk
            go_wp2_with fail
            go_quiet (fail)
            go_wp2
            go_roundw
            case rel => exact ⟨i + 1, some i, by omega, by go_num, hp.out, hB2, Tr.below (bdraw (Below.refl _ _) _), bdraw HBr _⟩
            case measure => simp [intOf]; omega
          · have hB2 := hBk.out hl
            clear hBl hBk
            go_wp2_with fail
            go_quiet (fail)
            go_wp2
            go_roundw
            case rel => exact ⟨i + 1, some b, by omega, by go_num, hp2.out, hB2, Tr.below (bdraw (Below.refl _ _) _), bdraw HBr _⟩
            case measure => simp [intOf]; omega
      · have hB2 := hBs.out hn
        have hn1 : ((R.getD i Rec.zero).n == tn) = false := by simpa using hn
        generalize (R.getD i Rec.zero).n = qn at *
        generalize (R.getD i Rec.zero).m = qm at *
        generalize bks.getD i 0 = g at *
        clear hst hB hBs hlast
        go_wp2_with fail
        go_quiet (fail)
        go_wp2
        go_roundw
        case rel => exact ⟨i + 1, o, by omega, by go_num, rfl, hB2, Tr.below (bdraw (Below.refl _ _) _), bdraw HBr _⟩
        case measure => simp [intOf]; omega
    · have hlt' : ¬ (i : Int) < (R.length : Int) := by omega
      have hii : i = R.length := by omega
      rw [hii] at hB
      have hF : SsPost w ts f tn m ch H (.returned (ptrOf bks o)) wr := ⟨HBr, .inr ⟨hq.out, gr, bks, R, o, rfl, hbf.out, hbx.out, Tr, hB⟩⟩
      clear hii hB Tr HBr
      go_wp2
      go_ret
      exact hF

set_option maxHeartbeats 1600000 in
theorem cSoonI (a : Option Addr) (cap : Nat) (ts : List TripV) (f tn m ch h : Int) (w : World) (hz : Trips w a ts) (hS : Small ts) :
    Calls Try.prog 14 #[.slice a ts.length cap, .int .i64 f, .int .i64 tn, .int .i64 m, .int .i64 ch, .int .i64 h] w fun e w' => ∃ r, e = .returned (.int .i64 r) ∧ SoonAns ts f tn m ch h r ∧ Below w.heap.size w w' := by
  go_enter Try.func14, Try.ntmps14
  go_wp2_with fail
  refine (cStretch a cap ts f tn m ch h _ hz hS).mono ?_
  rintro e w1 ⟨hb, ⟨hq, rfl⟩ | ⟨hq, gr, bks, R, o, rfl, hBf, -, T, hB⟩⟩
  · have hF : SoonAns ts f tn m ch h (-1) := .inl ⟨hq, rfl⟩
    clear hq
    go_wp2
    go_ret
    exact ⟨_, rfl, hF, hb⟩
  · have hF : SoonAns ts f tn m ch h (minuteOf R o) := .inr ⟨hq, best_soon hBf hB⟩
    cases o with
    | none =>
      simp only [ptrOf]
      clear hq hBf T hB
      have hF' : SoonAns ts f tn m ch h (-1) := hF
      clear hF
      go_wp2
      go_ret
      exact ⟨_, rfl, hF', hb⟩
    | some b =>
      have hbl : b < R.length := by
        rcases hB with ⟨h, _⟩ | ⟨b', h1, h2, _⟩
        · cases h
        · cases h2; omega
      have hsb := T.st b hbl
      obtain ⟨-, -, -, -, u4, -⟩ := six_cells (by unfold recCells at hsb; exact hsb)
      have hF' : SoonAns ts f tn m ch h (R.getD b Rec.zero).m := hF
      simp only [ptrOf]
      clear hq hBf T hB hF hsb hbl
      generalize (R.getD b Rec.zero).m = bm at *
      generalize bks.getD b 0 = gb at *
      go_wp2
      go_ret
      exact ⟨_, rfl, hF', hb⟩
end Go.Proofs.Ytpfnnpgielnaeaa
