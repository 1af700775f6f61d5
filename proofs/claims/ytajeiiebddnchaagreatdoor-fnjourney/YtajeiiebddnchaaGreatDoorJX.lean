/- The program's search, whole. -/
import Derived.Test.YtajeiiebddnchaaGreatDoorSG
import Derived.Test.YtajeiiebddnchaaGreatDoorLA
import Derived.Test.YtajeiiebddnchaaGreatDoorJL
namespace Go.Proofs.YtajeiiebddnchaaGreatDoor
open Go.RowKit Go.Maps

/-- What the search tells: its stretches, each in a block of its own. -/
structure Told (w' : World) (B gr : Nat) (bks : List Nat) (R : List Rec) : Prop where
  len : bks.length = R.length
  row : ∀ j, j < R.length → w'.cell? ⟨gr, j, none⟩ = some (.pointer (some ⟨bks.getD j 0, 0, none⟩))
  st : ∀ j, j < R.length → w'.heap[bks.getD j 0]? = some (.cells (recCells bks (R.getD j Rec.zero) j) 52 (0, 0))
  nb : ∀ j, j < R.length → B ≤ bks.getD j 0
  nd : ∀ i j, i < j → j < R.length → bks.getD i 0 ≠ bks.getD j 0
def SrPost (w : World) (ts : List TripV) (s : Qn) (ch : Int) (H : Nat) (e : Ending) (w' : World) : Prop :=
  ∃ gr c bks R, e = .returned (.slice (some ⟨gr, 0, none⟩) (List.length R) c) ∧ Bf ts s ch H R R.length ∧ Bx ts s ch H R R.length ∧ Told w' w.heap.size gr bks R ∧ Below w.heap.size w w'
theorem Told.below {w w' : World} {B gr : Nat} {bks : List Nat} {R : List Rec} (h : Told w B gr bks R) (hb : Below w.heap.size w w') : Told w' B gr bks R :=
  ⟨h.len, fun j hj => ble hb (h.row j hj), fun j hj => keep_blk hb (h.st j hj), h.nb, h.nd⟩
theorem Stt.row_at {w : World} {bs bm B : Nat} {lv v : Value} {ch : Int} {bks : List Nat} {R : List Rec} {D : DataW Unit} (h : Stt w bs bm B lv ch v bks R D) (h0 : 0 < R.length) :
    ∃ gr c, v = .slice (some ⟨gr, 0, none⟩) R.length c ∧ Told w B gr bks R := by
  rcases h.row.2 with ⟨_, e⟩ | ⟨g, c, cur, rfl, _⟩
  · omega
  · refine ⟨g, c, rfl, h.len, fun j hj => ?_, h.st, h.nb, h.nd⟩
    rw [h.row.cellAt j (by omega)]
    have : j < bks.length := by rw [h.len]; exact hj
    simp [ptrsOf, List.getD, this]
theorem stt_start (w : World) (lv : Value) (ch : Int) : Stt ((w.alloc (.map #[] 0)).alloc (.cells #[lv, .int .i64 ch, .map (some w.heap.size), .slice none 0 0] 99)) (w.heap.size + 1) w.heap.size w.heap.size lv ch (.slice none 0 0) [] [] (.map []) := by
  have hb := one_block (w.alloc (.map #[] 0)) (.cells #[lv, .int .i64 ch, .map (some w.heap.size), .slice none 0 0] 99)
  rw [sz1] at hb
  refine ⟨hb, World.ownsMap.alloc (World.ownsMap_made w Tryz.prog _ _) _, World.ownsRow_nil _ _ _ _, rfl, fun j hj => by simp at hj, fun j _ hj => by simp at hj, fun q _ => .inl ⟨look_empty q, rfl⟩, ⟨by omega, by omega⟩, fun j hj => by simp at hj, fun i j _ hj => by simp at hj⟩

set_option maxRecDepth 20000 in
set_option maxHeartbeats 3200000 in
theorem cSearched (a : Option Addr) (cap : Nat) (ts : List TripV) (f m ch : Int) (H : Nat) (w : World) (hz : Trips w a ts) (hg : Gd ts) (hf0 : 0 ≤ f) (hf1 : f ≤ 29) (hm0 : 0 ≤ m) (hm1 : m ≤ 100000) (hc0 : 0 ≤ ch) (hc1 : ch ≤ 60) (hH : H ≤ 5) :
    Calls Tryz.prog 37 #[.slice a ts.length cap, .int .i64 f, .int .i64 m, .int .i64 ch, .int .i64 H] w (SrPost w ts ⟨f, m⟩ ch H) := by
  have hmm := @run_makeMap Tryz.prog
  have S0 := stt_start w (.slice a ts.length cap) ch
  have hb0 := btrans (balloc w (.map #[] 0)) (balloc (w.alloc (.map #[] 0)) (.cells #[.slice a ts.length cap, .int .i64 ch, .map (some w.heap.size), .slice none 0 0] 99))
  have hba := balloc ((w.alloc (.map #[] 0)).alloc (.cells #[.slice a ts.length cap, .int .i64 ch, .map (some w.heap.size), .slice none 0 0] 99)) (.cells #[.int .i64 0, .int .i64 0, .int .i64 0, .int .i64 f, .int .i64 m, .pointer none] 52)
  have NB := one_block ((w.alloc (.map #[] 0)).alloc (.cells #[.slice a ts.length cap, .int .i64 ch, .map (some w.heap.size), .slice none 0 0] 99)) (.cells #[.int .i64 0, .int .i64 0, .int .i64 0, .int .i64 f, .int .i64 m, .pointer none] 52)
  rw [sz1, sz1] at NB
  have S1 := S0.below hba
  have hb1 := btrans hb0 hba
  have hsz := hb1.size
  have CA := cAsk (w.heap.size + 1) w.heap.size w.heap.size (w.heap.size + 1 + 1) (.slice a ts.length cap) (.slice none 0 0) ch [] [] (.map []) (startR ⟨f, m⟩) _ S1 NB ⟨⟨hf0, by show f ≤ _; omega⟩, hm0, by show m ≤ _; omega⟩ (Nat.zero_le _) (by simp) (by simp) hsz (by omega) (fun j hj => by simp at hj)
  have e1 : askF [] (startR ⟨f, m⟩) = [startR ⟨f, m⟩] := rfl
  have e2 : (((startR ⟨f, m⟩).lv : Nat) : Int) = 0 := rfl
  rw [e1, e2] at CA
  have hBf := bf_start ts ⟨f, m⟩ ch H
  have hBx := bx_start ts ⟨f, m⟩ ch H
  clear e1 e2 NB S0 hb0 hba hsz S1
  go_enter Tryz.func37, Tryz.ntmps37
  go_wp2_with fail
  refine CA.mono ?_
  rintro e w1 ⟨rfl, v1, bks1, D1, S1, -, -, hB1⟩
  have hb2 := hb1.trans hB1
  clear CA hb1 hB1
  generalize hbs : w.heap.size + 1 = bs at *
  replace hbs := hide hbs
  go_wp2
  go_loopw [12] (fun ii wr => ∃ (i : Nat) (v : Value) (bks : List Nat) (R : List Rec) (D : DataW Unit), ii = .int .i64 i ∧ Bf ts ⟨f, m⟩ ch H R i ∧ Bx ts ⟨f, m⟩ ch H R i ∧ Stt wr bs w.heap.size w.heap.size (.slice a ts.length cap) ch v bks R D ∧ Below w.heap.size w wr) (fun ii _ => 290 - (intOf ii).toNat)
  case atStart => exact ⟨0, v1, bks1, _, D1, rfl, hBf, hBx, S1, hb2⟩
  case round =>
    clear hBf hBx S1 hb2
    obtain ⟨i, v, bks, R, D, rfl, hBf, hBx, S, hb⟩ := hrel
    obtain ⟨gr, c, rfl, T⟩ := S.row_at hBf.pos
    have x2 := cell_of_blk (i := 2) S.blk rfl
    have x3 := cell_of_blk (i := 3) S.blk rfl
    have hsh := hBf.short hg
    have hle := hBf.le
    by_cases hlt : i < R.length
    · have hlt' : (i : Int) < (R.length : Int) := by omega
      have t0 := T.row i hlt
      have hst := T.st i hlt
      obtain ⟨-, -, -, y3, y4, -⟩ := six_cells (by unfold recCells at hst; exact hst)
      have hmem := getD_mem (d := Rec.zero) hlt
      obtain ⟨hJ, hlH⟩ := hBf.snd _ hmem
      have hQR : QR (R.getD i Rec.zero).q := by
        rcases Jr.most hg hJ with h | h
        · rw [h]; exact ⟨⟨hf0, by show f ≤ _; omega⟩, hm0, by show m ≤ _; omega⟩
        · exact ⟨⟨h.1, by omega⟩, h.2.2.1, by omega⟩
      have hlk : look D (R.getD i Rec.zero).q = some ((R.getD i Rec.zero).lv : Int) := by
        rcases S.look _ hQR with ⟨_, h2⟩ | ⟨r', h1, h2, h3⟩
        · have := hasQ_iff.2 ⟨_, hmem, rfl⟩; rw [h2] at this; cases this
        · obtain ⟨k, hk, ek⟩ := mem_getD (d := Rec.zero) h1
          have := nodup_q hBf.nd hk hlt (by rw [ek]; exact h2)
          subst this
          rw [ek]; exact ek ▸ h3
      have hrun := run_look_int (OM.below S.om (Below.refl _ _).drew) hQR hlk
      unfold qVal Rec.q at hrun
      dsimp only at hrun
      have hstep := bf_step hBf hlt
      have hstepx := bx_step hBf hBx hlt
      have hb0 : Below wr.heap.size wr wr.drew := (Below.refl _ _).drew
      have S2 := S.below hb0
      have hb2 := btrans hb hb0
      have hm1' : 0 ≤ (R.getD i Rec.zero).m ∧ (R.getD i Rec.zero).m ≤ 1000000 := hQR.2
      by_cases hlv : (R.getD i Rec.zero).lv < H
      · have hsF : stepF ts ch H R i = goF ts ch R i := by unfold stepF; rw [if_pos hlv]
        rw [hsF] at hstep hstepx
        have hlen := hstep.short hg
        have CG := cGoOn a cap ts w bs w.heap.size _ ch bks R D i wr.drew hz hg hb2 S2 hlt hc0 hc1 hm1'.1 hm1'.2 (by omega) (by omega)
        have elv : (((R.getD i Rec.zero).lv + 1 : Nat) : Int) = ((R.getD i Rec.zero).lv : Int) + 1 := by omega
        rw [elv] at CG
        have hlv' : ((R.getD i Rec.zero).lv : Int) < (H : Int) := by omega
        have hwl : IntKind.i64.wrap (((R.getD i Rec.zero).lv : Int) + 1) = ((R.getD i Rec.zero).lv : Int) + 1 := wrap_in _ (by omega) (by omega)
        replace hstep := hide hstep
        replace hstepx := hide hstepx
        generalize bks.getD i 0 = g at *
        generalize (R.getD i Rec.zero).lv = lv at *
        generalize (R.getD i Rec.zero).n = qn at *
        generalize (R.getD i Rec.zero).m = qm at *
        clear hmem hJ hlH hQR hlk S S2 T hst hsF elv hBx hm1' hb hb0 hb2 hle
        replace hBf := hide hBf
        go_wp2_with fail
        go_region
        go_wp2_with fail
        refine CG.mono ?_
        rintro e w2 ⟨rfl, v2, bks2, D2, S3, -, hb3⟩
        clear CG hrun x2 x3 t0 y3 y4
        go_wp2
        go_roundw
        case rel => exact ⟨i + 1, v2, bks2, _, D2, by go_num, hstep.out, hstepx.out, S3, hb3⟩
        case measure => simp [intOf]; omega
      · have hsF : stepF ts ch H R i = R := by unfold stepF; rw [if_neg hlv]
        rw [hsF] at hstep hstepx
        have hlv' : ¬ ((R.getD i Rec.zero).lv : Int) < (H : Int) := by omega
        replace hstep := hide hstep
        replace hstepx := hide hstepx
        generalize bks.getD i 0 = g at *
        generalize (R.getD i Rec.zero).lv = lv at *
        generalize (R.getD i Rec.zero).n = qn at *
        generalize (R.getD i Rec.zero).m = qm at *
        clear hmem hJ hlH hQR hlk S T hst hsF hBx hm1' hb hb0 hle
        replace hBf := hide hBf
        go_wp2_with fail
        go_region
        clear hrun
        go_wp2
        go_roundw
        case rel => exact ⟨i + 1, _, bks, _, D, by go_num, hstep.out, hstepx.out, S2, hb2⟩
        case measure => simp [intOf]; omega
    · have hlt' : ¬ (i : Int) < (R.length : Int) := by omega
      have hii : i = R.length := by omega
      rw [hii] at hBf hBx
      have hF : SrPost w ts ⟨f, m⟩ ch H (.returned (.slice (some ⟨gr, 0, none⟩) R.length c)) wr := ⟨gr, c, bks, R, rfl, hBf, hBx, T, hb⟩
      clear hii hBf hBx T S hb
      go_wp2
      go_ret
      exact hF
end Go.Proofs.YtajeiiebddnchaaGreatDoor

/- The program's soonest stretch, and its minute. -/
namespace Go.Proofs.YtajeiiebddnchaaGreatDoor
open Go.RowKit Go.Maps

def ptrOf (bks : List Nat) : Option Nat → Value
  | none => .pointer none
  | some b => .pointer (some ⟨bks.getD b 0, 0, none⟩)
def SsPost (w : World) (ts : List TripV) (f tn m ch h : Int) (e : Ending) (w' : World) : Prop :=
  Below w.heap.size w w' ∧ ((¬ AskP ts f tn m ch h ∧ e = .returned (.pointer none)) ∨
    (AskP ts f tn m ch h ∧ ∃ gr bks R o, e = .returned (ptrOf bks o) ∧ Bf ts ⟨f, m⟩ ch h.toNat R R.length ∧ Bx ts ⟨f, m⟩ ch h.toNat R R.length ∧ Told w' w.heap.size gr bks R ∧ Best R tn R.length o))

set_option maxRecDepth 20000 in
set_option maxHeartbeats 3200000 in
theorem cStretch (a : Option Addr) (cap : Nat) (ts : List TripV) (f tn m ch h : Int) (w : World) (hz : Trips w a ts) (hS : Small ts) :
    Calls Tryz.prog 17 #[.slice a ts.length cap, .int .i64 f, .int .i64 tn, .int .i64 m, .int .i64 ch, .int .i64 h] w (SsPost w ts f tn m ch h) := by
  go_enter Tryz.func17, Tryz.ntmps17
  go_wp2_with fail
  refine (cAskI a cap ts f tn m ch h _ hz hS).mono ?_
  rintro e w1 ⟨r, rfl, hr, hb⟩
  cases r
  · have hF : SsPost w ts f tn m ch h (.returned (.pointer none)) w1 := ⟨hb, .inl ⟨fun q => absurd (hr.2 q) (by decide), rfl⟩⟩
    clear hr
    go_wp2
    go_ret
    exact hF
  have hq := hide (hr.1 rfl)
  clear hr
  obtain ⟨hg, hf, ht, hm, hc, hh⟩ := hq.out.parts
  obtain ⟨H, rfl⟩ : ∃ H : Nat, h = H := ⟨h.toNat, by omega⟩
  have CS := cSearched a cap ts f m ch H w1 (hz.below hb) hg hf.1 hf.2 hm.1 hm.2 hc.1 hc.2 (by omega)
  clear hg hf ht hm hc hh
  go_wp2_with fail
  refine CS.mono ?_
  rintro e w2 ⟨gr, c, bks, R, rfl, hBf, hBx, T0, hb2⟩
  have HB := btrans hb hb2
  have hR289 : R.length ≤ 289 := hBf.short (table_gd hq.out.1)
  have hbx := hide hBx
  have hbf := hide hBf
  have T : Told w2 w.heap.size gr bks R := ⟨T0.len, T0.row, T0.st, fun j hj => Nat.le_trans hb.size (T0.nb j hj), T0.nd⟩
  clear CS hBx hb hb2 hBf T0
  go_wp2
  go_loopw [13, 31] (fun s ii wr => ∃ (i : Nat) (o : Option Nat), i ≤ R.length ∧ ii = .int .i64 i ∧ s = ptrOf bks o ∧ Best R tn i o ∧ Told wr w.heap.size gr bks R ∧ Below w.heap.size w wr) (fun _ ii _ => R.length - (intOf ii).toNat)
  case atStart => exact ⟨0, none, Nat.zero_le _, rfl, rfl, best_start R tn, T, HB⟩
  case round =>
    clear T HB
    obtain ⟨i, o, hil, rfl, rfl, hB, Tr, HBr⟩ := hrel
    by_cases hlt : i < R.length
    · have hlt' : (i : Int) < (R.length : Int) := by omega
      have t0 := Tr.row i hlt
      have hst := Tr.st i hlt
      obtain ⟨-, -, -, y3, y4, -⟩ := six_cells (by unfold recCells at hst; exact hst)
      have hlast : Hid (ptrOf bks (some i) = .pointer (some ⟨bks.getD i 0, 0, none⟩)) := rfl
      have hBs := hide (fun (h : (R.getD i Rec.zero).n ≠ tn) => best_skip hB h)
      by_cases hn : (R.getD i Rec.zero).n = tn
      · have hn1 : ((R.getD i Rec.zero).n == tn) = true := by simpa using hn
        cases o with
        | none =>
          have hB2 := best_first hB hn
          generalize (R.getD i Rec.zero).n = qn at *
          generalize (R.getD i Rec.zero).m = qm at *
          subst hn
          clear hB hBs hst hn1
          have hp : Hid (Value.pointer (some ⟨bks.getD i 0, 0, none⟩) = ptrOf bks (some i)) := rfl
          generalize bks.getD i 0 = g at *
          simp only [ptrOf]
          go_wp2_with fail
          go_quiet (fail)
          go_wp2
          go_roundw
          case rel => exact ⟨i + 1, some i, by omega, by go_num, hp.out, hB2, Tr.below (bdraw (Below.refl _ _) _), bdraw HBr _⟩
          case measure => simp [intOf]; omega
        | some b =>
          have hbl : b < R.length := by
            rcases hB with ⟨h, _⟩ | ⟨b', h1, h2, _⟩
            · cases h
            · cases h2; omega
          have hsb := Tr.st b hbl
          obtain ⟨-, -, -, -, u4, -⟩ := six_cells (by unfold recCells at hsb; exact hsb)
          have hBl := hide (fun h => best_less hB hn h)
          have hBk := hide (fun h => best_keep hB h)
          have hp : Hid (Value.pointer (some ⟨bks.getD i 0, 0, none⟩) = ptrOf bks (some i)) := rfl
          have hp2 : Hid (Value.pointer (some ⟨bks.getD b 0, 0, none⟩) = ptrOf bks (some b)) := rfl
          generalize (R.getD i Rec.zero).n = qn at *
          generalize (R.getD i Rec.zero).m = qm at *
          generalize (R.getD b Rec.zero).m = bm at *
          subst hn
          clear hB hBs hst hsb hn1 hbl
          simp only [ptrOf]
          generalize bks.getD i 0 = g at *
          generalize bks.getD b 0 = gb at *
          by_cases hl : qm < bm
          · have hB2 := hBl.out hl
            clear hBl hBk
            go_wp2_with fail
            go_quiet (fail)
            go_wp2
            go_roundw
            case rel => exact ⟨i + 1, some i, by omega, by go_num, hp.out, hB2, Tr.below (bdraw (Below.refl _ _) _), bdraw HBr _⟩
            case measure => simp [intOf]; omega
          · have hB2 := hBk.out hl
            clear hBl hBk
            go_wp2_with fail
            go_quiet (fail)
            go_wp2
            go_roundw
            case rel => exact ⟨i + 1, some b, by omega, by go_num, hp2.out, hB2, Tr.below (bdraw (Below.refl _ _) _), bdraw HBr _⟩
            case measure => simp [intOf]; omega
      · have hB2 := hBs.out hn
        have hn1 : ((R.getD i Rec.zero).n == tn) = false := by simpa using hn
        generalize (R.getD i Rec.zero).n = qn at *
        generalize (R.getD i Rec.zero).m = qm at *
        generalize bks.getD i 0 = g at *
        clear hst hB hBs hlast
        go_wp2_with fail
        go_quiet (fail)
        go_wp2
        go_roundw
        case rel => exact ⟨i + 1, o, by omega, by go_num, rfl, hB2, Tr.below (bdraw (Below.refl _ _) _), bdraw HBr _⟩
        case measure => simp [intOf]; omega
    · have hlt' : ¬ (i : Int) < (R.length : Int) := by omega
      have hii : i = R.length := by omega
      rw [hii] at hB
      have hF : SsPost w ts f tn m ch H (.returned (ptrOf bks o)) wr := ⟨HBr, .inr ⟨hq.out, gr, bks, R, o, rfl, hbf.out, hbx.out, Tr, hB⟩⟩
      clear hii hB Tr HBr
      go_wp2
      go_ret
      exact hF

set_option maxHeartbeats 1600000 in
theorem cSoonI (a : Option Addr) (cap : Nat) (ts : List TripV) (f tn m ch h : Int) (w : World) (hz : Trips w a ts) (hS : Small ts) :
    Calls Tryz.prog 7 #[.slice a ts.length cap, .int .i64 f, .int .i64 tn, .int .i64 m, .int .i64 ch, .int .i64 h] w fun e w' => ∃ r, e = .returned (.int .i64 r) ∧ SoonAns ts f tn m ch h r ∧ Below w.heap.size w w' := by
  go_enter Tryz.func7, Tryz.ntmps7
  go_wp2_with fail
  refine (cStretch a cap ts f tn m ch h _ hz hS).mono ?_
  rintro e w1 ⟨hb, ⟨hq, rfl⟩ | ⟨hq, gr, bks, R, o, rfl, hBf, -, T, hB⟩⟩
  · have hF : SoonAns ts f tn m ch h (-1) := .inl ⟨hq, rfl⟩
    clear hq
    go_wp2
    go_ret
    exact ⟨_, rfl, hF, hb⟩
  · have hF : SoonAns ts f tn m ch h (minuteOf R o) := .inr ⟨hq, best_soon hBf hB⟩
    cases o with
    | none =>
      simp only [ptrOf]
      clear hq hBf T hB
      have hF' : SoonAns ts f tn m ch h (-1) := hF
      clear hF
      go_wp2
      go_ret
      exact ⟨_, rfl, hF', hb⟩
    | some b =>
      have hbl : b < R.length := by
        rcases hB with ⟨h, _⟩ | ⟨b', h1, h2, _⟩
        · cases h
        · cases h2; omega
      have hsb := T.st b hbl
      obtain ⟨-, -, -, -, u4, -⟩ := six_cells (by unfold recCells at hsb; exact hsb)
      have hF' : SoonAns ts f tn m ch h (R.getD b Rec.zero).m := hF
      simp only [ptrOf]
      clear hq hBf T hB hF hsb hbl
      generalize (R.getD b Rec.zero).m = bm at *
      generalize bks.getD b 0 = gb at *
      go_wp2
      go_ret
      exact ⟨_, rfl, hF', hb⟩
end Go.Proofs.YtajeiiebddnchaaGreatDoor

/- The program's journey: the chain of stretches turned round. -/
namespace Go.Proofs.YtajeiiebddnchaaGreatDoor
open Go.RowKit Go.Maps
/-- A stretch in its block. -/
structure Nd where
  b : Nat
  t : Int
  k : Int
  l : Int
  n : Int
  m : Int
def hdN : List Nd → Option Addr
  | [] => none
  | x :: _ => some ⟨x.b, 0, none⟩
def ndObj (x : Nd) (p : Option Addr) : Obj := .cells #[.int .i64 x.t, .int .i64 x.k, .int .i64 x.l, .int .i64 x.n, .int .i64 x.m, .pointer p] 52 (0, 0)
/-- Each stretch is linked to the one behind it in the list. -/
def Ln (w : World) : List Nd → Prop
  | [] => True
  | x :: r => w.heap[x.b]? = some (ndObj x (hdN r)) ∧ Ln w r
theorem Ln.keep {w w' : World} : ∀ {xs : List Nd}, Ln w xs → (∀ x ∈ xs, w'.heap[x.b]? = w.heap[x.b]?) → Ln w' xs
  | [], _, _ => trivial
  | x :: _, ⟨h1, h2⟩, h => ⟨(h x List.mem_cons_self).trans h1, h2.keep (fun y hy => h y (List.mem_cons_of_mem _ hy))⟩
theorem Ln.lt {w : World} : ∀ {xs : List Nd}, Ln w xs → ∀ x ∈ xs, x.b < w.heap.size
  | [], _, _, h => absurd h (by simp)
  | y :: _, ⟨h1, h2⟩, x, h => by
    rcases List.mem_cons.1 h with rfl | h
    · exact lt_of_block h1
    · exact h2.lt x h
theorem Ln.below {w w' : World} {xs : List Nd} (h : Ln w xs) (hb : Below w.heap.size w w') : Ln w' xs :=
  h.keep (fun x hx => hb.block x.b (h.lt x hx))
/-- How far a stretch is from the list's end. -/
def mea : List Nd → Option Addr → Nat
  | _, none => 0
  | [], some _ => 0
  | x :: r, some a => if a.block = x.b then r.length + 1 else mea r (some a)
theorem mea_drop : ∀ (xs : List Nd) (i : Nat), (xs.map Nd.b).Nodup → mea xs (hdN (xs.drop i)) = (xs.drop i).length
  | [], i, _ => by simp [hdN, mea]
  | x :: r, 0, _ => by simp [hdN, mea]
  | x :: r, i + 1, h => by
    rw [List.map_cons, List.nodup_cons] at h
    have ih := mea_drop r i h.2
    rw [List.drop_succ_cons]
    cases hd : r.drop i with
    | nil => simp [hdN, mea]
    | cons y s =>
      rw [hd] at ih
      have hy : y ∈ r := List.mem_of_mem_drop (by rw [hd]; exact List.mem_cons_self)
      have hne : y.b ≠ x.b := fun e => h.1 (by rw [← e]; exact List.mem_map_of_mem hy)
      have e : hdN (y :: s) = some ⟨y.b, 0, none⟩ := rfl
      rw [e] at ih ⊢
      show (if y.b = x.b then r.length + 1 else mea r (some ⟨y.b, 0, none⟩)) = _
      rw [if_neg hne]
      exact ih
def ptrA : Value → Option Addr
  | .pointer p => p
  | _ => none
theorem drop_at {xs : List Nd} {i : Nat} (h : i < xs.length) : ∃ x, xs.drop i = x :: xs.drop (i + 1) ∧ xs.take (i + 1) = xs.take i ++ [x] :=
  ⟨xs[i], List.drop_eq_getElem_cons h, by rw [List.take_succ_eq_append_getElem h]⟩

set_option maxHeartbeats 1600000 in
theorem cTurned (B : Nat) (xs : List Nd) (w : World) (hL : Ln w xs) (hnd : (xs.map Nd.b).Nodup) (hB : ∀ x ∈ xs, B ≤ x.b) :
    Calls Tryz.prog 18 #[.pointer (hdN xs)] w fun e w' => e = .returned (.pointer (hdN xs.reverse)) ∧ Ln w' xs.reverse ∧ Below B w w' := by
  have hM := hide (fun i => mea_drop xs i hnd)
  have hN : Hid (∀ i x, xs.drop i = x :: xs.drop (i + 1) → (∀ y ∈ xs.drop (i + 1), y.b ≠ x.b) ∧ (∀ y ∈ xs.take i, y.b ≠ x.b) ∧ B ≤ x.b) := fun i x hx => by
    have hs : xs = xs.take i ++ x :: xs.drop (i + 1) := by rw [← hx, List.take_append_drop]
    rw [hs, List.map_append, List.map_cons] at hnd
    obtain ⟨_, h2, h3⟩ := List.nodup_append.1 hnd
    rw [List.nodup_cons] at h2
    refine ⟨fun y hy e => h2.1 (by rw [← e]; exact List.mem_map_of_mem hy), fun y hy e => ?_, hB x (by rw [hs]; simp)⟩
    exact h3 y.b (List.mem_map_of_mem hy) x.b List.mem_cons_self e
  have hI0 : ∃ i, i ≤ xs.length ∧ Value.pointer (hdN xs) = .pointer (hdN (xs.drop i)) ∧ Value.pointer none = .pointer (hdN (xs.take i).reverse) ∧ Ln w (xs.drop i) ∧ Ln w (xs.take i).reverse ∧ Below B w w := ⟨0, Nat.zero_le _, rfl, rfl, hL, trivial, Below.refl _ _⟩
  have hI := hide hI0
  clear hI0 hL hnd hB
  go_enter Tryz.func18, Tryz.ntmps18
  go_wp2
  go_loopw [0, 3] (fun la fi wr => ∃ i, i ≤ xs.length ∧ la = .pointer (hdN (xs.drop i)) ∧ fi = .pointer (hdN (xs.take i).reverse) ∧ Ln wr (xs.drop i) ∧ Ln wr (xs.take i).reverse ∧ Below B w wr) (fun la _ _ => mea xs (ptrA la))
  case atStart => exact hI.out
  case round =>
    clear hI
    obtain ⟨i, hi, rfl, rfl, hX, hY, hb⟩ := hrel
    by_cases hlt : i < xs.length
    · obtain ⟨x, hx, htk⟩ := drop_at hlt
      obtain ⟨n1, n2, n3⟩ := hN.out i x hx
      have hm1 := hM.out i
      have hm2 := hM.out (i + 1)
      have hdl : (xs.drop i).length = (xs.drop (i + 1)).length + 1 := by rw [hx]; rfl
      have hys : (xs.take (i + 1)).reverse = x :: (xs.take i).reverse := by rw [htk]; simp
      rw [hx] at hX hm1
      have hX1 := hX.1
      have hX2 := hX.2
      obtain ⟨-, -, -, -, -, u5⟩ := six_cells (by unfold ndObj at hX1; exact hX1)
      have f5 := frozen_of_blk (i := 5) (by unfold ndObj at hX1; exact hX1)
      have hfin : Hid (Ln (wr.setCell ⟨x.b, 5, none⟩ (.pointer (hdN (xs.take i).reverse))) (xs.drop (i + 1)) ∧ Ln (wr.setCell ⟨x.b, 5, none⟩ (.pointer (hdN (xs.take i).reverse))) (x :: (xs.take i).reverse) ∧ Below B w (wr.setCell ⟨x.b, 5, none⟩ (.pointer (hdN (xs.take i).reverse)))) := by
        refine ⟨hX2.keep (fun y hy => Below.heap_setCell _ _ _ _ (n1 y hy)), ⟨?_, hY.keep (fun y hy => Below.heap_setCell _ _ _ _ (n2 y (List.mem_reverse.1 hy)))⟩, below_set n3 hb⟩
        rw [blk_set (by unfold ndObj at hX1; exact hX1)]
        rfl
      have hend : Hid (∃ j, j ≤ xs.length ∧ Value.pointer (hdN (xs.drop (i + 1))) = .pointer (hdN (xs.drop j)) ∧ Value.pointer (some ⟨x.b, 0, none⟩) = .pointer (hdN (xs.take j).reverse) ∧ Ln (wr.setCell ⟨x.b, 5, none⟩ (.pointer (hdN (xs.take i).reverse))) (xs.drop j) ∧ Ln (wr.setCell ⟨x.b, 5, none⟩ (.pointer (hdN (xs.take i).reverse))) (xs.take j).reverse ∧ Below B w (wr.setCell ⟨x.b, 5, none⟩ (.pointer (hdN (xs.take i).reverse)))) :=
        ⟨i + 1, by omega, rfl, by rw [hys]; rfl, hfin.out.1, by rw [hys]; exact hfin.out.2.1, hfin.out.2.2⟩
      have hmes : Hid (mea xs (hdN (xs.drop (i + 1))) < mea xs (some ⟨x.b, 0, none⟩)) := by
        have e1 : mea xs (some ⟨x.b, 0, none⟩) = (x :: xs.drop (i + 1)).length := hm1
        show _ < _
        rw [hm2, e1]
        simp
      rw [hx]
      have ehd : hdN (x :: xs.drop (i + 1)) = some ⟨x.b, 0, none⟩ := rfl
      rw [ehd]
      have zb := lt_of_block hX1
      generalize hdN (xs.drop (i + 1)) = pr at *
      generalize hdN (xs.take i).reverse = py at *
      clear hfin hX hX1 hX2 hY hb n1 n2 n3 hm1 hm2 hdl hys hx htk ehd hN hM
      go_wp2
      go_roundw
      case rel => exact hend.out
      case measure => exact hmes.out
    · have hdr : xs.drop i = [] := List.drop_eq_nil_of_le (by omega)
      have htk : xs.take i = xs := List.take_of_length_le (by omega)
      rw [htk] at hY ⊢
      rw [hdr]
      have ehd : hdN [] = none := rfl
      rw [ehd]
      clear hX hdr htk hM hN
      go_wp2
      go_ret
      exact ⟨rfl, hY, hb⟩
end Go.Proofs.YtajeiiebddnchaaGreatDoor

/- The program's Journey. -/
namespace Go.Proofs.YtajeiiebddnchaaGreatDoor
open Go.RowKit Go.Maps
def toLeg (x : Lg) : LegV := ⟨x.1, x.2.1, x.2.2⟩
def Nd.leg (x : Nd) : LegV := ⟨x.t, x.k, x.l⟩
def ndOf (bks : List Nat) (R : List Rec) (j : Nat) : Nd := ⟨bks.getD j 0, (R.getD j Rec.zero).t, (R.getD j Rec.zero).k, (R.getD j Rec.zero).l, (R.getD j Rec.zero).n, (R.getD j Rec.zero).m⟩
/-- What Journey tells. -/
def JnAns (ts : List TripV) (f u m ch h : Int) (L : List LegV) : Prop :=
  (¬ AskP ts f u m ch h ∧ L = []) ∨ (AskP ts f u m ch h ∧ ∃ r, IsSoon ts ⟨f, m⟩ ch h.toNat u r ∧ ((r < 0 ∧ L = []) ∨ (0 ≤ r ∧ ∃ P, IsJn ts ⟨f, m⟩ ch ⟨u, r⟩ P ∧ P.length ≤ 5 ∧ L = P.map toLeg)))
theorem JnAns.uniq {ts : List TripV} {f u m ch h : Int} {L L' : List LegV} (a : JnAns ts f u m ch h L) (b : JnAns ts f u m ch h L') : L = L' := by
  rcases a with ⟨a1, a2⟩ | ⟨a1, r, a2, a3⟩ <;> rcases b with ⟨b1, b2⟩ | ⟨b1, r', b2, b3⟩
  · rw [a2, b2]
  · exact absurd b1 a1
  · exact absurd a1 b1
  · obtain rfl : r = r' := IsMin.uniq a2 b2
    rcases a3 with ⟨a3, a4⟩ | ⟨a3, P, a4, _, a5⟩ <;> rcases b3 with ⟨b3, b4⟩ | ⟨b3, P', b4, _, b5⟩
    · rw [a4, b4]
    · omega
    · omega
    · rw [a5, b5, a4.uniq b4]
theorem JnAns.len {ts : List TripV} {f u m ch h : Int} {L : List LegV} (a : JnAns ts f u m ch h L) : L.length ≤ 5 := by
  rcases a with ⟨_, rfl⟩ | ⟨_, r, _, ⟨_, rfl⟩ | ⟨_, P, _, h, rfl⟩⟩
  · simp
  · simp
  · simpa using h
theorem btrans' {B : Nat} {a b c : World} {C : Nat} (h : Below B a b) (g : Below C b c) (hC : B ≤ C := by omega) : Below B a c := h.trans (g.mono hC)
theorem ln_at {w : World} : ∀ {ys : List Nd} {i : Nat} {x : Nd}, Ln w ys → ys.drop i = x :: ys.drop (i + 1) → w.heap[x.b]? = some (ndObj x (hdN (ys.drop (i + 1))))
  | [], i, x, _, h => by simp at h
  | y :: r, 0, x, h, e => by
    simp only [List.drop_zero, List.cons.injEq] at e
    obtain ⟨rfl, _⟩ := e
    simpa using h.1
  | y :: r, i + 1, x, h, e => by
    rw [List.drop_succ_cons] at e ⊢
    exact ln_at h.2 e
/-- The stretches of a journey, from the last to the first. -/
theorem chain_of {w' : World} {B gr : Nat} {bks : List Nat} {R : List Rec} {ts : List TripV} {s : Qn} {ch : Int} {H : Nat} (hf : Bf ts s ch H R R.length) (hx : Bx ts s ch H R R.length) (T : Told w' B gr bks R) :
    ∀ j, j < R.length → ∃ is : List Nat, (j :: is).Pairwise (· > ·) ∧ (∀ i ∈ j :: is, i < R.length) ∧ Ln w' ((j :: is).map (ndOf bks R)) ∧ ∃ js, (j :: is).reverse = 0 :: js ∧ js.map (fun i => (ndOf bks R i).leg) = (R.getD j Rec.zero).pa.map toLeg := by
  intro j
  induction j using Nat.strongRecOn with
  | _ j ih =>
    intro hj
    have hst := T.st j hj
    by_cases h0 : j = 0
    · subst h0
      refine ⟨[], by simp, by simpa using hj, ⟨?_, trivial⟩, [], rfl, ?_⟩
      · show w'.heap[bks.getD 0 0]? = _
        rw [hst]; rfl
      · rw [hf.fst]; rfl
    · obtain ⟨h1, h2, h3, h4⟩ := hx.lnk j (by omega) hj
      obtain ⟨is, i1, i2, i3, js, i4, i5⟩ := ih _ h2 h1
      refine ⟨(R.getD j Rec.zero).par :: is, ?_, ?_, ⟨?_, i3⟩, js ++ [j], ?_, ?_⟩
      · rw [List.pairwise_cons]
        refine ⟨fun i hi => ?_, i1⟩
        rcases List.mem_cons.1 hi with rfl | hi
        · exact h2
        · have := (List.pairwise_cons.1 i1).1 i hi
          omega
      · intro i hi
        rcases List.mem_cons.1 hi with rfl | hi
        · exact hj
        · exact i2 i hi
      · show w'.heap[bks.getD j 0]? = _
        rw [hst]
        unfold recCells
        rw [if_neg h0]
        rfl
      · rw [List.reverse_cons, i4]; rfl
      · rw [List.map_append, i5, h4, List.map_append]; rfl
theorem chain_nodup {w' : World} {B gr : Nat} {bks : List Nat} {R : List Rec} (T : Told w' B gr bks R) : ∀ {is : List Nat}, is.Pairwise (· > ·) → (∀ i ∈ is, i < R.length) → ((is.map (ndOf bks R)).map Nd.b).Nodup ∧ ∀ x ∈ is.map (ndOf bks R), B ≤ x.b
  | [], _, _ => ⟨by simp, by simp⟩
  | i :: is, h, g => by
    rw [List.pairwise_cons] at h
    obtain ⟨h1, h2⟩ := chain_nodup T h.2 (fun j hj => g j (List.mem_cons_of_mem _ hj))
    refine ⟨?_, ?_⟩
    · rw [List.map_cons, List.map_cons, List.nodup_cons]
      refine ⟨fun hm => ?_, h1⟩
      rw [List.map_map] at hm
      obtain ⟨k, hk, e⟩ := List.mem_map.1 hm
      exact T.nd k i (h.1 k hk) (g i List.mem_cons_self) e
    · intro x hx
      rw [List.map_cons] at hx
      rcases List.mem_cons.1 hx with rfl | hx
      · exact T.nb i (g i List.mem_cons_self)
      · exact h2 x hx
def LegAns (w : World) (P : List LegV → Prop) (e : Ending) (w' : World) : Prop := ∃ v, e = .returned v ∧ ∃ L, P L ∧ w'.ownsRow w.heap.size 38 3 v L.length (flatLegs L) ∧ Below w.heap.size w w'
theorem jn_some {ts : List TripV} {f u m ch h : Int} {R : List Rec} {b : Nat} (q : AskP ts f u m ch h) (hf : Bf ts ⟨f, m⟩ ch h.toNat R R.length) (hx : Bx ts ⟨f, m⟩ ch h.toNat R R.length) (hB : Best R u R.length (some b)) : b < R.length ∧ JnAns ts f u m ch h ((R.getD b Rec.zero).pa.map toLeg) := by
  have hs := best_soon hf hB
  obtain ⟨hg, _, _, hm, hc, hh⟩ := q.parts
  rcases hB with ⟨h, _⟩ | ⟨b', h1, h2, h3, _⟩
  · cases h
  · cases h2
    have hj := bx_jn hf hx h1
    have hr := hf.snd _ (getD_mem (d := Rec.zero) h1)
    have hp := hx.pth _ (getD_mem (d := Rec.zero) h1)
    have hq : (R.getD b Rec.zero).q = ⟨u, (R.getD b Rec.zero).m⟩ := by unfold Rec.q; rw [h3]
    rw [hq] at hj hr
    have hge := hr.1.ge hg hc.1
    dsimp only at hge
    exact ⟨h1, .inr ⟨q, _, hs, .inr ⟨by show 0 ≤ (R.getD b Rec.zero).m; omega, _, hj, by rw [hp.2]; omega, rfl⟩⟩⟩

set_option maxRecDepth 20000 in
set_option maxHeartbeats 1600000 in
theorem cJourneyI (a : Option Addr) (cap : Nat) (ts : List TripV) (f u m ch h : Int) (w : World) (hz : Trips w a ts) (hS : Small ts) :
    Calls Tryz.prog 8 #[.slice a ts.length cap, .int .i64 f, .int .i64 u, .int .i64 m, .int .i64 ch, .int .i64 h] w (LegAns w (JnAns ts f u m ch h)) := by
  obtain ⟨i0, hi, hz0, hz1, hz2⟩ := info_parts infoLegs
  go_enter Tryz.func8, Tryz.ntmps8
  go_wp2_with fail
  refine (cStretch a cap ts f u m ch h _ hz hS).mono ?_
  rintro e w1 ⟨hb, ⟨hq, rfl⟩ | ⟨hq, gr, bks, R, o, rfl, hBf, hBx, T, hB⟩⟩
  · have hF : JnAns ts f u m ch h [] := .inl ⟨hq, rfl⟩
    clear hq
    go_wp2
    go_ret
    exact ⟨_, rfl, [], hF, World.ownsRow_nil _ _ _ _, hb⟩
  cases o with
  | none =>
    have hF : JnAns ts f u m ch h [] := .inr ⟨hq, _, best_soon hBf hB, .inl ⟨by show (-1 : Int) < 0; omega, rfl⟩⟩
    simp only [ptrOf]
    clear hq hBf hBx T hB
    go_wp2
    go_ret
    exact ⟨_, rfl, [], hF, World.ownsRow_nil _ _ _ _, hb⟩
  | some b =>
    obtain ⟨hbl, hF⟩ := jn_some hq hBf hBx hB
    obtain ⟨is, c1, c2, c3, js, c4, c5⟩ := chain_of hBf hBx T b hbl
    obtain ⟨c6, c7⟩ := chain_nodup T c1 c2
    have hsz1 := hb.size
    have hrev : ((b :: is).map (ndOf bks R)).reverse = ndOf bks R 0 :: js.map (ndOf bks R) := by rw [← List.map_reverse, c4]; rfl
    have hnd2 : ((js.map (ndOf bks R)).map Nd.b).Nodup := by
      have : ((((b :: is).map (ndOf bks R)).reverse).map Nd.b).Nodup := by rw [List.map_reverse]; exact List.pairwise_reverse.2 (c6.imp (fun h e => h e.symm))
      rw [hrev, List.map_cons, List.nodup_cons] at this
      exact this.2
    have hlg : (js.map (ndOf bks R)).map Nd.leg = (R.getD b Rec.zero).pa.map toLeg := by rw [← c5, List.map_map]; rfl
    have CT := cTurned w.heap.size ((b :: is).map (ndOf bks R)) w1 c3 c6 c7
    rw [hrev] at CT
    have e0 : hdN ((b :: is).map (ndOf bks R)) = some ⟨bks.getD b 0, 0, none⟩ := rfl
    rw [e0] at CT
    rw [← hlg] at hF
    generalize js.map (ndOf bks R) = ys at *
    generalize ndOf bks R 0 = x0 at *
    simp only [ptrOf]
    have hFh := hide hF
    have hM := hide (fun i => mea_drop ys i hnd2)
    have hlen : ys.length ≤ 5 := by simpa using hF.len
    clear hq hBf hBx T hB c1 c2 c3 c4 c5 c6 c7 hrev hlg hnd2 e0 hF hbl
    generalize bks.getD b 0 = gb at *
    go_wp2_with fail
    refine CT.mono ?_
    rintro e w2 ⟨rfl, hL, hb2⟩
    have HB := btrans' hb hb2
    have hL1 := hL.1
    have hL2 := hide hL.2
    obtain ⟨-, -, -, -, -, u5⟩ := six_cells (by unfold ndObj at hL1; exact hL1)
    have ehd : hdN (x0 :: ys) = some ⟨x0.b, 0, none⟩ := rfl
    rw [ehd]
    clear CT hL hL1 ehd hb hb2
    have hI0 : Hid (∃ i, i ≤ ys.length ∧ Value.pointer (hdN ys) = .pointer (hdN (ys.drop i)) ∧ w2.ownsRow w2.heap.size 38 3 (.slice none 0 0) i (flatLegs ((ys.take i).map Nd.leg)) ∧ Below w2.heap.size w2 w2) := ⟨0, Nat.zero_le _, rfl, World.ownsRow_nil _ _ _ _, Below.refl _ _⟩
    generalize hph : hdN ys = ph at *
    clear hph
    go_wp2
    go_loopw [14, 16] (fun v nx wr => ∃ i, i ≤ ys.length ∧ nx = .pointer (hdN (ys.drop i)) ∧ wr.ownsRow w2.heap.size 38 3 v i (flatLegs ((ys.take i).map Nd.leg)) ∧ Below w2.heap.size w2 wr) (fun _ nx _ => mea ys (ptrA nx))
    case atStart => exact hI0.out
    case round =>
      clear hI0 u5
      obtain ⟨i, hi5, rfl, ho, hbr⟩ := hrel
      obtain ⟨va, vc, rfl⟩ := own_form ho
      by_cases hlt : i < ys.length
      · obtain ⟨x, hx, htk⟩ := drop_at hlt
        have hm1 := hM.out i
        have hm2 := hM.out (i + 1)
        have hmes : Hid (mea ys (hdN (ys.drop (i + 1))) < mea ys (some ⟨x.b, 0, none⟩)) := by
          have e1 : mea ys (some ⟨x.b, 0, none⟩) = (x :: ys.drop (i + 1)).length := by rw [← hx, ← hm1, hx]; rfl
          show _ < _
          rw [hm2, e1]
          simp
        have hX : ∀ w', Below w2.heap.size w2 w' → w'.heap[x.b]? = some (ndObj x (hdN (ys.drop (i + 1)))) := fun w' hb => ln_at (hL2.out.below hb) hx
        have hX1 := hX wr hbr
        have hXh := hide hX
        obtain ⟨v0, v1, v2, -, -, -⟩ := six_cells (by unfold ndObj at hX1; exact hX1)
        have zb := lt_of_block hX1
        have hnew : Hid (flatLegs ((ys.take (i + 1)).map Nd.leg) = flatLegs ((ys.take i).map Nd.leg) ++ LegV.vs ⟨x.t, x.k, x.l⟩) := by
          show _ = _
          rw [htk, List.map_append, flatLegs_app]; rfl
        have hnext : Hid (hdN (ys.drop (i + 1)) = hdN (ys.drop (i + 1))) := rfl
        rw [hx]
        have ehd : hdN (x :: ys.drop (i + 1)) = some ⟨x.b, 0, none⟩ := rfl
        rw [ehd]
        generalize hpr : hdN (ys.drop (i + 1)) = pr at *
        replace hpr := hide hpr
        have hsz := hbr.size
        obtain ⟨xb, xt, xk, xl, xn, xm⟩ := x
        dsimp only at *
        have ho2 := ho.alloc (.cells #[.int .i64 xt, .int .i64 xk, .int .i64 xl] 38)
        have hba := btrans hbr (balloc wr (.cells #[.int .i64 xt, .int .i64 xk, .int .i64 xl] 38))
        clear hX hX1 hm1 hm2 hx htk ehd hM hnext
        go_wp2_with (at_builtin; refine wpList_append_own _ rfl _ _ 29 rfl w2.heap.size 38 i0 _ 3 24 Tryz.underlying29 hi hz0 hz1 hz2 rfl (by decide) _ _ _ rfl ho2 ⟨wr.heap.size, 0, none⟩ 1 1 (LegV.vs ⟨xt, xk, xl⟩) rfl rfl ?c1 ?c2 ?c3 ?c4 ?c5 ?_)
        case c1 =>
          intro j u h
          match j, h with
          | 0, h => simp [LegV.vs] at h; subst h; simp [Addr.add]
          | 1, h => simp [LegV.vs] at h; subst h; simp [Addr.add]
          | 2, h => simp [LegV.vs] at h; subst h; simp [Addr.add]
          | _ + 3, h => simp [LegV.vs] at h
        case c2 => simp [Value.oneCell', LegV.vs]
        case c3 => unfold maxLen; omega
        case c4 => omega
        case c5 => simp; omega
        intro v5 w5 hown5 hgrow5 _
        have hfrom := own_from ho2 (Nat.le_refl _)
        have hb5 : Below w2.heap.size w2 w5 := hba.grown hgrow5 hba.size hfrom
        have hX5 := hXh.out w5 hb5
        obtain ⟨-, -, -, -, -, u5⟩ := six_cells (by unfold ndObj at hX5; exact hX5)
        have hend : Hid (∃ j, j ≤ ys.length ∧ Value.pointer pr = .pointer (hdN (ys.drop j)) ∧ w5.ownsRow w2.heap.size 38 3 v5 j (flatLegs ((ys.take j).map Nd.leg)) ∧ Below w2.heap.size w2 w5) :=
          ⟨i + 1, by omega, by rw [hpr.out], by rw [hnew.out, List.map_take]; exact hown5, hb5⟩
        clear hnew hown5 hgrow5 hb5 hX5 hXh hfrom ho2 hba ho hbr hsz v0 v1 v2 zb
        go_wp2
        go_roundw
        case rel => exact hend.out
        case measure => exact hmes.out
      · have hdr : ys.drop i = [] := List.drop_eq_nil_of_le (by omega)
        have htk : ys.take i = ys := List.take_of_length_le (by omega)
        have hle : Hid ((ys.map Nd.leg).length = i) := by show _ = _; rw [List.length_map]; omega
        rw [htk] at ho
        rw [hdr]
        have ehd : hdN [] = none := rfl
        rw [ehd]
        have hfin : Hid (LegAns w (JnAns ts f u m ch h) (.returned (.slice va i vc)) wr) := ⟨_, rfl, ys.map Nd.leg, hFh.out, by rw [hle.out]; exact own_base ho HB.size, btrans' HB hbr HB.size⟩
        clear hdr htk hM hle ho hbr HB hFh hL2 ehd
        go_wp2
        go_ret
        exact hfin.out
end Go.Proofs.YtajeiiebddnchaaGreatDoor

/- What a journey that is told must be: the mathematics of FnJourney. -/
namespace Go.Proofs.YtajeiiebddnchaaGreatDoor
open Go.RowKit
def d0 : Lg := (0, 0, 0)
theorem pt_chain {ts : List TripV} {s : Qn} {ch : Int} (hg : Gd ts) (hc : 0 ≤ ch) : ∀ (xs : List Lg) (p q : Qn), (p = s ∨ s.m < p.m) → Pt ts s ch p xs q →
    (∀ i, i < xs.length → LegIn ts (xs.getD i d0).1 (xs.getD i d0).2.1 (xs.getD i d0).2.2) ∧
    (∀ i, i + 1 < xs.length → JoinG ts ch (toLeg (xs.getD i d0)) (toLeg (xs.getD (i + 1) d0))) ∧
    (0 < xs.length → (hcA ts (xs.getD 0 d0).1 (xs.getD 0 d0).2.1).n = p.n ∧ rdy s ch p ≤ (hcA ts (xs.getD 0 d0).1 (xs.getD 0 d0).2.1).d) ∧
    (0 < xs.length → (hcA ts (xs.getD (xs.length - 1) d0).1 (xs.getD (xs.length - 1) d0).2.2).n = q.n ∧ (hcA ts (xs.getD (xs.length - 1) d0).1 (xs.getD (xs.length - 1) d0).2.2).a = q.m) := by
  intro xs
  induction xs with
  | nil =>
    intro p q _ _
    exact ⟨fun i hi => by simp at hi, fun i hi => by simp at hi, fun h => by simp at h, fun h => by simp at h⟩
  | cons x xs ih =>
    intro p q hp hpt
    obtain ⟨p', hL, hrest⟩ := hpt
    obtain ⟨h1, h2, h3, h4, h5⟩ := hL
    have hrise := hg.rise _ _ _ h1
    have hr : s.m ≤ rdy s ch p := by
      unfold rdy
      rcases hp with rfl | hp
      · simp
      · split <;> omega
    have hp' : s.m < p'.m := by omega
    have hne : p' ≠ s := fun e => by rw [e] at hp'; omega
    have hrd : rdy s ch p' = p'.m + ch := by unfold rdy; rw [if_neg hne]
    obtain ⟨a1, a2, a3, a4⟩ := ih p' q (.inr hp') hrest
    refine ⟨fun i hi => ?_, fun i hi => ?_, fun _ => ?_, fun _ => ?_⟩
    · cases i with
      | zero => simpa using h1
      | succ i => simpa using a1 i (by simpa using hi)
    · cases i with
      | zero =>
        have hx : 0 < xs.length := by simpa using hi
        obtain ⟨b1, b2⟩ := a3 hx
        have e1 : (x :: xs).getD (0 + 1) d0 = xs.getD 0 d0 := by simp
        have e0 : (x :: xs).getD 0 d0 = x := by simp
        rw [e1, e0]
        refine ⟨?_, ?_⟩
        · simp only [toLeg, Int.toNat_natCast]; rw [b1, h4]
        · simp only [toLeg, Int.toNat_natCast]; rw [h5, ← hrd]; exact b2
      | succ i => simpa using a2 i (by simpa using hi)
    · exact ⟨by simpa using h2, by simpa using h3⟩
    · by_cases hx : 0 < xs.length
      · have e1 : (x :: xs).getD ((x :: xs).length - 1) d0 = xs.getD (xs.length - 1) d0 := by
          obtain ⟨n, hn⟩ : ∃ n, xs.length = n + 1 := ⟨xs.length - 1, by omega⟩
          simp [hn]
        rw [e1]; exact a4 hx
      · have hnil : xs = [] := List.length_eq_zero_iff.1 (by omega)
        subst hnil
        have hq : p' = q := hrest
        subst hq
        exact ⟨by simpa using h4, by simpa using h5⟩
/-- A journey that comes to another node has a leg. -/
theorem jn_leg {ts : List TripV} {s q : Qn} {ch : Int} {P : List Lg} (h : IsJn ts s ch q P) (hne : q ≠ s) : 0 < P.length := by
  cases P with
  | nil => exact absurd (h.1 : s = q).symm hne
  | cons x xs => simp
theorem jn_nil {ts : List TripV} {s : Qn} {ch : Int} {P : List Lg} (h : IsJn ts s ch s P) : P = [] := by
  have := h.2.1 [] rfl
  exact List.length_eq_zero_iff.1 (by simpa using this)
/-- What Journey tells, held against Soonest. -/
theorem journey_is {ts : List TripV} {f u m ch h r : Int} {L : List LegV} (q : AskP ts f u m ch h) (hs : SoonAns ts f u m ch h r) (hj : JnAns ts f u m ch h L) :
    (r < 0 → L = []) ∧ (f = u → L = [] ∧ r = m) ∧
    (0 ≤ r → f ≠ u → 0 < L.length ∧ (L.length : Int) ≤ h ∧ LegsP ts L ch ∧
      (hcA ts (L.getD 0 LegV.zero).t.toNat (L.getD 0 LegV.zero).o.toNat).n = f ∧ m ≤ (hcA ts (L.getD 0 LegV.zero).t.toNat (L.getD 0 LegV.zero).o.toNat).d ∧
      (hcA ts (L.getD (L.length - 1) LegV.zero).t.toNat (L.getD (L.length - 1) LegV.zero).f.toNat).n = u ∧ (hcA ts (L.getD (L.length - 1) LegV.zero).t.toNat (L.getD (L.length - 1) LegV.zero).f.toNat).a = r ∧
      ∀ r', SoonAns ts f u m ch ((L.length : Int) - 1) r' → r' ≠ r) := by
  obtain ⟨hg, hf, hu, hm, hc, hh⟩ := q.parts
  rcases hs with ⟨h1, _⟩ | ⟨_, hs⟩
  · exact absurd q h1
  rcases hj with ⟨h1, _⟩ | ⟨_, r2, hs2, hj⟩
  · exact absurd q h1
  obtain rfl : r2 = r := IsMin.uniq hs2 hs
  clear hs2
  refine ⟨fun hr => ?_, fun e => ?_, fun hr hne => ?_⟩
  · rcases hj with ⟨_, h2⟩ | ⟨h1, _⟩
    · exact h2
    · omega
  · subst e
    have hr : r2 = m := by
      rcases hs with ⟨_, h2⟩ | ⟨h1, h2⟩
      · exact absurd (Jr.start _) (h2 m)
      · have a := h2 m (Jr.start _)
        have b := Jr.ge hg hc.1 h1
        dsimp only at b
        omega
    subst hr
    rcases hj with ⟨h1, _⟩ | ⟨_, P, hP, _, rfl⟩
    · omega
    · rw [jn_nil hP]; exact ⟨rfl, rfl⟩
  · rcases hj with ⟨h1, _⟩ | ⟨_, P, hP, h5, rfl⟩
    · omega
    have hPl := jn_leg hP (fun e => hne (by injection e with e1 e2; exact e1.symm))
    obtain ⟨c1, c2, c3, c4⟩ := pt_chain hg hc.1 P ⟨f, m⟩ ⟨u, r2⟩ (.inl rfl) hP.1
    have hgd : ∀ i, i < P.length → (P.map toLeg).getD i LegV.zero = toLeg (P.getD i d0) := fun i hi => by simp [List.getD, hi]
    have hJr : Jr ts ⟨f, m⟩ ch h.toNat ⟨u, r2⟩ := by
      rcases hs with ⟨h1, _⟩ | ⟨h1, _⟩
      · omega
      · exact h1
    have hlen : P.length ≤ h.toNat := by
      obtain ⟨xs, hx1, hx2⟩ := jr_pt _ _ hJr
      have := hP.2.1 xs hx2
      omega
    rw [List.length_map, hgd 0 hPl, hgd (P.length - 1) (by omega)]
    simp only [toLeg, Int.toNat_natCast]
    refine ⟨hPl, by omega, ⟨q.1, q.2.2.2.2.1, by simpa using h5, fun i hi => ?_, fun i hi => ?_⟩, (c3 hPl).1, ?_, (c4 hPl).1, (c4 hPl).2, fun r' hs' e => ?_⟩
    · rw [List.length_map] at hi
      rw [hgd i hi]
      obtain ⟨k1, k2, k3⟩ := c1 i hi
      refine ⟨⟨by simp [toLeg], by simp only [toLeg]; omega⟩, by simp [toLeg], by simp only [toLeg]; omega, by simp only [toLeg, Int.toNat_natCast]; omega⟩
    · rw [List.length_map] at hi
      rw [hgd i (by omega), hgd (i + 1) hi]
      exact c2 i hi
    · have := (c3 hPl).2
      simpa [rdy] using this
    · subst e
      rcases hs' with ⟨h1, h2⟩ | ⟨_, h2⟩
      · omega
      rcases h2 with ⟨h1, _⟩ | ⟨h1, _⟩
      · omega
      · obtain ⟨xs, hx1, hx2⟩ := jr_pt _ _ h1
        have := hP.2.1 xs hx2
        omega
/-- No single leg comes sooner. -/
theorem one_later {ts : List TripV} {f u m ch h r : Int} (q : AskP ts f u m ch h) (hh : 1 ≤ h) (hs : SoonAns ts f u m ch h r) {i k l : Nat} (hl : LegIn ts i k l) (h1 : (hcA ts i k).n = f) (h2 : m ≤ (hcA ts i k).d) (h3 : (hcA ts i l).n = u) : 0 ≤ r ∧ r ≤ (hcA ts i l).a := by
  obtain ⟨hg, hf, hu, hm, hc, hh2⟩ := q.parts
  rcases hs with ⟨g, _⟩ | ⟨_, hs⟩
  · exact absurd q g
  have hJ : Jr ts ⟨f, m⟩ ch h.toNat ⟨u, (hcA ts i l).a⟩ := by
    refine Jr.more (h := 1) (.inr ⟨⟨f, m⟩, rfl, ⟨i, k, l, hl, h1, by simpa [rdy] using h2, h3, rfl⟩⟩) (by omega)
  rcases hs with ⟨_, g⟩ | ⟨g1, g2⟩
  · exact absurd hJ (g _)
  · have := Jr.ge hg hc.1 g1
    dsimp only at this
    exact ⟨by omega, g2 _ hJ⟩
end Go.Proofs.YtajeiiebddnchaaGreatDoor

