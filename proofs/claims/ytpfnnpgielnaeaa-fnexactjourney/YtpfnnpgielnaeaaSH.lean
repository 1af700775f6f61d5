/- The program's search, whole. -/
import Derived.Test.YtpfnnpgielnaeaaSG
namespace Go.Proofs.Ytpfnnpgielnaeaa
open Go.RowKit Go.Maps

/-- What the search tells: its stretches, each in a block of its own. -/
structure Told (w' : World) (B gr : Nat) (bks : List Nat) (R : List Rec) : Prop where
  len : bks.length = R.length
  row : ∀ j, j < R.length → w'.cell? ⟨gr, j, none⟩ = some (.pointer (some ⟨bks.getD j 0, 0, none⟩))
  st : ∀ j, j < R.length → w'.heap[bks.getD j 0]? = some (.cells (recCells bks (R.getD j Rec.zero) j) 65 (0, 0))
  nb : ∀ j, j < R.length → B ≤ bks.getD j 0
  nd : ∀ i j, i < j → j < R.length → bks.getD i 0 ≠ bks.getD j 0
def SrPost (w : World) (ts : List TripV) (s : Qn) (ch : Int) (H : Nat) (e : Ending) (w' : World) : Prop :=
  ∃ gr c bks R, e = .returned (.slice (some ⟨gr, 0, none⟩) (List.length R) c) ∧ Bf ts s ch H R R.length ∧ Bx ts s ch H R R.length ∧ Told w' w.heap.size gr bks R ∧ Below w.heap.size w w'
theorem Told.below {w w' : World} {B gr : Nat} {bks : List Nat} {R : List Rec} (h : Told w B gr bks R) (hb : Below w.heap.size w w') : Told w' B gr bks R :=
  ⟨h.len, fun j hj => ble hb (h.row j hj), fun j hj => keep_blk hb (h.st j hj), h.nb, h.nd⟩
theorem Stt.row_at {w : World} {bs bm B : Nat} {lv v : Value} {ch : Int} {bks : List Nat} {R : List Rec} {D : DataW Unit} (h : Stt w bs bm B lv ch v bks R D) (h0 : 0 < R.length) :
    ∃ gr c, v = .slice (some ⟨gr, 0, none⟩) R.length c ∧ Told w B gr bks R := by
  rcases h.row.2 with ⟨_, e⟩ | ⟨g, c, cur, rfl, _⟩
  · omega
  · refine ⟨g, c, rfl, h.len, fun j hj => ?_, h.st, h.nb, h.nd⟩
    rw [h.row.cellAt j (by omega)]
    have : j < bks.length := by rw [h.len]; exact hj
    simp [ptrsOf, List.getD, this]
theorem stt_start (w : World) (lv : Value) (ch : Int) : Stt ((w.alloc (.map #[] 0)).alloc (.cells #[lv, .int .i64 ch, .map (some w.heap.size), .slice none 0 0] 104)) (w.heap.size + 1) w.heap.size w.heap.size lv ch (.slice none 0 0) [] [] (.map []) := by
  have hb := one_block (w.alloc (.map #[] 0)) (.cells #[lv, .int .i64 ch, .map (some w.heap.size), .slice none 0 0] 104)
  rw [sz1] at hb
  refine ⟨hb, World.ownsMap.alloc (World.ownsMap_made w Try.prog _ _) _, World.ownsRow_nil _ _ _ _, rfl, fun j hj => by simp at hj, fun j _ hj => by simp at hj, fun q _ => .inl ⟨look_empty q, rfl⟩, ⟨by omega, by omega⟩, fun j hj => by simp at hj, fun i j _ hj => by simp at hj⟩

set_option maxRecDepth 20000 in
set_option maxHeartbeats 3200000 in
theorem cSearched (a : Option Addr) (cap : Nat) (ts : List TripV) (f m ch : Int) (H : Nat) (w : World) (hz : Trips w a ts) (hg : Gd ts) (hf0 : 0 ≤ f) (hf1 : f ≤ 29) (hm0 : 0 ≤ m) (hm1 : m ≤ 100000) (hc0 : 0 ≤ ch) (hc1 : ch ≤ 60) (hH : H ≤ 5) :
    Calls Try.prog 45 #[.slice a ts.length cap, .int .i64 f, .int .i64 m, .int .i64 ch, .int .i64 H] w (SrPost w ts ⟨f, m⟩ ch H) := by
  have hmm := @run_makeMap Try.prog
  have S0 := stt_start w (.slice a ts.length cap) ch
  have hb0 := btrans (balloc w (.map #[] 0)) (balloc (w.alloc (.map #[] 0)) (.cells #[.slice a ts.length cap, .int .i64 ch, .map (some w.heap.size), .slice none 0 0] 104))
  have hba := balloc ((w.alloc (.map #[] 0)).alloc (.cells #[.slice a ts.length cap, .int .i64 ch, .map (some w.heap.size), .slice none 0 0] 104)) (.cells #[.int .i64 0, .int .i64 0, .int .i64 0, .int .i64 f, .int .i64 m, .pointer none] 65)
  have NB := one_block ((w.alloc (.map #[] 0)).alloc (.cells #[.slice a ts.length cap, .int .i64 ch, .map (some w.heap.size), .slice none 0 0] 104)) (.cells #[.int .i64 0, .int .i64 0, .int .i64 0, .int .i64 f, .int .i64 m, .pointer none] 65)
  rw [sz1, sz1] at NB
  have S1 := S0.below hba
  have hb1 := btrans hb0 hba
  have hsz := hb1.size
  have CA := cAsk (w.heap.size + 1) w.heap.size w.heap.size (w.heap.size + 1 + 1) (.slice a ts.length cap) (.slice none 0 0) ch [] [] (.map []) (startR ⟨f, m⟩) _ S1 NB ⟨⟨hf0, by show f ≤ _; omega⟩, hm0, by show m ≤ _; omega⟩ (Nat.zero_le _) (by simp) (by simp) hsz (by omega) (fun j hj => by simp at hj)
  have e1 : askF [] (startR ⟨f, m⟩) = [startR ⟨f, m⟩] := rfl
  have e2 : (((startR ⟨f, m⟩).lv : Nat) : Int) = 0 := rfl
  rw [e1, e2] at CA
  have hBf := bf_start ts ⟨f, m⟩ ch H
  have hBx := bx_start ts ⟨f, m⟩ ch H
  clear e1 e2 NB S0 hb0 hba hsz S1
  go_enter Try.func45, Try.ntmps45
  go_wp2_with fail
  refine CA.mono ?_
  rintro e w1 ⟨rfl, v1, bks1, D1, S1, -, -, hB1⟩
  have hb2 := hb1.trans hB1
  clear CA hb1 hB1
  generalize hbs : w.heap.size + 1 = bs at *
  replace hbs := hide hbs
  go_wp2
  go_loopw [12] (fun ii wr => ∃ (i : Nat) (v : Value) (bks : List Nat) (R : List Rec) (D : DataW Unit), ii = .int .i64 i ∧ Bf ts ⟨f, m⟩ ch H R i ∧ Bx ts ⟨f, m⟩ ch H R i ∧ Stt wr bs w.heap.size w.heap.size (.slice a ts.length cap) ch v bks R D ∧ Below w.heap.size w wr) (fun ii _ => 290 - (intOf ii).toNat)
  case atStart => exact ⟨0, v1, bks1, _, D1, rfl, hBf, hBx, S1, hb2⟩
  case round =>
    clear hBf hBx S1 hb2
    obtain ⟨i, v, bks, R, D, rfl, hBf, hBx, S, hb⟩ := hrel
    obtain ⟨gr, c, rfl, T⟩ := S.row_at hBf.pos
    have x2 := cell_of_blk (i := 2) S.blk rfl
    have x3 := cell_of_blk (i := 3) S.blk rfl
    have hsh := hBf.short hg
    have hle := hBf.le
    by_cases hlt : i < R.length
    · have hlt' : (i : Int) < (R.length : Int) := by omega
      have t0 := T.row i hlt
      have hst := T.st i hlt
      obtain ⟨-, -, -, y3, y4, -⟩ := six_cells (by unfold recCells at hst; exact hst)
      have hmem := getD_mem (d := Rec.zero) hlt
      obtain ⟨hJ, hlH⟩ := hBf.snd _ hmem
      have hQR : QR (R.getD i Rec.zero).q := by
        rcases Jr.most hg hJ with h | h
        · rw [h]; exact ⟨⟨hf0, by show f ≤ _; omega⟩, hm0, by show m ≤ _; omega⟩
        · exact ⟨⟨h.1, by omega⟩, h.2.2.1, by omega⟩
      have hlk : look D (R.getD i Rec.zero).q = some ((R.getD i Rec.zero).lv : Int) := by
        rcases S.look _ hQR with ⟨_, h2⟩ | ⟨r', h1, h2, h3⟩
        · have := hasQ_iff.2 ⟨_, hmem, rfl⟩; rw [h2] at this; cases this
        · obtain ⟨k, hk, ek⟩ := mem_getD (d := Rec.zero) h1
          have := nodup_q hBf.nd hk hlt (by rw [ek]; exact h2)
          subst this
          rw [ek]; exact ek ▸ h3
      have hrun := run_look_int (OM.below S.om (Below.refl _ _).drew) hQR hlk
      unfold qVal Rec.q at hrun
      dsimp only at hrun
      have hstep := bf_step hBf hlt
      have hstepx := bx_step hBf hBx hlt
      have hb0 : Below wr.heap.size wr wr.drew := (Below.refl _ _).drew
      have S2 := S.below hb0
      have hb2 := btrans hb hb0
      have hm1' : 0 ≤ (R.getD i Rec.zero).m ∧ (R.getD i Rec.zero).m ≤ 1000000 := hQR.2
      by_cases hlv : (R.getD i Rec.zero).lv < H
      · have hsF : stepF ts ch H R i = goF ts ch R i := by unfold stepF; rw [if_pos hlv]
        rw [hsF] at hstep hstepx
        have hlen := hstep.short hg
        have CG := cGoOn a cap ts w bs w.heap.size _ ch bks R D i wr.drew hz hg hb2 S2 hlt hc0 hc1 hm1'.1 hm1'.2 (by omega) (by omega)
        have elv : (((R.getD i Rec.zero).lv + 1 : Nat) : Int) = ((R.getD i Rec.zero).lv : Int) + 1 := by omega
        rw [elv] at CG
        have hlv' : ((R.getD i Rec.zero).lv : Int) < (H : Int) := by omega
        have hwl : IntKind.i64.wrap (((R.getD i Rec.zero).lv : Int) + 1) = ((R.getD i Rec.zero).lv : Int) + 1 := wrap_in _ (by omega) (by omega)
        replace hstep := hide hstep
        replace hstepx := hide hstepx
        generalize bks.getD i 0 = g at *
        generalize (R.getD i Rec.zero).lv = lv at *
        generalize (R.getD i Rec.zero).n = qn at *
        generalize (R.getD i Rec.zero).m = qm at *
        clear hmem hJ hlH hQR hlk S S2 T hst hsF elv hBx hm1' hb hb0 hb2 hle
        replace hBf := hide hBf
        go_wp2_with fail
        go_region
        go_wp2_with fail
        refine CG.mono ?_
        rintro e w2 ⟨rfl, v2, bks2, D2, S3, -, hb3⟩
        clear CG hrun x2 x3 t0 y3 y4
        go_wp2
        go_roundw
        case rel => exact ⟨i + 1, v2, bks2, _, D2, by go_num, hstep.out, hstepx.out, S3, hb3⟩
        case measure => simp [intOf]; omega
      · have hsF : stepF ts ch H R i = R := by unfold stepF; rw [if_neg hlv]
        rw [hsF] at hstep hstepx
        have hlv' : ¬ ((R.getD i Rec.zero).lv : Int) < (H : Int) := by omega
        replace hstep := hide hstep
        replace hstepx := hide hstepx
        generalize bks.getD i 0 = g at *
        generalize (R.getD i Rec.zero).lv = lv at *
        generalize (R.getD i Rec.zero).n = qn at *
        generalize (R.getD i Rec.zero).m = qm at *
        clear hmem hJ hlH hQR hlk S T hst hsF hBx hm1' hb hb0 hle
        replace hBf := hide hBf
        go_wp2_with fail
        go_region
        clear hrun
        go_wp2
        go_roundw
        case rel => exact ⟨i + 1, _, bks, _, D, by go_num, hstep.out, hstepx.out, S2, hb2⟩
        case measure => simp [intOf]; omega
    · have hlt' : ¬ (i : Int) < (R.length : Int) := by omega
      have hii : i = R.length := by omega
      rw [hii] at hBf hBx
      have hF : SrPost w ts ⟨f, m⟩ ch H (.returned (.slice (some ⟨gr, 0, none⟩) R.length c)) wr := ⟨gr, c, bks, R, rfl, hBf, hBx, T, hb⟩
      clear hii hBf hBx T S hb
      go_wp2
      go_ret
      exact hF
end Go.Proofs.Ytpfnnpgielnaeaa
