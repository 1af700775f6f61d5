/- The program's Journey. -/
import Derived.Test.YtpfnnpgielnaeaaJA
import Derived.Test.YtpfnnpgielnaeaaLA
namespace Go.Proofs.Ytpfnnpgielnaeaa
open Go.RowKit Go.Maps
def toLeg (x : Lg) : LegV := ⟨x.1, x.2.1, x.2.2⟩
def Nd.leg (x : Nd) : LegV := ⟨x.t, x.k, x.l⟩
def ndOf (bks : List Nat) (R : List Rec) (j : Nat) : Nd := ⟨bks.getD j 0, (R.getD j Rec.zero).t, (R.getD j Rec.zero).k, (R.getD j Rec.zero).l, (R.getD j Rec.zero).n, (R.getD j Rec.zero).m⟩
/-- What Journey tells. -/
def JnAns (ts : List TripV) (f u m ch h : Int) (L : List LegV) : Prop :=
  (¬ AskP ts f u m ch h ∧ L = []) ∨ (AskP ts f u m ch h ∧ ∃ r, IsSoon ts ⟨f, m⟩ ch h.toNat u r ∧ ((r < 0 ∧ L = []) ∨ (0 ≤ r ∧ ∃ P, IsJn ts ⟨f, m⟩ ch ⟨u, r⟩ P ∧ P.length ≤ 5 ∧ L = P.map toLeg)))
theorem JnAns.uniq {ts : List TripV} {f u m ch h : Int} {L L' : List LegV} (a : JnAns ts f u m ch h L) (b : JnAns ts f u m ch h L') : L = L' := by
  rcases a with ⟨a1, a2⟩ | ⟨a1, r, a2, a3⟩ <;> rcases b with ⟨b1, b2⟩ | ⟨b1, r', b2, b3⟩
  · rw [a2, b2]
  · exact absurd b1 a1
  · exact absurd a1 b1
  · obtain rfl : r = r' := IsMin.uniq a2 b2
    rcases a3 with ⟨a3, a4⟩ | ⟨a3, P, a4, _, a5⟩ <;> rcases b3 with ⟨b3, b4⟩ | ⟨b3, P', b4, _, b5⟩
    · rw [a4, b4]
    · omega
    · omega
    · rw [a5, b5, a4.uniq b4]
theorem JnAns.len {ts : List TripV} {f u m ch h : Int} {L : List LegV} (a : JnAns ts f u m ch h L) : L.length ≤ 5 := by
  rcases a with ⟨_, rfl⟩ | ⟨_, r, _, ⟨_, rfl⟩ | ⟨_, P, _, h, rfl⟩⟩
  · simp
  · simp
  · simpa using h
theorem btrans' {B : Nat} {a b c : World} {C : Nat} (h : Below B a b) (g : Below C b c) (hC : B ≤ C := by omega) : Below B a c := h.trans (g.mono hC)
theorem ln_at {w : World} : ∀ {ys : List Nd} {i : Nat} {x : Nd}, Ln w ys → ys.drop i = x :: ys.drop (i + 1) → w.heap[x.b]? = some (ndObj x (hdN (ys.drop (i + 1))))
  | [], i, x, _, h => by simp at h
  | y :: r, 0, x, h, e => by
    simp only [List.drop_zero, List.cons.injEq] at e
    obtain ⟨rfl, _⟩ := e
    simpa using h.1
  | y :: r, i + 1, x, h, e => by
    rw [List.drop_succ_cons] at e ⊢
    exact ln_at h.2 e
/-- The stretches of a journey, from the last to the first. -/
theorem chain_of {w' : World} {B gr : Nat} {bks : List Nat} {R : List Rec} {ts : List TripV} {s : Qn} {ch : Int} {H : Nat} (hf : Bf ts s ch H R R.length) (hx : Bx ts s ch H R R.length) (T : Told w' B gr bks R) :
    ∀ j, j < R.length → ∃ is : List Nat, (j :: is).Pairwise (· > ·) ∧ (∀ i ∈ j :: is, i < R.length) ∧ Ln w' ((j :: is).map (ndOf bks R)) ∧ ∃ js, (j :: is).reverse = 0 :: js ∧ js.map (fun i => (ndOf bks R i).leg) = (R.getD j Rec.zero).pa.map toLeg := by
  intro j
  induction j using Nat.strongRecOn with
  | _ j ih =>
    intro hj
    have hst := T.st j hj
    by_cases h0 : j = 0
    · subst h0
      refine ⟨[], by simp, by simpa using hj, ⟨?_, trivial⟩, [], rfl, ?_⟩
      · show w'.heap[bks.getD 0 0]? = _
        rw [hst]; rfl
      · rw [hf.fst]; rfl
    · obtain ⟨h1, h2, h3, h4⟩ := hx.lnk j (by omega) hj
      obtain ⟨is, i1, i2, i3, js, i4, i5⟩ := ih _ h2 h1
      refine ⟨(R.getD j Rec.zero).par :: is, ?_, ?_, ⟨?_, i3⟩, js ++ [j], ?_, ?_⟩
      · rw [List.pairwise_cons]
        refine ⟨fun i hi => ?_, i1⟩
        rcases List.mem_cons.1 hi with rfl | hi
        · exact h2
        · have := (List.pairwise_cons.1 i1).1 i hi
          omega
      · intro i hi
        rcases List.mem_cons.1 hi with rfl | hi
        · exact hj
        · exact i2 i hi
      · show w'.heap[bks.getD j 0]? = _
        rw [hst]
        unfold recCells
        rw [if_neg h0]
        rfl
      · rw [List.reverse_cons, i4]; rfl
      · rw [List.map_append, i5, h4, List.map_append]; rfl
theorem chain_nodup {w' : World} {B gr : Nat} {bks : List Nat} {R : List Rec} (T : Told w' B gr bks R) : ∀ {is : List Nat}, is.Pairwise (· > ·) → (∀ i ∈ is, i < R.length) → ((is.map (ndOf bks R)).map Nd.b).Nodup ∧ ∀ x ∈ is.map (ndOf bks R), B ≤ x.b
  | [], _, _ => ⟨by simp, by simp⟩
  | i :: is, h, g => by
    rw [List.pairwise_cons] at h
    obtain ⟨h1, h2⟩ := chain_nodup T h.2 (fun j hj => g j (List.mem_cons_of_mem _ hj))
    refine ⟨?_, ?_⟩
    · rw [List.map_cons, List.map_cons, List.nodup_cons]
      refine ⟨fun hm => ?_, h1⟩
      rw [List.map_map] at hm
      obtain ⟨k, hk, e⟩ := List.mem_map.1 hm
      exact T.nd k i (h.1 k hk) (g i List.mem_cons_self) e
    · intro x hx
      rw [List.map_cons] at hx
      rcases List.mem_cons.1 hx with rfl | hx
      · exact T.nb i (g i List.mem_cons_self)
      · exact h2 x hx
def LegAns (w : World) (P : List LegV → Prop) (e : Ending) (w' : World) : Prop := ∃ v, e = .returned v ∧ ∃ L, P L ∧ w'.ownsRow w.heap.size 63 3 v L.length (flatLegs L) ∧ Below w.heap.size w w'
theorem jn_some {ts : List TripV} {f u m ch h : Int} {R : List Rec} {b : Nat} (q : AskP ts f u m ch h) (hf : Bf ts ⟨f, m⟩ ch h.toNat R R.length) (hx : Bx ts ⟨f, m⟩ ch h.toNat R R.length) (hB : Best R u R.length (some b)) : b < R.length ∧ JnAns ts f u m ch h ((R.getD b Rec.zero).pa.map toLeg) := by
  have hs := best_soon hf hB
  obtain ⟨hg, _, _, hm, hc, hh⟩ := q.parts
  rcases hB with ⟨h, _⟩ | ⟨b', h1, h2, h3, _⟩
  · cases h
  · cases h2
    have hj := bx_jn hf hx h1
    have hr := hf.snd _ (getD_mem (d := Rec.zero) h1)
    have hp := hx.pth _ (getD_mem (d := Rec.zero) h1)
    have hq : (R.getD b Rec.zero).q = ⟨u, (R.getD b Rec.zero).m⟩ := by unfold Rec.q; rw [h3]
    rw [hq] at hj hr
    have hge := hr.1.ge hg hc.1
    dsimp only at hge
    exact ⟨h1, .inr ⟨q, _, hs, .inr ⟨by show 0 ≤ (R.getD b Rec.zero).m; omega, _, hj, by rw [hp.2]; omega, rfl⟩⟩⟩

set_option maxRecDepth 20000 in
set_option maxHeartbeats 1600000 in
theorem cJourneyI (a : Option Addr) (cap : Nat) (ts : List TripV) (f u m ch h : Int) (w : World) (hz : Trips w a ts) (hS : Small ts) :
    Calls Try.prog 29 #[.slice a ts.length cap, .int .i64 f, .int .i64 u, .int .i64 m, .int .i64 ch, .int .i64 h] w (LegAns w (JnAns ts f u m ch h)) := by
  obtain ⟨i0, hi, hz0, hz1, hz2⟩ := info_parts infoLegs
  go_enter Try.func29, Try.ntmps29
  go_wp2_with fail
  refine (cStretch a cap ts f u m ch h _ hz hS).mono ?_
  rintro e w1 ⟨hb, ⟨hq, rfl⟩ | ⟨hq, gr, bks, R, o, rfl, hBf, hBx, T, hB⟩⟩
  · have hF : JnAns ts f u m ch h [] := .inl ⟨hq, rfl⟩
    clear hq
    go_wp2
    go_ret
    exact ⟨_, rfl, [], hF, World.ownsRow_nil _ _ _ _, hb⟩
  cases o with
  | none =>
    have hF : JnAns ts f u m ch h [] := .inr ⟨hq, _, best_soon hBf hB, .inl ⟨by show (-1 : Int) < 0; omega, rfl⟩⟩
    simp only [ptrOf]
    clear hq hBf hBx T hB
    go_wp2
    go_ret
    exact ⟨_, rfl, [], hF, World.ownsRow_nil _ _ _ _, hb⟩
  | some b =>
    obtain ⟨hbl, hF⟩ := jn_some hq hBf hBx hB
    obtain ⟨is, c1, c2, c3, js, c4, c5⟩ := chain_of hBf hBx T b hbl
    obtain ⟨c6, c7⟩ := chain_nodup T c1 c2
    have hsz1 := hb.size
    have hrev : ((b :: is).map (ndOf bks R)).reverse = ndOf bks R 0 :: js.map (ndOf bks R) := by rw [← List.map_reverse, c4]; rfl
    have hnd2 : ((js.map (ndOf bks R)).map Nd.b).Nodup := by
      have : ((((b :: is).map (ndOf bks R)).reverse).map Nd.b).Nodup := by rw [List.map_reverse]; exact List.pairwise_reverse.2 (c6.imp (fun h e => h e.symm))
      rw [hrev, List.map_cons, List.nodup_cons] at this
      exact this.2
    have hlg : (js.map (ndOf bks R)).map Nd.leg = (R.getD b Rec.zero).pa.map toLeg := by rw [← c5, List.map_map]; rfl
    have CT := cTurned w.heap.size ((b :: is).map (ndOf bks R)) w1 c3 c6 c7
    rw [hrev] at CT
    have e0 : hdN ((b :: is).map (ndOf bks R)) = some ⟨bks.getD b 0, 0, none⟩ := rfl
    rw [e0] at CT
    rw [← hlg] at hF
    generalize js.map (ndOf bks R) = ys at *
    generalize ndOf bks R 0 = x0 at *
    simp only [ptrOf]
    have hFh := hide hF
    have hM := hide (fun i => mea_drop ys i hnd2)
    have hlen : ys.length ≤ 5 := by simpa using hF.len
    clear hq hBf hBx T hB c1 c2 c3 c4 c5 c6 c7 hrev hlg hnd2 e0 hF hbl
    generalize bks.getD b 0 = gb at *
    go_wp2_with fail
    refine CT.mono ?_
    rintro e w2 ⟨rfl, hL, hb2⟩
    have HB := btrans' hb hb2
    have hL1 := hL.1
    have hL2 := hide hL.2
    obtain ⟨-, -, -, -, -, u5⟩ := six_cells (by unfold ndObj at hL1; exact hL1)
    have ehd : hdN (x0 :: ys) = some ⟨x0.b, 0, none⟩ := rfl
    rw [ehd]
    clear CT hL hL1 ehd hb hb2
    have hI0 : Hid (∃ i, i ≤ ys.length ∧ Value.pointer (hdN ys) = .pointer (hdN (ys.drop i)) ∧ w2.ownsRow w2.heap.size 63 3 (.slice none 0 0) i (flatLegs ((ys.take i).map Nd.leg)) ∧ Below w2.heap.size w2 w2) := ⟨0, Nat.zero_le _, rfl, World.ownsRow_nil _ _ _ _, Below.refl _ _⟩
    generalize hph : hdN ys = ph at *
    clear hph
    go_wp2
    go_loopw [14, 16] (fun v nx wr => ∃ i, i ≤ ys.length ∧ nx = .pointer (hdN (ys.drop i)) ∧ wr.ownsRow w2.heap.size 63 3 v i (flatLegs ((ys.take i).map Nd.leg)) ∧ Below w2.heap.size w2 wr) (fun _ nx _ => mea ys (ptrA nx))
    case atStart => exact hI0.out
    case round =>
      clear hI0 u5
      obtain ⟨i, hi5, rfl, ho, hbr⟩ := hrel
      obtain ⟨va, vc, rfl⟩ := own_form ho
      by_cases hlt : i < ys.length
      · obtain ⟨x, hx, htk⟩ := drop_at hlt
        have hm1 := hM.out i
        have hm2 := hM.out (i + 1)
        have hmes : Hid (mea ys (hdN (ys.drop (i + 1))) < mea ys (some ⟨x.b, 0, none⟩)) := by
          have e1 : mea ys (some ⟨x.b, 0, none⟩) = (x :: ys.drop (i + 1)).length := by rw [← hx, ← hm1, hx]; rfl
          show _ < _
          rw [hm2, e1]
          simp
        have hX : ∀ w', Below w2.heap.size w2 w' → w'.heap[x.b]? = some (ndObj x (hdN (ys.drop (i + 1)))) := fun w' hb => ln_at (hL2.out.below hb) hx
        have hX1 := hX wr hbr
        have hXh := hide hX
        obtain ⟨v0, v1, v2, -, -, -⟩ := six_cells (by unfold ndObj at hX1; exact hX1)
        have zb := lt_of_block hX1
        have hnew : Hid (flatLegs ((ys.take (i + 1)).map Nd.leg) = flatLegs ((ys.take i).map Nd.leg) ++ LegV.vs ⟨x.t, x.k, x.l⟩) := by
          show _ = _
          rw [htk, List.map_append, flatLegs_app]; rfl
        have hnext : Hid (hdN (ys.drop (i + 1)) = hdN (ys.drop (i + 1))) := rfl
        rw [hx]
        have ehd : hdN (x :: ys.drop (i + 1)) = some ⟨x.b, 0, none⟩ := rfl
        rw [ehd]
        generalize hpr : hdN (ys.drop (i + 1)) = pr at *
        replace hpr := hide hpr
        have hsz := hbr.size
        obtain ⟨xb, xt, xk, xl, xn, xm⟩ := x
        dsimp only at *
        have ho2 := ho.alloc (.cells #[.int .i64 xt, .int .i64 xk, .int .i64 xl] 63)
        have hba := btrans hbr (balloc wr (.cells #[.int .i64 xt, .int .i64 xk, .int .i64 xl] 63))
        clear hX hX1 hm1 hm2 hx htk ehd hM hnext
        go_wp2_with (at_builtin; refine wpList_append_own _ rfl _ _ 38 rfl w2.heap.size 63 i0 _ 3 24 Try.underlying38 hi hz0 hz1 hz2 rfl (by decide) _ _ _ rfl ho2 ⟨wr.heap.size, 0, none⟩ 1 1 (LegV.vs ⟨xt, xk, xl⟩) rfl rfl ?c1 ?c2 ?c3 ?c4 ?c5 ?_)
        case c1 =>
          intro j u h
          match j, h with
          | 0, h => simp [LegV.vs] at h; subst h; simp [Addr.add]
          | 1, h => simp [LegV.vs] at h; subst h; simp [Addr.add]
          | 2, h => simp [LegV.vs] at h; subst h; simp [Addr.add]
          | _ + 3, h => simp [LegV.vs] at h
        case c2 => simp [Value.oneCell', LegV.vs]
        case c3 => unfold maxLen; omega
        case c4 => omega
        case c5 => simp; omega
        intro v5 w5 hown5 hgrow5 _
        have hfrom := own_from ho2 (Nat.le_refl _)
        have hb5 : Below w2.heap.size w2 w5 := hba.grown hgrow5 hba.size hfrom
        have hX5 := hXh.out w5 hb5
        obtain ⟨-, -, -, -, -, u5⟩ := six_cells (by unfold ndObj at hX5; exact hX5)
        have hend : Hid (∃ j, j ≤ ys.length ∧ Value.pointer pr = .pointer (hdN (ys.drop j)) ∧ w5.ownsRow w2.heap.size 63 3 v5 j (flatLegs ((ys.take j).map Nd.leg)) ∧ Below w2.heap.size w2 w5) :=
          ⟨i + 1, by omega, by rw [hpr.out], by rw [hnew.out, List.map_take]; exact hown5, hb5⟩
        clear hnew hown5 hgrow5 hb5 hX5 hXh hfrom ho2 hba ho hbr hsz v0 v1 v2 zb
        go_wp2
        go_roundw
        case rel => exact hend.out
        case measure => exact hmes.out
      · have hdr : ys.drop i = [] := List.drop_eq_nil_of_le (by omega)
        have htk : ys.take i = ys := List.take_of_length_le (by omega)
        have hle : Hid ((ys.map Nd.leg).length = i) := by show _ = _; rw [List.length_map]; omega
        rw [htk] at ho
        rw [hdr]
        have ehd : hdN [] = none := rfl
        rw [ehd]
        have hfin : Hid (LegAns w (JnAns ts f u m ch h) (.returned (.slice va i vc)) wr) := ⟨_, rfl, ys.map Nd.leg, hFh.out, by rw [hle.out]; exact own_base ho HB.size, btrans' HB hbr HB.size⟩
        clear hdr htk hM hle ho hbr HB hFh hL2 ehd
        go_wp2
        go_ret
        exact hfin.out
end Go.Proofs.Ytpfnnpgielnaeaa
