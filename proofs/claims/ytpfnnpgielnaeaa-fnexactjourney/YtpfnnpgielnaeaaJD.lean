/- The model's Journey, given its first leg. -/
import Derived.Test.YtpfnnpgielnaeaaJB
import Derived.Test.YtpfnnpgielnaeaaRC
import Derived.Test.YtpfnnpgielnaeaaLR
namespace Go.Proofs.Ytpfnnpgielnaeaa
open Go.RowKit
theorem JnAns.small {ts : List TripV} {f u m ch h : Int} {L : List LegV} (a : JnAns ts f u m ch h L) : L.length ≤ 1000 := Nat.le_trans a.len (by omega)
/-- What the model's first leg is. -/
def FirstLeg (w : World) (ts : List TripV) (ch to_ e n r : Int) (F : Nat) (ed : Ending) (w' : World) : Prop :=
  ∃ x : Lg, ed = .returned (.agg #[.int .i64 x.1, .int .i64 x.2.1, .int .i64 x.2.2]) ∧ Fits ts ch to_ e n r F x ∧ (∀ y, lgLt y x → ¬ Fits ts ch to_ e n r F y) ∧ Below w.heap.size w w'
def FirstC : Prop := ∀ (a : Option Addr) (cap : Nat) (ts : List TripV) (n r ch e : Int) (T F : Nat) (w : World) (_ : Trips w a ts) (_ : Gd ts) (_ : T < 30) (_ : 0 ≤ ch) (_ : ch ≤ 60) (_ : F ≤ 5) (_ : ∃ x, Fits ts ch T e n r F x),
    Calls Try.prog 67 #[.slice a ts.length cap, .int .i64 n, .int .i64 T, .int .i64 r, .int .i64 ch, .int .i64 F, .int .i64 e] w (FirstLeg w ts ch T e n r F)
/-- What the first loop holds. -/
def Fw (w : World) (P : Nat → Prop) (H : Nat) (v : Value) (wr : World) : Prop := ∃ k : Nat, k ≤ H ∧ v = .int .i64 k ∧ (∀ j, j < k → ¬ P j) ∧ Below w.heap.size w wr
theorem Fw.mk {w wr : World} {P : Nat → Prop} {H : Nat} {v : Value} (k : Nat) (h1 : k ≤ H) (h2 : v = .int .i64 k) (h3 : ∀ j, j < k → ¬ P j) (h4 : Below w.heap.size w wr) : Fw w P H v wr := ⟨k, h1, h2, h3, h4⟩
theorem far_blk5 {w w' : World} {r : Option Nat} (hgr : w.grownBy w' r) {b : Nat} {o : Obj} (h : w.heap[b]? = some o) (hne : ∀ j, r = some j → j ≠ b) : w'.heap[b]? = some o :=
  (hgr.block b (lt_of_block h) (fun e => hne b e.symm rfl)).trans h
/-- What the second loop holds. -/
def Gw (w : World) (ts : List TripV) (s : Qn) (ch : Int) (T : Nat) (e : Int) (vf vo vk vr : Value) (wr : World) : Prop :=
  ∃ (n r : Int) (F : Nat) (out : List Lg), vf = .int .i64 n ∧ vk = .int .i64 F ∧ vr = .int .i64 r ∧ Jv ts s ch T e n r F out ∧ out.length + F ≤ 5 ∧ wr.ownsRow w.heap.size 63 3 vo out.length (flatLegs (out.map toLeg)) ∧ Below w.heap.size w wr

set_option maxRecDepth 20000 in
set_option maxHeartbeats 3200000 in
theorem cJourneyS (CF : FirstC) (a : Option Addr) (cap : Nat) (ts : List TripV) (f u m ch h : Int) (w : World) (hz : Trips w a ts) (hS : Small ts) :
    Calls Try.prog 28 #[.slice a ts.length cap, .int .i64 f, .int .i64 u, .int .i64 m, .int .i64 ch, .int .i64 h] w (LegAns w (JnAns ts f u m ch h)) := by
  obtain ⟨i0, hi, hz0, hz1, hz2⟩ := info_parts infoLegs
  have CFh := hide CF
  clear CF
  go_enter Try.func28, Try.ntmps28
  go_wp2_with fail
  refine (cSoonS a cap ts f u m ch h _ hz hS).mono ?_
  rintro e w1 ⟨e, rfl, he, hb⟩
  by_cases he0 : e < 0
  · have hF : Hid (JnAns ts f u m ch h []) := by
      rcases he with ⟨h1, _⟩ | ⟨h1, h2⟩
      · exact .inl ⟨h1, rfl⟩
      · exact .inr ⟨h1, e, h2, .inl ⟨he0, rfl⟩⟩
    clear he
    have hb2 := btrans hb (balloc w1 (.cells #[] 63))
    go_wp2
    go_ret
    exact ⟨_, rfl, [], hF.out, World.ownsRow_nil _ _ _ _, hb2⟩
  rcases he with ⟨_, h2⟩ | ⟨q, hs⟩
  · omega
  obtain ⟨hg, hf, ht, hm, hc, hh⟩ := q.parts
  obtain ⟨H, rfl⟩ : ∃ H : Nat, h = H := ⟨h.toNat, by omega⟩
  obtain ⟨T, rfl⟩ : ∃ T : Nat, u = T := ⟨u.toNat, by omega⟩
  have hsz := hb.size
  have hq : Hid (∀ k : Nat, k ≤ H → AskP ts f T m ch k) := fun k hk => ⟨q.1, q.2.1, q.2.2.1, q.2.2.2.1, q.2.2.2.2.1, inB_yes (by omega) (by omega)⟩
  have hs' : IsSoon ts ⟨f, m⟩ ch H T e := by simpa using hs
  have hsH := hide hs'
  clear hs'
  have O0 : (w1.alloc (.cells #[] 63)).ownsRow w.heap.size 63 3 (.slice (some ⟨w1.heap.size, 0, none⟩) 0 0) 0 [] := by simpa using World.ownsRow_made w1 #[] 0 hsz (by omega) rfl
  have hb1 := btrans hb (balloc w1 (.cells #[] 63))
  have O0h := hide O0
  have hgh := hide hg
  have he1 : 0 ≤ e := by omega
  have hH5 : H ≤ 5 := by omega
  have hT30 : T < 30 := by omega
  generalize hw0 : w1.alloc (.cells #[] 63) = W0 at *
  clear hs q O0 hb hh
  have hW : Hid (Below w.heap.size w W0) := hb1
  go_wp2
  go_loopw [15] (fun kk wr => Fw W0 (fun k => IsSoon ts ⟨f, m⟩ ch k T e) H kk wr) (fun kk _ => H - (intOf kk).toNat)
  case atStart => exact Fw.mk 0 (Nat.zero_le _) rfl (fun j hj => by omega) (Below.refl _ _)
  case round =>
    obtain ⟨k, hk, rfl, hno, hbr⟩ := hrel
    have HB := btrans' hW.out hbr hW.out.size
    have CS := cSoonS a cap ts f T m ch k wr (hz.below HB) hS
    have hnoH := hide hno
    clear hno
    go_wp2_with fail
    refine CS.mono ?_
    rintro e2 w2 ⟨r, rfl, hr, hb2⟩
    have hr2 : IsSoon ts ⟨f, m⟩ ch k T r := by
      rcases hr with ⟨hn, _⟩ | ⟨_, hr⟩
      · exact absurd (hq.out k hk) hn
      · simpa using hr
    replace hbr := btrans' hbr hb2 hbr.size
    replace HB := btrans HB hb2
    clear hr CS hb2
    by_cases hre : r = e
    · obtain rfl : e = r := hre.symm
      have hJ := hide (Jv.begin hgh.out hc.1 he1 hsH.out hk hr2 hnoH.out)
      have ho := hide (own_keep O0h.out hbr)
      clear hr2 hnoH hre
      have hG0 : Hid (Gw w ts ⟨f, m⟩ ch T e (.int .i64 f) (.slice (some ⟨w1.heap.size, 0, none⟩) 0 0) (.int .i64 k) (.int .i64 m) w2) := ⟨f, m, k, [], rfl, rfl, rfl, hJ.out, by simp; omega, ho.out, HB⟩
      clear hJ ho
      go_wp2
      go_loopw [1, 14, 15, 16] (fun vf vo vk vr wr => Gw w ts ⟨f, m⟩ ch T e vf vo vk vr wr) (fun _ _ vk _ _ => (intOf vk).toNat)
      case atStart => exact hG0.out
      case round =>
        clear hG0
        obtain ⟨n, r, F, out, rfl, rfl, rfl, hJ, hl5, ho, hb3⟩ := hrel
        replace hJ := hide hJ
        obtain ⟨va, vc, rfl⟩ := own_form ho
        by_cases hF : F = 0
        · subst hF
          have hfin : Hid (LegAns w (JnAns ts f T m ch H) (.returned (.slice va out.length vc)) wr) := ⟨_, rfl, out.map toLeg, .inr ⟨hq.out H (Nat.le_refl _), e, by simpa using hsH.out, .inr ⟨he1, out, hJ.out.zero rfl, by omega, rfl⟩⟩, by rw [List.length_map]; exact ho, hb3⟩
          clear hJ ho hsH hq
          go_wp2
          go_ret
          exact hfin.out
        · obtain ⟨G, rfl⟩ : ∃ G, F = G + 1 := ⟨F - 1, by omega⟩
          have CFF := CFh.out a cap ts n r ch e T G wr (hz.below hb3) hgh.out hT30 hc.1 hc.2 (by omega) (hJ.out.some hgh.out hc.1 he1)
          have hG0 : ¬ ((G : Int) + 1 ≤ 0) := by omega
          go_wp2_with fail
          refine CFF.mono ?_
          rintro e3 w3 ⟨⟨xi, xk, xl⟩, rfl, hx, hmin, hb4⟩
          have hJ2 := hide (hJ.out.step hgh.out hc.1 he1 hx hmin)
          obtain ⟨p, hlead, -⟩ := hx
          obtain ⟨l1, l2, l3⟩ := hlead.1
          dsimp only at l1 l2 l3 hJ2 ⊢
          replace hb3 := btrans hb3 hb4
          have ho3 := own_keep ho hb4
          have hsz3 := hb3.size
          have hlt3 := own_blk_lt ho3
          have LB := (two_blocks w3 (.cells #[.int .i64 xi, .int .i64 xk, .int .i64 xl] 63) (.cells #[.int .i64 xi, .int .i64 xk, .int .i64 xl] 63)).1
          have ho4 := (ho3.alloc (.cells #[.int .i64 xi, .int .i64 xk, .int .i64 xl] 63)).alloc (.cells #[.int .i64 xi, .int .i64 xk, .int .i64 xl] 63)
          have hb5 := btrans (btrans hb3 (balloc w3 (.cells #[.int .i64 xi, .int .i64 xk, .int .i64 xl] 63))) (balloc _ (.cells #[.int .i64 xi, .int .i64 xk, .int .i64 xl] 63))
          clear CFF hmin hlead hb4 ho hJ
          go_wp2_with (at_builtin; refine wpList_append_own _ rfl _ _ 38 rfl w.heap.size 63 i0 _ 3 24 Try.underlying38 hi hz0 hz1 hz2 rfl (by decide) _ _ _ rfl ho4 ⟨w3.heap.size + 1, 0, none⟩ 1 1 (LegV.vs ⟨xi, xk, xl⟩) rfl rfl ?c1 ?c2 ?c3 ?c4 ?c5 ?_)
          case c1 =>
            intro j u h
            match j, h with
            | 0, h => simp [LegV.vs] at h; subst h; simp [Addr.add, go_sem]
            | 1, h => simp [LegV.vs] at h; subst h; simp [Addr.add, go_sem]
            | 2, h => simp [LegV.vs] at h; subst h; simp [Addr.add, go_sem]
            | _ + 3, h => simp [LegV.vs] at h
          case c2 => simp [Value.oneCell', LegV.vs]
          case c3 => unfold maxLen; omega
          case c4 => omega
          case c5 => simp; omega
          intro v5 w5 hown5 hgrow5 _
          have hfrom := own_from ho4 (Nat.le_refl _)
          have HB5 : Below w.heap.size w w5 := hb5.grown hgrow5 hb5.size hfrom
          have L5 := far_blk5 hgrow5 LB (fun j hj => by have := hlt3 j hj; omega)
          have ho5 : Hid (w5.ownsRow w.heap.size 63 3 v5 (out ++ [(xi, xk, xl)]).length (flatLegs ((out ++ [(xi, xk, xl)]).map toLeg))) := by
            rw [List.map_append, flatLegs_app, List.length_append]; exact hown5
          obtain ⟨b, off, ca, cn, rfl, -, c2, hcn, hHl⟩ := (hz.below HB5).at l1
          have c2' : w5.cell? ⟨b, off + xi * 2 + 1, none⟩ = some (.slice ca (ncA ts xi) cn) := c2
          obtain ⟨b3, off3, rfl, p0, p1, p2⟩ := call_cells hHl l3
          have y0 := cell_of_blk (i := 0) L5 rfl
          have y1 := cell_of_blk (i := 1) L5 rfl
          have y2 := cell_of_blk (i := 2) L5 rfl
          obtain ⟨hr1, hr2, hr3, hr4⟩ := hgh.out.rng xi xl l1 l3
          have hsz5 := lt_of_block L5
          have lb1 := cell_lt c2'
          have lb3 := cell_lt p0
          have ne1 : w5.heap.size ≠ b := Nat.ne_of_gt lb1
          have ne2 : w5.heap.size ≠ b3 := Nat.ne_of_gt lb3
          have ne3 : w5.heap.size ≠ w3.heap.size := Nat.ne_of_gt hsz5
          have l1' : (xi : Int) < (ts.length : Int) := by omega
          have l3' : (xl : Int) < (ncA ts xi : Int) := by omega
          generalize (hcA ts xi xl).n = n2 at *
          generalize (hcA ts xi xl).a = a2 at *
          generalize (hcA ts xi xl).d = d2 at *
          have hend : Hid (∀ wx, Below w5.heap.size w5 wx → Gw w ts ⟨f, m⟩ ch T e (.int .i64 n2) v5 (.int .i64 G) (.int .i64 (a2 + ch)) wx) := fun wx hx => ⟨n2, a2 + ch, G, out ++ [(xi, xk, xl)], rfl, rfl, rfl, hJ2.out, by simp; omega, own_keep ho5.out hx, btrans HB5 hx⟩
          clear hJ2 ho5 hown5 hgrow5 hb5 hb3 ho3 ho4 LB L5 hfrom hlt3 hHl c2 hcn hsH hq CFh hgh O0h
          go_wp2_with fail
          go_region
          all_goals go_wp2
          all_goals go_roundw
          all_goals first
            | (refine hend.out _ ?_; first | exact (balloc _ _).drew | exact balloc _ _ | exact bdraw (balloc _ _) _ | exact btrans (bdraw (Below.refl _ _) _) (balloc _ _))
            | (simp [intOf]; done)
            | (simp [intOf]; omega)
    · have hk2 : k < H := Classical.byContradiction fun hn => by
        have : k = H := by omega
        subst this
        exact hre (IsMin.uniq hr2 hsH.out)
      have hno2 := hide (fun j (hj : j < k + 1) => show ¬ IsSoon ts ⟨f, m⟩ ch j T e from by
        by_cases hjk : j = k
        · subst hjk; exact fun h => hre (IsMin.uniq hr2 h)
        · exact hnoH.out j (by omega))
      clear hnoH hr2
      go_wp2
      go_roundw
      case rel => exact Fw.mk (k + 1) (by omega) (by go_num) hno2.out hbr
      case measure => simp [intOf]; omega
end Go.Proofs.Ytpfnnpgielnaeaa
