/- A train's step. -/
import Derived.Test.YtcadgafenbmihaaJ
namespace Go.Proofs.Ytcadgafenbmihaa
open Go.RowKit Fl

attribute [local go_sem] run_store_float

theorem far4 {w : World} {b o k : Nat} {x v : Value} (h : w.cell? ⟨b, k, none⟩ = some v) (hne : o ≠ k) : (w.setCell ⟨b, o, none⟩ x).cell? ⟨b, k, none⟩ = some v := by
  refine Eq.trans (World.cell?_setCell_other w _ _ _ ?_) h
  intro e; cases e; exact hne rfl

set_option maxRecDepth 20000 in
set_option maxHeartbeats 3200000 in
theorem c61 (b e0 d0 v sp sl : Nat) (l : LocoV) (a : Option Addr) (cap : Nat) (es : List CarV) (w : World) (hT : Train w b e0 d0 (weigh es) l (.slice a es.length cap) v sp) (he : Cars w a es) (hl : es.length ≤ 1048576)
    (ht : trainOk es = true) (hv : spd v = true) (hp : spn sp = true) :
    Calls Try.prog 61 #[.pointer (some ⟨b, 0, none⟩), .float .f64 sl] w fun r w' => r = .returned (.float .f64 (held (next l es v sl sp))) ∧
      (∃ e1 d1, Train w' b e1 d1 (weigh es) l (.slice a es.length cap) (held (next l es v sl sp)) sp) ∧ w.grownBy w' (some b) := by
  obtain ⟨u1, u2, u3, u4, -, -, -⟩ := next_v (l := l) (sl := sl) ht hv hp
  have o4 := fop u4
  generalize fmul (accel l es v sl) sp = s3 at *
  generalize accel l es v sl = s2 at *
  generalize next l es v sl sp = s4 at *
  generalize fsub (effort l v) (drag es v sl) = s1 at *
  obtain ⟨⟨c0, c1, c2, c3, c4, c5, c6, c7⟩, f0, f1, f6⟩ := hT.cells
  have hbs := hT.lt
  go_enter Try.func61, Try.ntmps61
  go_upto_region 1 with fail
  go_cut [] from 5 (fun wc => Train wc b (effort l v) (drag es v sl) (weigh es) l (.slice a es.length cap) v sp ∧ w.grownBy wc (some b))
  case first =>
    obtain ⟨p, g⟩ := l
    dsimp only at c3 c4
    have C27 := fun w => c27 ⟨p, g⟩ v w
    unfold LocoV.val at C27
    go_region_held3 (fun w' => w'.cell? ⟨b, 3, none⟩ = some (.float .f64 p) ∧ w'.cell? ⟨b, 4, none⟩ = some (.float .f64 g) ∧ w'.cell? ⟨b, 5, none⟩ = some (.slice a es.length cap) ∧ w'.cell? ⟨b, 6, none⟩ = some (.float .f64 v)) (first | go_keep | (go_split_ands; refine ⟨far4 (by assumption) (by decide), far4 (by assumption) (by decide), far4 (by assumption) (by decide), far4 (by assumption) (by decide)⟩)) (first | (go_at_call 27; with_reducible refine (C27 _).mono ?_; rintro e w1 ⟨rfl, hb1⟩; have HB1 := undrew hb1; have hs1 := HB1.size; obtain ⟨hc, hf⟩ := bcell HB1; clear hb1) | (go_at_call 34; with_reducible refine (c34 a cap es v sl _ (he.below HB1) hl).mono ?_; rintro e w2 ⟨rfl, hb2⟩; have HB2 := btrans HB1 hb2; obtain ⟨hc2, hf2⟩ := bcell HB2; clear hb2))
    go_wp2_with fail
    go_meet
    exact ⟨((hT.below HB2).set0 _).set1 _, gset (gset (gof HB2) _ _) _ _⟩
  case rest =>
    obtain ⟨hTc, hgr⟩ := hcut
    clear c0 c1 c2 c3 c4 c5 c6 c7 f0 f1 f6
    obtain ⟨⟨c0, c1, c2, c3, c4, c5, c6, c7⟩, f0, f1, f6⟩ := hTc.cells
    have hbc := hTc.lt
    clear hT hbs
    generalize effort l v = ef at *
    generalize drag es v sl = dr at *
    generalize hwe : weigh es = we at *
    replace hwe := hide hwe
    go_upto_region 2 with fail
    go_cut [] from 5 (fun wd => Train wd b ef dr we l (.slice a es.length cap) (held s4) sp ∧ w.grownBy wd (some b))
    case first =>
      go_region_with (first | (go_at_call 71; with_reducible refine (c71 ef dr we sp s1 s2 s3 _ u1 u2 u3).mono ?_; rintro e w1 ⟨rfl, hb1⟩; have HB1 := undrew hb1; have hs1 := HB1.size; obtain ⟨hc, hf⟩ := bcell HB1; clear hb1) | (go_at_call 70; with_reducible refine (c70 s4 _).mono ?_; rintro e w2 ⟨rfl, hb2⟩; have HB2 := btrans HB1 hb2; obtain ⟨hc2, hf2⟩ := bcell HB2; clear hb2))
      all_goals (go_wp2_with fail; go_meet)
      all_goals exact ⟨(hTc.below HB2).set6 _, gset (gbelow hgr HB2) _ _⟩
    case rest =>
      obtain ⟨hTd, hgd⟩ := hcut
      clear c0 c1 c2 c3 c4 c5 c6 c7 f0 f1 f6 hTc hgr hbc
      obtain ⟨⟨c0, c1, c2, c3, c4, c5, c6, c7⟩, f0, f1, f6⟩ := hTd.cells
      have hbc := hTd.lt
      go_wp2
      go_ret
      exact ⟨rfl, ⟨_, _, by rw [hwe.out]; exact hTd⟩, hgd⟩

end Go.Proofs.Ytcadgafenbmihaa
