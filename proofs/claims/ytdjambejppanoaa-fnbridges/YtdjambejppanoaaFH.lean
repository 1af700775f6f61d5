/- heap.Push and heap.Pop over the front. -/
import Derived.Test.YtdjambejppanoaaFW
namespace Go.Proofs.Ytdjambejppanoaa
open Go.RowKit
theorem Kt.blk {w w1 : World} {fb : Nat} {v v1 : Value} (K : Kt w w1 fb v v1) {b : Nat} {o : Obj} (h : w.heap[b]? = some o) (h1 : b ≠ fb) (h2 : v.ownBlock ≠ some b) : w1.heap[b]? = some o :=
  (K.block b (lt_of_block h) h1 h2).trans h
theorem Kt.own {w w1 : World} {fb B B2 e sz n : Nat} {u v v1 : Value} {xs : List Value} (K : Kt w w1 fb v v1) (h : w.ownsRow B2 e sz u n xs) (hf : fb < B) (hB : ∀ k, u.ownBlock = some k → B ≤ k) (hne : ∀ k, u.ownBlock = some k → v.ownBlock ≠ some k) : w1.ownsRow B2 e sz u n xs := by
  refine ⟨h.1, ?_⟩
  rcases h.2 with h0 | ⟨g, cap, cur, rfl, hb, hh, rest⟩
  · exact .inl h0
  · have h3 := hB g rfl
    exact .inr ⟨g, cap, cur, rfl, hb, K.blk hh (by omega) (hne g rfl), rest⟩
theorem Fr.way {w w1 : World} {fb B : Nat} {v v1 : Value} {ps : List PT} (F : Fr w fb B v ps) (K : Kt w w1 fb v v1) {u : Value} {m : Nat} {ys : List Value} (h : w.ownsRow B 3 1 u m ys) : w1.ownsRow B 3 1 u m ys :=
  K.own h F.lt (own_from h (Nat.le_refl _)) (way_far F.own h)
theorem mulI {n : Nat} (h : 0 < n) : ((n : Int) - 1) = ((n - 1 : Nat) : Int) := by omega
set_option maxRecDepth 20000 in
set_option maxHeartbeats 1600000 in
theorem cHPush (fb B : Nat) (v : Value) (ps : List PT) (p : PT) (w : World) (F : Fr w fb B v ps) (hp : w.ownsRow B 3 1 (.slice p.a p.t.way.length p.c) p.t.way.length ((nI p.t.way).map (.int .i64))) (hn : ps.length ≤ 1000000) (S : Sm (ps ++ [p])) (hH : HeapN ps ps.length) :
    Calls Try.prog 58 #[.iface 84 (.pointer (some ⟨fb, 0, none⟩)), .iface 59 p.val] w fun e w' => e = .returned (.tuple #[]) ∧ ∃ v' qs, Fr w' fb B v' qs ∧ Kt w w' fb v v' ∧ qs.length = ps.length + 1 ∧ (∀ u, u ∈ qs ↔ u = p ∨ u ∈ ps) ∧ HeapN qs qs.length := by
  have hmp := metPush fb w
  have hU := hide (UpI.new (p := p) hH)
  have CP := cPushT fb B v ps p w F hp hn
  clear hH F hp
  generalize p.val = pv at *
  go_enter Try.func58, Try.ntmps58
  go_wp2_with fail
  refine CP.mono ?_
  rintro e w1 ⟨rfl, v1, F1, K1⟩
  clear CP hmp
  have e1 : (ps ++ [p]).length = ps.length + 1 := by simp
  obtain ⟨g, c, rfl, T1⟩ := F1.form (by omega)
  obtain ⟨b0, b1⟩ := F1.cell
  rw [e1] at b0
  have hml := metLen fb _ w1 b0
  have CLn := cLenT (some ⟨g, 0, none⟩) (ps.length + 1) c w1
  have CU := cUp fb B _ (ps ++ [p]) ps.length w1 F1 S (by omega) hU.out
  have hP : ∀ u, u ∈ ps ++ [p] ↔ u = p ∨ u ∈ ps := fun u => by simp [or_comm]
  replace hP := hide hP
  replace e1 := hide e1
  generalize hN : ps.length = N at *
  have hw : IntKind.i64.wrap (((N + 1 : Nat) : Int) - 1) = (N : Int) := by rw [wrap_in _ (by omega) (by omega)]; omega
  replace hN := hide hN
  clear F1 T1 b1
  go_wp2_with fail
  refine CLn.mono ?_
  rintro e w2 ⟨rfl, hw2⟩
  subst w2
  clear CLn
  go_wp2_with fail
  refine CU.mono ?_
  rintro e w3 ⟨rfl, qs, F3, K3, hl, hm, hh⟩
  have hF := hide (show ∃ v' qs, Fr w3 fb B v' qs ∧ Kt w w3 fb v v' ∧ qs.length = N + 1 ∧ (∀ u, u ∈ qs ↔ u = p ∨ u ∈ ps) ∧ HeapN qs qs.length from ⟨_, qs, F3, K1.trans K3, by rw [hl]; exact e1.out, fun u => (hm u).trans (hP.out u), hh⟩)
  clear CU F3 K3 K1 hl hm hh
  go_wp2
  exact bodyPost_end (results_none rfl _ _ _) rfl ⟨rfl, by rw [hN.out]; exact hF.out⟩
set_option maxRecDepth 20000 in
set_option maxHeartbeats 1600000 in
theorem cHPop (fb B : Nat) (v : Value) (ps : List PT) (w : World) (F : Fr w fb B v ps) (hn : ps.length ≤ 1000000) (h0 : 0 < ps.length) (S : Sm ps) (hH : HeapN ps ps.length) :
    Calls Try.prog 57 #[.iface 84 (.pointer (some ⟨fb, 0, none⟩))] w fun e w' => e = .returned (.iface 59 (gP ps 0).val) ∧ ∃ v' qs, Fr w' fb B v' qs ∧ Kt w w' fb v v' ∧ qs.length + 1 = ps.length ∧ (∀ u, u ∈ ps ↔ u = gP ps 0 ∨ u ∈ qs) ∧ HeapN qs qs.length := by
  obtain ⟨N, hN⟩ : ∃ N, ps.length = N + 1 := ⟨ps.length - 1, by omega⟩
  obtain ⟨g, c, rfl, T⟩ := F.form h0
  obtain ⟨b0, b1⟩ := F.cell
  have hml := metLen fb _ w b0
  have hms := metSwap fb _ w b0
  have CLn := cLenT (some ⟨g, 0, none⟩) ps.length c w
  have CS := cSwapT B g c ps 0 N w T S h0 (by omega)
  rw [hN] at hH
  have hD := hide (DnI.new hH)
  have hlast := hide (swap_j (ps := ps) (i := 0) (j := N) h0 (by omega))
  have hmem := hide (fun u => mem_swap (ps := ps) (i := 0) (j := N) h0 (by omega) u)
  have hsl := hide ((swapPT_len ps 0 N).trans hN)
  have S2 : Sm (swapPT ps 0 N) := ⟨by rw [hsl.out]; have := S.few; omega, fun q hq => S.ways q ((hmem.out q).1 hq)⟩
  have FS := fun w1 (T1 : Ts w1 B g c (swapPT ps 0 N)) (hg : w.grownBy w1 (some g)) => F.swapped T1 (swapPT_len _ _ _) hg
  have CD := fun w1 (F1 : Fr w1 fb B (.slice (some ⟨g, 0, none⟩) (ps.length) c) (swapPT ps 0 N)) => cDown fb B _ (swapPT ps 0 N) N w1 F1 S2 (by rw [hsl.out]; omega) (by rw [hsl.out]; omega) hD.out
  have hw : IntKind.i64.wrap ((ps.length : Int) - 1) = (N : Int) := by rw [wrap_in _ (by omega) (by omega)]; omega
  have hnb : (ps.length : Int) - 1 = (N : Int) := by omega
  replace hN := hide hN
  replace FS := hide FS
  clear hH hD T F b1 h0 S
  go_enter Try.func57, Try.ntmps57
  go_wp2_with fail
  refine CLn.mono ?_
  rintro e w1 ⟨rfl, hw1⟩
  subst w1
  clear CLn hml
  go_wp2_with fail
  refine CS.mono ?_
  rintro e w1 ⟨rfl, T1, hg⟩
  obtain ⟨F1, K1⟩ := FS.out w1 T1 hg
  clear CS hms b0 T1 hg FS
  go_wp2_with fail
  refine (CD _ F1).mono ?_
  rintro e w2 ⟨⟨b, rfl⟩, qs, F2, K2, hl, hm, hh, hrest⟩
  have hql := hl.trans hsl.out
  have hsp := split_last hql
  have hg0 : gP qs N = gP ps 0 := (hrest N (Nat.le_refl _)).trans hlast.out
  rw [hg0] at hsp
  rw [hsp] at F2
  have htl : (qs.take N).length = N := by rw [List.length_take]; omega
  have CPp := cPopT fb B _ (qs.take N) (gP ps 0) w2 F2 (by omega)
  have hmp := metPop fb w2
  have K3 := K1.trans K2
  have hmem2 := hide (fun u => (show u ∈ ps ↔ u = gP ps 0 ∨ u ∈ qs.take N from by
    rw [← hmem.out u, ← hm u]
    conv => lhs; rw [hsp]
    simp [or_comm]))
  have hh2 := hide hh.take
  replace htl := hide htl
  clear CD F1 K1 F2 K2 hl hm hh hrest hql hsp hg0 hmem hlast hsl
  generalize hqt : qs.take N = rs at *
  clear hqt
  have hlr := hide (show rs.length + 1 = ps.length by rw [htl.out, hN.out])
  generalize hp0 : gP ps 0 = p0 at *
  generalize hpv : p0.val = pv at *
  replace hp0 := hide hp0
  replace hpv := hide hpv
  go_wp2_with fail
  refine CPp.mono ?_
  rintro e w3 ⟨rfl, v3, F3, K4⟩
  have hF := hide (show ∃ v' qs, Fr w3 fb B v' qs ∧ Kt w w3 fb (.slice (some ⟨g, 0, none⟩) ps.length c) v' ∧ qs.length + 1 = ps.length ∧ (∀ u, u ∈ ps ↔ u = p0 ∨ u ∈ qs) ∧ HeapN qs qs.length from ⟨v3, rs, F3, K3.trans K4, hlr.out, hmem2.out, hh2.out⟩)
  clear CPp F3 K4 K3 hmem2 hh2
  go_wp2
  go_ret
  rw [hp0.out, hpv.out]
  exact ⟨rfl, hF.out⟩
end Go.Proofs.Ytdjambejppanoaa
