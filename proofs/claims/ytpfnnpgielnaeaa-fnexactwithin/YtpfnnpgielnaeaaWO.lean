/- Which nodes are within reach: the model's. -/
import Derived.Test.YtpfnnpgielnaeaaWN
namespace Go.Proofs.Ytpfnnpgielnaeaa
open Go.RowKit

def UpNodes (A : List Int) (i : Nat) (L : List Int) : Prop := L.length ≤ i ∧ L.Pairwise (· < ·) ∧ ∀ x, x ∈ L ↔ ∃ n : Nat, n < i ∧ x = n ∧ 0 ≤ A.getD n 0
theorem upNodes_take {A : List Int} {i : Nat} {L : List Int} (h : UpNodes A i L) (h0 : 0 ≤ A.getD i 0) : UpNodes A (i + 1) (L ++ [(i : Int)]) := by
  obtain ⟨h1, h2, h3⟩ := h
  refine ⟨by simp; omega, List.pairwise_append.2 ⟨h2, by simp, fun x hx y hy => ?_⟩, fun x => ?_⟩
  · rw [List.mem_singleton.1 hy]; obtain ⟨n, hn, e, _⟩ := (h3 x).1 hx; omega
  · rw [List.mem_append, h3, List.mem_singleton]
    constructor
    · rintro (⟨n, hn, e, g⟩ | e)
      · exact ⟨n, by omega, e, g⟩
      · exact ⟨i, by omega, e, h0⟩
    · rintro ⟨n, hn, e, g⟩
      by_cases en : n = i
      · subst en; exact .inr e
      · exact .inl ⟨n, by omega, e, g⟩
theorem upNodes_skip {A : List Int} {i : Nat} {L : List Int} (h : UpNodes A i L) (h0 : ¬ 0 ≤ A.getD i 0) : UpNodes A (i + 1) L := by
  obtain ⟨h1, h2, h3⟩ := h
  refine ⟨by omega, h2, fun x => ?_⟩
  rw [h3]
  constructor
  · rintro ⟨n, hn, e, g⟩; exact ⟨n, by omega, e, g⟩
  · rintro ⟨n, hn, e, g⟩
    by_cases en : n = i
    · subst en; exact absurd g h0
    · exact ⟨n, by omega, e, g⟩
theorem upNodes_done {ts : List TripV} {f m ch : Int} {H : Nat} {A L : List Int} (hg : Gd ts) (hc : 0 ≤ ch) (hm : 0 ≤ m) (hf : 0 ≤ f ∧ f ≤ 29) (hA : Mins (reachP ts ⟨f, m⟩ ch H) A) (h : UpNodes A 30 L) : ∀ x, x ∈ L ↔ ∃ y, Jr ts ⟨f, m⟩ ch H ⟨x, y⟩ := fun x => by
  rw [h.2.2]
  constructor
  · rintro ⟨n, hn, rfl, g⟩
    rcases hA.2 n hn with ⟨e, _⟩ | ⟨e, _⟩
    · omega
    · exact ⟨_, e⟩
  · rintro ⟨y, hy⟩
    have hx : 0 ≤ x ∧ x ≤ 29 := by
      rcases Jr.most hg hy with e | e
      · have : x = f := congrArg Qn.n e
        omega
      · exact ⟨e.1, e.2.1⟩
    refine ⟨x.toNat, by omega, by omega, ?_⟩
    have e1 : ((x.toNat : Nat) : Int) = x := by omega
    rcases hA.2 x.toNat (by omega) with ⟨_, e⟩ | ⟨e, _⟩
    · exact absurd (by show Jr ts ⟨f, m⟩ ch H ⟨((x.toNat : Nat) : Int), y⟩; rw [e1]; exact hy) (e y)
    · have : m ≤ A.getD x.toNat 0 := Jr.ge hg hc e
      omega

set_option maxRecDepth 20000 in
set_option maxHeartbeats 3200000 in
theorem cWithS (a : Option Addr) (cap : Nat) (ts : List TripV) (f m ch h : Int) (w : World) (hz : Trips w a ts) (hS : Small ts) :
    Calls Try.prog 38 #[.slice a ts.length cap, .int .i64 f, .int .i64 m, .int .i64 ch, .int .i64 h] w (RowAns w (WithL ts f m ch h)) := by
  obtain ⟨i0, hi, hz0, hz1, hz2⟩ := info_parts infoInts
  go_enter Try.func38, Try.ntmps38
  go_wp2_with fail
  refine (cAskS a cap ts f f m ch h _ hz hS).mono ?_
  rintro e w1 ⟨r, rfl, hr, hb⟩
  cases r
  · have hF : WithL ts f m ch h [] := .inl ⟨fun q => absurd (hr.2 q) (by decide), rfl⟩
    clear hr
    go_wp2
    go_ret
    exact ⟨_, rfl, [], hF, World.ownsRow_nil _ _ _ _, hb⟩
  have q := hide (hr.1 rfl)
  clear hr
  obtain ⟨hg, hf, ht, hm, hc, hh⟩ := q.out.parts
  obtain ⟨H, rfl⟩ : ∃ H : Nat, h = H := ⟨h.toNat, by omega⟩
  have hba := balloc w1 (.cells #[] 3)
  have o0 := World.ownsRow_made (e := 3) (size := 1) w1 #[] 0 (Nat.le_refl _) (by omega) rfl
  have HB := btrans hb hba
  have CR := cReach a cap ts f m ch H _ (hz.below HB) hg hf.1 hf.2 hm.1 (by omega) hc.1 hc.2 (by omega)
  have hsz1 := hb.size
  go_wp2_with fail
  refine CR.mono ?_
  rintro e w2 ⟨v, rfl, A, hA, ho, hb2⟩
  obtain ⟨g, gc, rfl, hgB, R30, -⟩ := row30_of ho
  rw [sz1] at hgB
  have o1 := own_base (own_keep o0 hb2) hsz1
  replace HB := btrans HB hb2
  have hd := hide (fun L (u : UpNodes A 30 L) => (show WithL ts f m ch H L from .inr ⟨q.out, by have := u.1; omega, u.2.1, upNodes_done hg hc.1 hm.1 hf hA u⟩))
  have hB0 : w.heap.size ≤ g := by omega
  clear CR ho hA hb hb2 hba o0 hg hf ht hm hc hh hz
  go_wp2
  go_loopw [11, 13] (fun v ii wr => ∃ (i : Nat) (L : List Int), i ≤ 30 ∧ ii = .int .i64 i ∧ Hid (UpNodes A i L) ∧ wr.ownsRow w.heap.size 3 1 v L.length (L.map (.int .i64)) ∧ v.ownBlock ≠ some g ∧ Row30 wr g gc A ∧ Below w.heap.size w wr) (fun _ ii _ => 30 - (intOf ii).toNat)
  case atStart => exact ⟨0, [], Nat.zero_le _, rfl, hide ⟨Nat.le_refl _, by simp, fun x => by simp⟩, by simpa using o1, by simp [Value.ownBlock]; omega, R30, HB⟩
  case round =>
    clear o1 R30 HB
    obtain ⟨i, L, hi30, rfl, hU, ho, hne, RA, hb⟩ := hrel
    obtain ⟨va, vc, rfl⟩ := own_form ho
    by_cases hlt : i < 30
    · have hlt' : (i : Int) < 30 := by omega
      have x0 := RA.cell hlt
      have hLl := hU.out.1
      have hT := hide (fun h0 => upNodes_take hU.out h0)
      have hK := hide (fun h0 => upNodes_skip hU.out h0)
      generalize A.getD i 0 = z at *
      by_cases hzz : 0 ≤ z
      · have hU2 := hide (hT.out hzz)
        have hsz := hb.size
        have hbs := RA.lt
        clear hU hT hK
        go_wp2_with (at_builtin; refine wpList_append_own_at _ rfl _ _ 27 rfl w.heap.size 3 i0 (.int .i64 0) 1 8 Try.underlying27 hi hz0 hz1 hz2 rfl (by decide) _ _ _ rfl (ho.alloc _) ⟨wr.heap.size, 0, none⟩ 1 1 [.int .i64 (i : Int)] rfl rfl ?c1 ?c2 ?c3 ?c4 ?c5 ?_)
        case c1 =>
          intro j x hj
          match j, hj with
          | 0, hj => simp at hj; subst hj; simp [Addr.add]
        case c2 => intro x hx; simp at hx; subst hx; rfl
        case c3 => unfold maxLen; omega
        case c4 => omega
        case c5 => simp; omega
        intro v5 w5 hown5 hgrow5 _ hloc5
        have hfrom := own_from ho (Nat.le_refl _)
        have hb5 : Below w.heap.size w w5 := (hb.alloc hsz _).grown hgrow5 (by simp; omega) (fun j e => by have := hfrom j e; omega)
        have ho5 : w5.ownsRow w.heap.size 3 1 v5 (L ++ [(i : Int)]).length ((L ++ [(i : Int)]).map (.int .i64)) := by rw [List.map_append, List.length_append]; exact hown5
        have RA5 : Row30 w5 g gc A := own_far (RA.below (balloc wr _)) hgrow5 (fun k hk e => by simp [Value.ownBlock] at hk; subst hk; exact hne e.symm)
        have hne5 : v5.ownBlock ≠ some g := by
          rcases hloc5 with e | e
          · rw [e]; exact hne
          · rw [e]; simp; omega
        clear hown5 hgrow5 hloc5 hfrom ho hsz x0 RA
        go_wp2
        go_roundw
        case rel => exact ⟨i + 1, L ++ [(i : Int)], by omega, by go_num, hU2, ho5, hne5, RA5, hb5⟩
        case measure => simp [intOf]; omega
      · have hU2 := hide (hK.out hzz)
        clear hU hT hK
        go_wp2
        go_roundw
        case rel => exact ⟨i + 1, L, by omega, by go_num, hU2, ho, hne, RA, hb⟩
        case measure => simp [intOf]; omega
    · have hlt' : ¬ (i : Int) < 30 := by omega
      have hii : i = 30 := by omega
      have hU30 : UpNodes A 30 L := by have := hU.out; rw [hii] at this; exact this
      have hG : RowAns w (WithL ts f m ch H) (.returned (.slice va L.length vc)) wr := ⟨_, rfl, L, hd.out L hU30, ho, hb⟩
      clear hii hU30 hU ho hd
      go_wp2
      go_ret
      exact hG
end Go.Proofs.Ytpfnnpgielnaeaa
