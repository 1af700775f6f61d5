/- The trips of a drawn clock face are a timetable: mathematics. -/
import Derived.Test.YthlmaljgnhakfaaGreatDoorFC
import Derived.Test.YthlmaljgnhakfaaGreatDoorTM
import Derived.Test.YthlmaljgnhakfaaGreatDoorDY
namespace Go.Proofs.YthlmaljgnhakfaaGreatDoor
open Go.RowKit
theorem fmoved_all {cs : List HaltV} {x : Int} (hx : 0 ≤ x) (hx2 : x ≤ 1000) (hall : cs.all callB = true) (hu : ∀ p ∈ cs, p.d ≤ 400) : (movedL x cs).all callB = true := by
  rw [List.all_eq_true] at hall ⊢
  intro c hc
  obtain ⟨p, hp, rfl⟩ := List.mem_map.1 hc
  obtain ⟨⟨a1, a2⟩, ⟨a3, a4⟩, a5⟩ := call_parts (hall p hp)
  have := hu p hp
  simp [callB, inB]; omega
theorem fmoved_chain (x : Int) : ∀ cs, chainB cs = true → chainB (movedL x cs) = true
  | [], _ => rfl
  | [_], _ => rfl
  | p :: q :: r, h => by
    simp only [chainB, Bool.and_eq_true] at h
    have ih := fmoved_chain x (q :: r) h.2
    have h1 : stepB ⟨p.n, p.a + x, p.d + x⟩ ⟨q.n, q.a + x, q.d + x⟩ = true := by
      have := h.1
      simp only [stepB, Bool.and_eq_true, decide_eq_true_eq] at this ⊢
      exact ⟨by omega, this.2⟩
    show chainB (_ :: movedL x (q :: r)) = true
    unfold movedL at ih ⊢
    simp only [List.map_cons, chainB, Bool.and_eq_true] at ih ⊢
    exact ⟨h1, ih⟩
theorem fmoved_ok {s s' : ByteArray} {cs : List HaltV} {x : Int} (hs : nameB s' = true) (h : tripB ⟨s, cs⟩ = true) (hx : 0 ≤ x) (hx2 : x ≤ 1000) (hu : ∀ p ∈ cs, p.d ≤ 400) : tripB ⟨s', movedL x cs⟩ = true := by
  obtain ⟨h1, h2, h3, h4, h5⟩ := trip_parts h
  dsimp only at h1 h2 h3 h4 h5
  have h6 : inB (cs.length : Int) 2 12 = true := inB_yes (by omega) (by omega)
  simp only [tripB, hs, movedL_len, h6, fmoved_all hx hx2 h4 hu, fmoved_chain x cs h5, Bool.and_true]
theorem fmovedT {s : ByteArray} {cs : List HaltV} {x : Int} (h : tripB ⟨s, cs⟩ = true) (hx : 0 ≤ x) (hx2 : x ≤ 1000) (hu : ∀ p ∈ cs, p.d ≤ 400) : (movedT ⟨s, cs⟩ x).calls = movedL x cs := by
  unfold movedT
  rw [if_pos ⟨h, inB_yes (by omega) (by omega)⟩, ifOk, if_pos (fmoved_ok (trip_parts h).1 h hx hx2 hu)]
theorem app_data (s t : ByteArray) : (s ++ t).data.toList = s.data.toList ++ t.data.toList := by
  rw [ByteArray.data_append, Array.toList_append]
theorem face_name {s : ByteArray} {k : Nat} (h : nameB s = true) (hs : s.size ≤ 4) (hk : k < 100) : nameB (s ++ decB k) = true := by
  obtain ⟨d1, d2, d3⟩ := dec_ok k hk
  unfold nameB at h ⊢
  rw [Bool.and_eq_true] at h ⊢
  rw [app_data, List.all_append, h.1, ByteArray.size_append, decB_size]
  exact ⟨by simpa [decB] using d1, inB_yes (by omega) (by omega)⟩
theorem face_names {s : ByteArray} {i j : Nat} (h : s ++ decB i = s ++ decB j) : i = j := by
  have h1 := congrArg (fun x : ByteArray => x.data.toList) h
  rw [app_data, app_data] at h1
  have h2 := List.append_cancel_left h1
  have h3 : Lib.decDigits i = Lib.decDigits j := by simpa [decB] using h2
  have := congrArg valD h3
  rwa [val_dec, val_dec] at this
theorem face_mul9 {k : Nat} {st : Int} (hk : k ≤ 8) (h1 : 1 ≤ st) (h2 : st ≤ 120) : 0 ≤ (k : Int) * st ∧ (k : Int) * st ≤ 1000 := by
  have h3 : (0 : Int) ≤ (k : Int) := by omega
  refine ⟨Int.mul_nonneg h3 (by omega), ?_⟩
  have h4 : (k : Int) * st ≤ 8 * st := Int.mul_le_mul_of_nonneg_right (by omega) (by omega)
  omega
theorem face_at {s : ByteArray} {cs : List HaltV} {st : Int} {k : Nat} (hT : tripB ⟨s, cs⟩ = true) (hs : s.size ≤ 4) (hu : ∀ p ∈ cs, p.d ≤ 400) (hk : k ≤ 8) (h1 : 1 ≤ st) (h2 : st ≤ 120) :
    faceT ⟨s, cs⟩ st k = ⟨s ++ decB k, movedL ((k : Int) * st) cs⟩ ∧ tripB ⟨s ++ decB k, movedL ((k : Int) * st) cs⟩ = true := by
  obtain ⟨m0, m1⟩ := face_mul9 hk h1 h2
  refine ⟨?_, fmoved_ok (face_name (trip_parts hT).1 hs (by omega)) hT m0 m1 hu⟩
  unfold faceT
  rw [fmovedT hT m0 m1 hu]
theorem face_ok {s : ByteArray} {cs : List HaltV} {st : Int} {n : Nat} (hT : tripB ⟨s, cs⟩ = true) (hs : s.size ≤ 4) (hu : ∀ p ∈ cs, p.d ≤ 400) (hn : n ≤ 9) (hn1 : 1 ≤ n) (h1 : 1 ≤ st) (h2 : st ≤ 120) : FaceOk ⟨s, cs⟩ st (n : Int) := by
  refine ⟨hT, inB_yes h1 (by omega), inB_yes (by omega) (by omega), ?_⟩
  rw [Int.toNat_natCast]
  refine ⟨by rw [faceL_len]; omega, fun i hi => ?_, fun i j hij hj => ?_⟩
  · rw [faceL_len] at hi
    rw [faceL_get _ _ _ _ hi]
    obtain ⟨e, t⟩ := face_at hT hs hu (k := i) (st := st) (by omega) h1 h2
    rw [e]; exact t
  · rw [faceL_len] at hj
    unfold nmA
    rw [faceL_get _ _ _ _ (by omega), faceL_get _ _ _ _ hj]
    intro e
    have := face_names (s := s) (i := i) (j := j) e
    omega
theorem face_longer {s : ByteArray} {k : Nat} (hk : k < 100) : ((s ++ decB k).toList == s.toList) = false := by
  rw [beq_eq_false_iff_ne, ByteArray.toList_eq, ByteArray.toList_eq, app_data]
  intro e
  have h1 := congrArg List.length e
  rw [List.length_append] at h1
  have h2 := (dec_ok k hk).2.1
  have h3 : (decB k).data.toList.length = (Lib.decDigits k).length := by simp [decB]
  omega
end Go.Proofs.YthlmaljgnhakfaaGreatDoor
