/- The order of names, and trips that are all right: the program's. -/
import Derived.Test.YtbghfihlpbcomaaGreatR
import Derived.Test.YtbghfihlpbcomaaGreatShelf
import Derived.Shelf.SlSortCmp.Kit1
import Derived.Sort.Statements
import Derived.Shelf.SlSortCmp.Whole1
import Derived.Shelf.SlSortCmp.NoneTotal
import Derived.Deep.AppendLies
namespace Go.Proofs.YtbghfihlpbcomaaGreat
open Go.RowKit Go.Shelf Go.Lib Go.Sort

theorem u8_tri (a b : UInt8) (h1 : ¬ a < b) (h2 : ¬ b < a) : a = b := by
  have e1 : ¬ a.toNat < b.toNat := h1
  have e2 : ¬ b.toNat < a.toNat := h2
  exact UInt8.toNat_inj.1 (by omega)
theorem u8_lt (a b : UInt8) : a < b ↔ a.toNat < b.toNat := Iff.rfl
theorem cmp_self : ∀ a : List UInt8, compareBytes a a = 0
  | [] => rfl
  | x :: a => by
    have h : ¬ x < x := by rw [u8_lt]; omega
    simp only [compareBytes, h, if_false]; exact cmp_self a
theorem cmp_zero : ∀ a b : List UInt8, compareBytes a b = 0 → a = b
  | [], [], _ => rfl
  | [], _ :: _, h => by simp [compareBytes] at h
  | _ :: _, [], h => by simp [compareBytes] at h
  | x :: a, y :: b, h => by
    simp only [compareBytes] at h
    split at h
    · simp at h
    · split at h
      · simp at h
      · rename_i h1 h2
        rw [u8_tri x y h1 h2, cmp_zero a b h]
theorem cmp_neg : ∀ a b : List UInt8, compareBytes a b < 0 ↔ 0 < compareBytes b a
  | [], [] => by simp [compareBytes]
  | [], _ :: _ => by simp [compareBytes]
  | _ :: _, [] => by simp [compareBytes]
  | x :: a, y :: b => by
    simp only [compareBytes]
    by_cases h1 : x < y
    · have h2 : ¬ y < x := by rw [u8_lt] at *; omega
      simp [h1, h2]
    · by_cases h2 : y < x
      · simp [h1, h2]
      · simp only [h1, h2, if_false]; exact cmp_neg a b
theorem cmp_trans : ∀ a b c : List UInt8, compareBytes a b < 0 → compareBytes b c < 0 → compareBytes a c < 0
  | [], [], _, h, _ => by simp [compareBytes] at h
  | [], _ :: _, [], _, h => by simp [compareBytes] at h
  | [], _ :: _, _ :: _, _, _ => by simp [compareBytes]
  | _ :: _, [], _, h, _ => by simp [compareBytes] at h
  | _ :: _, _ :: _, [], _, h => by simp [compareBytes] at h
  | x :: a, y :: b, z :: c, h, g => by
    simp only [compareBytes] at *
    by_cases h1 : x < y
    · by_cases h2 : z < y
      · have h3 : ¬ y < z := by rw [u8_lt] at *; omega
        simp [h3, h2] at g
      · have h4 : x < z := by rw [u8_lt] at *; omega
        simp [h4]
    · by_cases h2 : y < x
      · simp [h1, h2] at h
      · have e := u8_tri x y h1 h2
        subst e
        simp only [h1, if_false] at h
        by_cases h3 : x < z
        · simp [h3]
        · by_cases h4 : z < x
          · simp [h3, h4] at g
          · simp only [h3, h4, if_false] at *; exact cmp_trans a b c h g
def cmpN (nm : Nat → ByteArray) (x y : Nat) : Int := compareBytes (nm x).data.toList (nm y).data.toList
theorem cmpN_zero {nm : Nat → ByteArray} {x y : Nat} (h : cmpN nm x y = 0) : nm x = nm y := by
  have e := cmp_zero _ _ h
  generalize nm x = p at *
  generalize nm y = q at *
  obtain ⟨⟨p⟩⟩ := p; obtain ⟨⟨q⟩⟩ := q; simpa using e
theorem swoN (nm : Nat → ByteArray) : SWO (ltOf (cmpN nm)) := by
  refine ⟨fun x => ?_, fun x y z h1 h2 => ?_, fun x y z h1 h2 => ?_⟩
  · simp [ltOf, cmpN, cmp_self]
  · simp only [ltOf, decide_eq_true_eq] at *
    exact cmp_trans _ _ _ h1 h2
  · simp only [ltOf, decide_eq_false_iff_not] at *
    intro h3
    by_cases h4 : cmpN nm y x < 0
    · exact h2 (cmp_trans _ _ _ h4 h3)
    · have h5 : cmpN nm x y = 0 := by
        have := cmp_neg (nm y).data.toList (nm x).data.toList
        unfold cmpN at *; omega
      rw [show cmpN nm x z = cmpN nm y z by unfold cmpN; rw [cmpN_zero h5]] at h3
      exact h2 h3

set_option maxHeartbeats 800000 in
theorem cByName (b1 o1 b2 o2 : Nat) (s1 s2 : ByteArray) (w : World) (h1 : w.cell? ⟨b1, o1, none⟩ = some (.string s1)) (h2 : w.cell? ⟨b2, o2, none⟩ = some (.string s2)) :
    Calls Tryz.prog 86 #[.pointer (some ⟨b1, o1, none⟩), .pointer (some ⟨b2, o2, none⟩)] w fun e w' => e = .returned (.int .i64 (compareBytes s1.data.toList s2.data.toList)) ∧ ∃ q, w' = w.drewN q := by
  have hcon := fun W => Any.strings_Compare Tryz.strCmp s1 s2 W
  change ∀ W, Calls Tryz.prog 100 _ _ _ at hcon
  generalize compareBytes s1.data.toList s2.data.toList = r at *
  go_enter Tryz.func86, Tryz.ntmps86
  go_wp2_with fail
  go_quiet (first | (go_at_call 100; refine Calls.quiet_of_same (hcon _)))
  go_wp2
  go_ret
  exact ⟨rfl, _, rfl⟩

set_option maxHeartbeats 1600000 in
theorem cAllTrips (a : Option Addr) (cap : Nat) (ts : List TripV) (w : World) (hz : Trips w a ts) (hS : Small ts) :
    Calls Tryz.prog 84 #[.slice a ts.length cap, .func (.func 38) #[] #[]] w (AnsIff w (∀ i, i < ts.length → tripB (ts.getD i TripV.zero) = true)) := by
  obtain ⟨hl, he⟩ := hS
  go_enter Tryz.func84, Tryz.ntmps84
  go_wp2
  go_loopw [9] (fun i wr => ∃ k : Nat, k ≤ ts.length ∧ i = .int .i64 k ∧ Hid (∀ i, i < k → tripB (ts.getD i TripV.zero) = true) ∧ Below w.heap.size w wr) (fun i _ => ts.length - (intOf i).toNat)
  case atStart => exact ⟨0, Nat.zero_le _, rfl, hide (fun i h => by omega), Below.refl _ _⟩
  case round =>
    obtain ⟨k, hk, rfl, hI, hb⟩ := hrel
    by_cases hlt : k < ts.length
    · have hlt' : (k : Int) < (ts.length : Int) := by omega
      obtain ⟨b, off, n, cn, rfl, c1, c2, c0, c3⟩ := (hz.below hb).at hlt
      have e0 : ts.getD k TripV.zero = ts[k] := by simp [List.getD, hlt]
      have hek := he ts[k] (List.getElem_mem hlt)
      rw [← e0] at hek
      clear e0
      have CT := fun (w1 : World) (hh : Halts w1 n (ts.getD k TripV.zero).calls) => cTripI (ts.getD k TripV.zero).name n cn (ts.getD k TripV.zero).calls w1 hh hek.2 c0
      have hT : Hid (tripB ⟨(ts.getD k TripV.zero).name, (ts.getD k TripV.zero).calls⟩ = tripB (ts.getD k TripV.zero)) := rfl
      generalize (ts.getD k TripV.zero).name = s at *
      generalize (ts.getD k TripV.zero).calls = cs at *
      clear hek c0
      have hb0 := balloc wr (.cells #[.string s, .slice n cs.length cn] 39)
      replace c3 := c3.below hb0
      replace hb0 := btrans hb hb0
      go_wp2_with fail
      refine (CT _ c3).mono ?_
      rintro e w1 ⟨rfl, hb1⟩
      have HB := btrans hb0 hb1
      rw [hT.out]
      cases hq : tripB (ts.getD k TripV.zero)
      · have hF : Hid (¬ ∀ i, i < ts.length → tripB (ts.getD i TripV.zero) = true) := hide (fun h => by have := h k hlt; rw [hq] at this; cases this)
        clear hI hT hq CT
        go_wp2
        go_ret
        exact AnsIff.no hF.out HB
      have hI2 : Hid (∀ i, i < k + 1 → tripB (ts.getD i TripV.zero) = true) := hide (fun i h => by
        by_cases hij : i = k
        · subst hij; exact hq
        · exact hI.out i (by omega))
      clear hI hT hq CT
      go_wp2
      go_roundw
      case rel => exact ⟨k + 1, by omega, by go_num, hI2, HB⟩
      case measure => simp [intOf]; omega
    · have hlt' : ¬ ((k : Int) < (ts.length : Int)) := by omega
      obtain rfl : k = ts.length := by omega
      clear hz
      go_wp2
      go_ret
      exact AnsIff.yes hI.out hb
end Go.Proofs.YtbghfihlpbcomaaGreat

/- Names sorted: where two that lie side by side differ, all do. -/
namespace Go.Proofs.YtbghfihlpbcomaaGreat
open Go.RowKit Go.Shelf Go.Lib Go.Sort
theorem sorted_lt {key : Nat → ByteArray} {n : Nat} (hs : ∀ i j, i < j → j < n → ¬ cmpN key j i < 0) (ha : ∀ i, i + 1 < n → key (i + 1) ≠ key i) : ∀ d i, i + d + 1 < n → cmpN key i (i + d + 1) < 0 := by
  have step : ∀ i, i + 1 < n → cmpN key i (i + 1) < 0 := by
    intro i hi
    have h1 := hs i (i + 1) (by omega) hi
    have h2 := cmp_neg (key (i + 1)).data.toList (key i).data.toList
    by_cases h3 : cmpN key i (i + 1) = 0
    · exact absurd (cmpN_zero h3).symm (ha i hi)
    · unfold cmpN at *; omega
  intro d
  induction d with
  | zero => intro i hi; exact step i hi
  | succ d ih =>
    intro i hi
    exact cmp_trans _ _ _ (ih i (by omega)) (step (i + d + 1) (by omega))
theorem sorted_ne {key : Nat → ByteArray} {n : Nat} (hs : ∀ i j, i < j → j < n → ¬ cmpN key j i < 0) (ha : ∀ i, i + 1 < n → key (i + 1) ≠ key i) : ∀ i j, i < j → j < n → key i ≠ key j := by
  intro i j hij hj he
  have := sorted_lt hs ha (j - i - 1) i (by omega)
  rw [show i + (j - i - 1) + 1 = j by omega] at this
  unfold cmpN at this
  rw [he, cmp_self] at this
  omega
/-- What a permutation of the places says. -/
theorem perm_place {d : List Nat} {n : Nat} (hp : d.Perm (List.range n)) : d.length = n ∧ (∀ i, (h : i < d.length) → d[i] < n) ∧ (∀ i j, (hi : i < d.length) → (hj : j < d.length) → i < j → d[i] ≠ d[j]) ∧ ∀ a, a < n → ∃ i, ∃ h : i < d.length, d[i] = a := by
  have hl : d.length = n := by rw [hp.length_eq]; simp
  have hn : d.Nodup := hp.symm.nodup List.nodup_range
  refine ⟨hl, fun i h => ?_, fun i j hi hj hij => ?_, fun a ha => ?_⟩
  · have := hp.mem_iff.1 (List.getElem_mem h); simpa using this
  · exact (List.pairwise_iff_getElem.1 hn) i j hi hj hij
  · have := hp.mem_iff.2 (List.mem_range.2 ha)
    obtain ⟨i, h, e⟩ := List.getElem_of_mem this
    exact ⟨i, h, e⟩
theorem table_of_sorted {ts : List TripV} {d : List Nat} (hp : d.Perm (List.range ts.length)) (hs : ∀ i j, i < j → j < ts.length → ¬ cmpN (fun i => nmA ts (d.getD i 0)) j i < 0)
    (ha : ∀ i, i + 1 < ts.length → nmA ts (d.getD (i + 1) 0) ≠ nmA ts (d.getD i 0)) : ∀ i j, i < j → j < ts.length → nmA ts i ≠ nmA ts j := by
  obtain ⟨hl, -, -, hsur⟩ := perm_place hp
  have hne := sorted_ne (key := fun i => nmA ts (d.getD i 0)) hs ha
  intro i j hij hj he
  obtain ⟨p, hp1, hp2⟩ := hsur i (by omega)
  obtain ⟨q, hq1, hq2⟩ := hsur j hj
  have e1 : d.getD p 0 = i := by simp [List.getD, hp1, hp2]
  have e2 : d.getD q 0 = j := by simp [List.getD, hq1, hq2]
  rcases Nat.lt_trichotomy p q with h | h | h
  · exact hne p q h (by omega) (by rw [e1, e2]; exact he)
  · subst h; omega
  · exact hne q p h (by omega) (by rw [e1, e2]; exact he.symm)
theorem table_not {ts : List TripV} {d : List Nat} (hp : d.Perm (List.range ts.length)) {i : Nat} (hi : i + 1 < ts.length) (he : nmA ts (d.getD (i + 1) 0) = nmA ts (d.getD i 0)) : ¬ Table ts := by
  obtain ⟨hl, hlt, hne, -⟩ := perm_place hp
  intro h
  have e1 : d.getD i 0 = d[i]'(by omega) := by simp [List.getD, show i < d.length by omega]
  have e2 : d.getD (i + 1) 0 = d[i + 1]'(by omega) := by simp [List.getD, show i + 1 < d.length by omega]
  rw [e1, e2] at he
  have h1 := hlt i (by omega)
  have h2 := hlt (i + 1) (by omega)
  rcases Nat.lt_trichotomy (d[i]'(by omega)) (d[i + 1]'(by omega)) with g | g | g
  · exact h.2.2 _ _ g h2 he.symm
  · exact hne i (i + 1) (by omega) (by omega) (by omega) g
  · exact h.2.2 _ _ g h1 he
theorem grownBy_sort {α : Type} [Inhabited α] (enc : α → Value) {w : World} {g off n : Nat} {os : Array Obj} (d : Array α) : w.grownBy (sortWorld enc w g off n d os) (some g) := by
  refine ⟨rfl, rfl, rfl, by simp [sortWorld], fun k hk hne => ?_⟩
  unfold sortWorld
  rw [heap_grow_old _ _ (by simpa using hk)]
  have : g ≠ k := fun e => hne (by rw [e])
  simp [putRow, mapBlock, Sort.ahead, Array.getElem?_modify, this]
end Go.Proofs.YtbghfihlpbcomaaGreat

/- The program's order of trips, and its timetables. -/
namespace Go.Proofs.YtbghfihlpbcomaaGreat
open Go.RowKit Go.Shelf Go.Lib Go.Sort
theorem getD_nat {l : List Nat} {i : Nat} (h : i < l.length) : l.getD i 0 = l[i] := by simp [List.getD, h]
def ptrs (b off k : Nat) : List Value := (List.range k).map fun i => .pointer (some ⟨b, off + i * 2, none⟩)
theorem ptrs_succ (b off k : Nat) : ptrs b off (k + 1) = ptrs b off k ++ [.pointer (some ⟨b, off + k * 2, none⟩)] := by simp [ptrs, List.range_succ]
theorem ptrs_len (b off k : Nat) : (ptrs b off k).length = k := by simp [ptrs]
theorem infoPtr : (Tryz.prog.info? 72).map (fun i => (i.zero, i.size, i.bytes)) = some (some (.pointer none), 1, 8) := by kernel_rfl
/-- The places of a list's trips, as pointers. -/
def encP (b off n : Nat) (i : Nat) : Value := .pointer (some ⟨b, off + i % n * 2, none⟩)
theorem sort_trips (b off n g cap : Nat) (nm : Nat → ByteArray) (w : World) (hn : 0 < n) (hn2 : n ≤ 24) (ho : w.ownsRow (b + 1) 72 1 (.slice (some ⟨g, 0, none⟩) n cap) n (ptrs b off n))
    (hc : ∀ i, i < n → w.cell? ⟨b, off + i * 2, none⟩ = some (.string (nm i))) :
    Calls Tryz.prog 99 #[.slice (some ⟨g, 0, none⟩) n cap, .func (.func 86) #[] #[]] w fun e w' => e = .returned (.tuple #[]) ∧
      ∃ d : List Nat, d.Perm (List.range n) ∧ (∀ i j, i < j → j < n → ¬ cmpN (fun i => nm (d.getD i 0)) j i < 0) ∧ (∀ j, j < n → w'.cell? ⟨g, j, none⟩ = some (.pointer (some ⟨b, off + d.getD j 0 * 2, none⟩))) ∧ w.grownBy w' (some g) := by
  have hbg : b < g := own_from ho (Nat.le_refl _) g rfl
  have hgl := owns_lt ho
  have hsz : (List.range n).toArray.size = n := by simp
  have hH : Holds (encP b off n) w g 0 (List.range n).toArray := by
    intro j hj
    rw [hsz] at hj
    refine ⟨?_, ho.frozenAt _⟩
    rw [Nat.zero_add, ho.cellAt j (by omega)]
    have e : (List.range n).toArray[j]! = j := by simp [hj]
    rw [e]
    simp [ptrs, hj, encP, Nat.mod_eq_of_lt hj]
  have eg : ∀ args w, (callFunc 86 args).run Tryz.prog w = .ok (.enter 86 args) w := enters_of Tryz.func86 (by kernel_rfl) rfl
  have hcmp : CmpLays1 Tryz.prog 86 #[] (encP b off n) (cmpN (fun i => nm (i % n))) g 0 (List.range n).toArray.size w := by
    refine CmpReads.lays (fun m os dk _ x y => ?_)
    have hx : ∀ i, (sortWorld (encP b off n) w g 0 m dk os).cell? ⟨b, off + i % n * 2, none⟩ = some (.string (nm (i % n))) := fun i => by
      have hb := (grownBy_sort (encP b off n) (w := w) (g := g) (off := 0) (n := m) (os := os) dk).block b (cell_lt (hc 0 hn)) (fun e => by simp at e; omega)
      exact (World.cell?_of_block hb).trans (hc _ (Nat.mod_lt _ hn))
    exact cByName _ _ _ _ _ _ _ (hx x) (hx y)
  have hcon := Any.slices_SortFunc Tryz.sortT (encP b off n) (fun _ => rfl) (cmpN (fun i => nm (i % n))) (swoN _) 86 #[] g 0 cap (List.range n).toArray w eg hcmp hH hgl (by rw [hsz]; omega)
  change Calls Tryz.prog 99 _ _ _ at hcon
  rw [hsz] at hcon
  refine hcon.mono ?_
  rintro e w' ⟨rfl, d', m, os, hp, hs, rfl⟩
  obtain ⟨hp1, -, hp2⟩ := hp
  rw [hsz] at hp1
  have hp3 : d'.toList.Perm (List.range n) := by
    have e1 : d'.extract 0 n = d' := by rw [← hp1]; simp
    have e2 : (List.range n).toArray.extract 0 n = (List.range n).toArray := by rw [show n = (List.range n).toArray.size from hsz.symm]; simp
    rw [e1, e2] at hp2
    simpa using hp2
  obtain ⟨hl, hlt, -, -⟩ := perm_place hp3
  have hget : ∀ j, j < n → d'[j]! = d'.toList.getD j 0 := fun j hj => by
    have hj' : j < d'.size := by omega
    rw [getElem!_pos d' j hj']
    simp [List.getD, hj']
  have hmod : ∀ j, j < n → d'.toList.getD j 0 % n = d'.toList.getD j 0 := fun j hj => by
    have := hlt j (by omega)
    rw [getD_nat (show j < d'.toList.length by omega)]; exact Nat.mod_eq_of_lt this
  refine ⟨rfl, d'.toList, hp3, fun i j hij hj => ?_, fun j hj => ?_, grownBy_sort _ _⟩
  · have := hs i j (Nat.zero_le _) hij (by omega)
    rw [hget i (by omega), hget j hj] at this
    have h9 : ¬ cmpN (fun i => nm (i % n)) (d'.toList.getD j 0) (d'.toList.getD i 0) < 0 := of_decide_eq_false this
    unfold cmpN at h9 ⊢
    dsimp only at h9 ⊢
    rw [hmod i (by omega), hmod j hj] at h9
    exact h9
  · have := (holds_sortWorld (encP b off n) w g 0 m (List.range n).toArray d' os hgl hH (by rw [hsz]; exact hp1)) j (by omega)
    rw [Nat.zero_add, hget j hj] at this
    rw [this.1, encP, hmod j hj]
end Go.Proofs.YtbghfihlpbcomaaGreat

/- The program's order of trips, and its timetables. -/
namespace Go.Proofs.YtbghfihlpbcomaaGreat
open Go.RowKit Go.Shelf Go.Lib Go.Sort

/-- The places of all trips in the order of their names. -/
structure Ord (b off n : Nat) (nm : Nat → ByteArray) (g : Nat) (d : List Nat) (w' : World) : Prop where
  perm : d.Perm (List.range n)
  sorted : ∀ i j, i < j → j < n → ¬ cmpN (fun i => nm (d.getD i 0)) j i < 0
  cell : ∀ j, j < n → w'.cell? ⟨g, j, none⟩ = some (.pointer (some ⟨b, off + d.getD j 0 * 2, none⟩))
def OrdPost (b off n : Nat) (nm : Nat → ByteArray) (w : World) (e : Ending) (w' : World) : Prop :=
  ∃ g c d, e = .returned (.slice (some ⟨g, 0, none⟩) n c) ∧ Ord b off n nm g d w' ∧ Below w.heap.size w w'
set_option maxHeartbeats 3200000 in
theorem cInOrder (b off cap n : Nat) (nm : Nat → ByteArray) (w : World) (hn : 0 < n) (hn2 : n ≤ 24) (hc : ∀ i, i < n → w.cell? ⟨b, off + i * 2, none⟩ = some (.string (nm i))) :
    Calls Tryz.prog 85 #[.slice (some ⟨b, off, none⟩) n cap, .func (.func 86) #[] #[]] w (OrdPost b off n nm w) := by
  obtain ⟨i0, hi, hz0, hz1, hz2⟩ := info_parts infoPtr
  have hbl : b < w.heap.size := cell_lt (hc 0 hn)
  have hC := hide hc
  clear hc
  go_enter Tryz.func85, Tryz.ntmps85
  go_wp2
  go_loopw [5, 6, 9] (fun v _ i wr => ∃ k : Nat, k ≤ n ∧ i = .int .i64 k ∧ wr.ownsRow w.heap.size 72 1 v k (ptrs b off k) ∧ Below w.heap.size w wr) (fun _ _ i _ => n - (intOf i).toNat)
  case atStart => exact ⟨0, Nat.zero_le _, rfl, World.ownsRow_nil _ _ _ _, Below.refl _ _⟩
  case round =>
    obtain ⟨k, hk, rfl, ho, hb⟩ := hrel
    obtain ⟨va, vc, rfl⟩ := own_form ho
    by_cases hlt : k < n
    · have hlt' : (k : Int) < (n : Int) := by omega
      have hS := hide (ptrs_succ b off k)
      have hN := one_block wr (.cells #[.pointer (some ⟨b, off + k * 2, none⟩)] 72)
      have ho2 := own_keep ho (balloc wr (.cells #[.pointer (some ⟨b, off + k * 2, none⟩)] 72))
      have hb2 := btrans hb (balloc wr (.cells #[.pointer (some ⟨b, off + k * 2, none⟩)] 72))
      have hk0 : (0 : Int) ≤ (k : Int) := Int.natCast_nonneg _
      go_wp2_with (at_builtin; refine wpList_append_own _ rfl _ _ 125 rfl w.heap.size 72 i0 _ 1 8 Tryz.underlying125 hi hz0 hz1 hz2 rfl (by decide) _ _ _ rfl ho2 ⟨wr.heap.size, 0, none⟩ 1 1 [.pointer (some ⟨b, off + k * 2, none⟩)] rfl rfl ?c1 ?c2 ?c3 ?c4 ?c5 ?_)
      case c1 => exact World.news_of_block hN
      case c2 => simp [Value.oneCell']
      case c3 => unfold maxLen; omega
      case c4 => omega
      case c5 => have := hb.size; simp; omega
      intro v2 w2 hown hgrow _
      have hb3 := hb2.grown hgrow hb2.size (own_from ho (Nat.le_refl _))
      rw [← hS.out] at hown
      clear hgrow hN ho2 hb2 ho hS
      go_wp2
      go_roundw
      case rel => exact ⟨k + 1, by omega, by go_num, hown, hb3⟩
      case measure => simp [intOf]; omega
    · have hlt' : ¬ ((k : Int) < (n : Int)) := by omega
      obtain rfl : k = n := by omega
      rcases ho.2 with ⟨_, h0⟩ | ⟨g, c2, cur, hv, _⟩
      · omega
      simp only [Value.slice.injEq] at hv
      obtain ⟨rfl, -, rfl⟩ := hv
      have hg := own_from ho (Nat.le_refl _) g rfl
      have CS := sort_trips b off k g vc nm wr hn hn2 (own_base ho (by omega)) (fun i h => ble hb (hC.out i h))
      go_wp2_with fail
      refine CS.mono ?_
      rintro e w1 ⟨rfl, d, hp, hs, hcell, hgr⟩
      have hb1 := hb.grown hgr hb.size (fun j hj => by simp at hj; omega)
      have hO : Ord b off k nm g d w1 := ⟨hp, fun i j h1 h2 => Int.not_lt.2 (hs i j h1 h2), hcell⟩
      clear CS hgr hp hs hcell
      go_wp2
      go_ret
      exact ⟨g, vc, d, rfl, hO, hb1⟩

set_option maxHeartbeats 1600000 in
theorem cInOrder0 (a : Option Addr) (cap : Nat) (w : World) :
    Calls Tryz.prog 85 #[.slice a 0 cap, .func (.func 86) #[] #[]] w fun e w' => e = .returned (.slice none 0 0) ∧ Below w.heap.size w w' := by
  have hcon := AnyF.slices_SortFunc_none { Tryz.sortT with } none 0 (.func (.func 86) #[] #[]) w
  change Calls Tryz.prog 99 _ _ _ at hcon
  go_enter Tryz.func85, Tryz.ntmps85
  go_wp2
  go_loopw [5, 6, 9] (fun v _ i wr => v = .slice none 0 0 ∧ i = .int .i64 0 ∧ wr = w) (fun _ _ i _ => 0)
  case atStart => exact ⟨rfl, rfl, rfl⟩
  case round =>
    obtain ⟨rfl, rfl, hw⟩ := hrel
    subst wr
    go_wp2_with fail
    refine hcon.mono ?_
    rintro e w1 ⟨rfl, hw⟩
    subst w1
    go_wp2
    go_ret
    exact ⟨rfl, Below.refl _ _⟩
end Go.Proofs.YtbghfihlpbcomaaGreat

/- Timetables of the program. -/
namespace Go.Proofs.YtbghfihlpbcomaaGreat
open Go.RowKit Go.Shelf Go.Lib Go.Sort

set_option maxHeartbeats 3200000 in
theorem cTableI (a : Option Addr) (cap : Nat) (ts : List TripV) (w : World) (hz : Trips w a ts) (hS : Small ts) :
    Calls Tryz.prog 63 #[.slice a ts.length cap] w (AnsIff w (Table ts)) := by
  by_cases h24 : 24 < ts.length
  · have h24' : (24 : Int) < (ts.length : Int) := by omega
    have hF : Hid (¬ Table ts) := hide (fun h => by have := h.1; omega)
    go_enter Tryz.func63, Tryz.ntmps63
    go_wp2
    go_ret
    exact AnsIff.no hF.out (Below.refl _ _)
  have h24' : ¬ ((24 : Int) < (ts.length : Int)) := by omega
  have h24n : ts.length ≤ 24 := by omega
  go_enter Tryz.func63, Tryz.ntmps63
  go_wp2_with fail
  refine (cAllTrips a cap ts _ hz hS).mono ?_
  rintro e w1 ⟨r, rfl, hr, hb⟩
  cases r
  · have hF : Hid (¬ Table ts) := hide (fun h => by have := hr.2 h.2.1; cases this)
    clear hr
    go_wp2
    go_ret
    exact AnsIff.no hF.out hb
  have hA := hide (hr.1 rfl)
  clear hr hS
  by_cases hn : 0 < ts.length
  · have hz1 := hz.below hb
    obtain ⟨b, off, -, -, rfl, -⟩ := hz1.at hn
    have hc : ∀ i, i < ts.length → w1.cell? ⟨b, off + i * 2, none⟩ = some (.string (nmA ts i)) := fun i hi => by
      obtain ⟨b', off', n', c', hE, d1, -⟩ := hz1.at hi
      simp only [Option.some.injEq, Addr.mk.injEq] at hE
      obtain ⟨rfl, rfl, -⟩ := hE
      exact d1
    have hbl : b < w1.heap.size := cell_lt (hc 0 hn)
    have CO := cInOrder b off cap ts.length (nmA ts) w1 hn h24n hc
    replace hc := hide hc
    go_wp2_with fail
    refine CO.mono ?_
    rintro e w2 ⟨g, c, d, rfl, O, hb2⟩
    have HB := btrans hb hb2
    clear CO
    go_wp2
    go_loopw [4] (fun i wr => ∃ k : Nat, 1 ≤ k ∧ k ≤ ts.length ∧ i = .int .i64 k ∧ Hid (∀ i, i + 1 < k → nmA ts (d.getD (i + 1) 0) ≠ nmA ts (d.getD i 0)) ∧ Below w2.heap.size w2 wr) (fun i _ => ts.length - (intOf i).toNat)
    case atStart => exact ⟨1, Nat.le_refl _, hn, rfl, hide (fun i h => by omega), Below.refl _ _⟩
    case round =>
      obtain ⟨k, hk1, hk, rfl, hI, hb3⟩ := hrel
      by_cases hlt : k < ts.length
      · have hlt' : (k : Int) < (ts.length : Int) := by omega
        obtain ⟨hl, hpl, -, -⟩ := perm_place O.perm
        have p1 := ble hb3 (O.cell k hlt)
        have p2 := ble hb3 (O.cell (k - 1) (by omega))
        have g1 : d.getD k 0 < ts.length := by rw [getD_nat (by omega)]; exact hpl k (by omega)
        have g2 : d.getD (k - 1) 0 < ts.length := by rw [getD_nat (by omega)]; exact hpl (k - 1) (by omega)
        have s1 := ble hb3 (ble hb2 (hc.out _ g1))
        have s2 := ble hb3 (ble hb2 (hc.out _ g2))
        have hk0 : (0 : Int) ≤ (k : Int) := Int.natCast_nonneg _
        have hk2 : IntKind.i64.wrap ((k : Int) - 1) = ((k - 1 : Nat) : Int) := by rw [wrap_in _ (by omega) (by omega)]; omega
        have hk3 : ((k - 1 : Nat) : Int) < (ts.length : Int) := by omega
        have hk4 : k - 1 < ts.length := by omega
        have hNo : Hid (nmA ts (d.getD k 0) = nmA ts (d.getD (k - 1) 0) → ¬ Table ts) := hide (fun h => table_not O.perm (i := k - 1) (by omega) (by rw [show k - 1 + 1 = k by omega]; exact h))
        have hGo : Hid (nmA ts (d.getD k 0) ≠ nmA ts (d.getD (k - 1) 0) → ∀ i, i + 1 < k + 1 → nmA ts (d.getD (i + 1) 0) ≠ nmA ts (d.getD i 0)) := hide (fun h i hi => by
          by_cases hik : i + 1 = k
          · subst hik; simpa using h
          · exact hI.out i (by omega))
        clear hpl hl g1 g2 hI
        generalize nmA ts (d.getD k 0) = x at *
        generalize nmA ts (d.getD (k - 1) 0) = y at *
        generalize d.getD k 0 = dk at *
        generalize d.getD (k - 1) 0 = dj at *
        generalize hj : k - 1 = j at *
        replace hj := hide hj
        by_cases hxy : x = y
        · have hF := hide (hNo.out hxy)
          subst hxy
          clear hNo hGo
          go_wp2_with fail
          go_quiet (fail)
          go_wp2
          go_ret
          exact AnsIff.no hF.out (bdraw (btrans HB hb3) _)
        · have hI2 := hide (hGo.out hxy)
          have hx2 := str_ne hxy
          clear hNo hGo
          go_wp2_with fail
          go_quiet (fail)
          go_wp2
          go_roundw
          case rel => exact ⟨k + 1, by omega, by omega, by go_num, hI2, bdraw hb3 _⟩
          case measure => simp [intOf]; omega
      · have hlt' : ¬ ((k : Int) < (ts.length : Int)) := by omega
        obtain rfl : k = ts.length := by omega
        have hF : Hid (Table ts) := hide ⟨h24n, hA.out, table_of_sorted O.perm O.sorted (fun i hi => hI.out i hi)⟩
        clear hI
        go_wp2
        go_ret
        exact AnsIff.yes hF.out (btrans HB hb3)
  · obtain rfl : ts = [] := List.length_eq_zero_iff.1 (by omega)
    have hF : Hid (Table []) := hide ⟨Nat.zero_le _, hA.out, fun i j h1 h2 => by simp at h2⟩
    have CO := cInOrder0 a cap w1
    dsimp only [List.length_nil] at *
    go_wp2_with fail
    refine CO.mono ?_
    rintro e w2 ⟨rfl, hb2⟩
    have HB := btrans hb hb2
    clear CO hA hz
    go_wp2
    go_loopw [4] (fun i wr => i = .int .i64 1 ∧ wr = w2) (fun i _ => 0)
    case atStart => exact ⟨rfl, rfl⟩
    case round =>
      obtain ⟨rfl, hw⟩ := hrel
      subst wr
      go_wp2
      go_ret
      exact AnsIff.yes hF.out HB
end Go.Proofs.YtbghfihlpbcomaaGreat

