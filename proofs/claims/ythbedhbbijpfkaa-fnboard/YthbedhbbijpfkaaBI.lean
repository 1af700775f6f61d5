/- Board of the program. -/
import Derived.Test.YthbedhbbijpfkaaSD
import Derived.Test.YthbedhbbijpfkaaT
namespace Go.Proofs.Ythbedhbbijpfkaa
open Go.RowKit
def entL (ds : List (Nat × Nat)) : List EntryV := ds.map fun d => ⟨(d.1 : Int), (d.2 : Int)⟩
theorem entL_len (ds : List (Nat × Nat)) : (entL ds).length = ds.length := by simp [entL]
/-- What may be asked of a board. -/
def BoardOk (ts : List TripV) (cnt : Int) : Prop := Table ts ∧ 0 ≤ cnt ∧ cnt ≤ 50
def AnsBoard (w : World) (ts : List TripV) (node minute cnt : Int) (e : Ending) (w' : World) : Prop :=
  Below w.heap.size w w' ∧ ((BoardOk ts cnt ∧ ∃ v ds, e = .returned v ∧ List.Perm ds (depsOf ts (wantB node minute)) ∧ SortX ts ds ∧ w'.ownsRow w.heap.size 35 2 v (ds.take cnt.toNat).length (flatEntries (entL (ds.take cnt.toNat)))) ∨ (¬ BoardOk ts cnt ∧ e = .returned (.slice none 0 0)))
theorem deps_in {ts : List TripV} {wn : HaltV → Bool} {x : Nat × Nat} (h : x ∈ depsOf ts wn) : x.1 < ts.length ∧ x.2 < ncA ts x.1 := by
  unfold depsOf at h
  rw [List.mem_flatMap] at h
  obtain ⟨i, hi, h⟩ := h
  rw [List.mem_map] at h
  obtain ⟨k, hk, rfl⟩ := h
  have := (List.mem_filter.1 hk).1
  exact ⟨List.mem_range.1 hi, by have := List.mem_range.1 this; dsimp only; omega⟩
theorem flatD_cells {w : World} {B b off g n cap : Nat} {ds : List (Nat × Nat)} (h : w.ownsRow B 58 3 (.slice (some ⟨g, 0, none⟩) n cap) n (flatD b off ds)) {j : Nat} (hj : j < ds.length) :
    w.cell? ⟨g, j * 3, none⟩ = some (.pointer (some ⟨b, off + (ds.getD j (0, 0)).1 * 2, none⟩)) ∧ w.cell? ⟨g, j * 3 + 1, none⟩ = some (.int .i64 ((ds.getD j (0, 0)).1 : Int)) ∧ w.cell? ⟨g, j * 3 + 2, none⟩ = some (.int .i64 ((ds.getD j (0, 0)).2 : Int)) := by
  have hl := h.1
  rw [flatD_len] at hl
  have hx : ∀ r, r < 3 → (flatD b off ds)[j * 3 + r]? = some ((depCells b off (ds.getD j (0, 0)))[r]!) := fun r hr => by
    have h1 := flat_at (α := Nat × Nat) (depCells b off) 3 (by omega) (fun _ => rfl) ds (j * 3 + r) (by omega)
    rw [show (j * 3 + r) / 3 = j by omega, show (j * 3 + r) % 3 = r by omega] at h1
    exact h1
  refine ⟨?_, ?_, ?_⟩
  · rw [h.cellAt _ (by omega)]; exact hx 0 (by omega)
  · rw [h.cellAt _ (by omega)]; exact hx 1 (by omega)
  · rw [h.cellAt _ (by omega)]; exact hx 2 (by omega)
theorem cSortAny (b off : Nat) (ts : List TripV) (w0 w : World) (va : Option Addr) (cap : Nat) (ds : List (Nat × Nat)) (hz : 0 < ts.length → Trips w0 (some ⟨b, off, none⟩) ts) (hw : Below w0.heap.size w0 w) (hin : ∀ x ∈ ds, x.1 < ts.length ∧ x.2 < ncA ts x.1)
    (ho : w.ownsRow w0.heap.size 58 3 (.slice va ds.length cap) ds.length (flatD b off ds)) (hn : ds.length ≤ 288) :
    Calls Try.prog 24 #[.slice va ds.length cap, .func (.func 25) #[] #[]] w fun e w' => e = .returned (.tuple #[]) ∧
      ∃ ds' : List (Nat × Nat), ds'.Perm ds ∧ SortX ts ds' ∧ w'.ownsRow w0.heap.size 58 3 (.slice va ds.length cap) ds.length (flatD b off ds') ∧ Below w0.heap.size w0 w' := by
  by_cases h0 : 0 < ds.length
  · have ht : 0 < ts.length := by
      obtain ⟨x, hx⟩ : ∃ x, x ∈ ds := ⟨_, List.getElem_mem h0⟩
      have := (hin x hx).1; omega
    rcases ho.2 with ⟨e0, h1⟩ | ⟨g, cp, cur, e0, -⟩
    · omega
    · simp only [Value.slice.injEq] at e0
      obtain ⟨rfl, -, rfl⟩ := e0
      refine (cSortD b off ts w0 w g cap ds (hz ht) hw hin ho hn h0).mono ?_
      rintro e w' ⟨rfl, ds', h1, h2, h3, h4⟩
      exact ⟨rfl, ds', h1, h2, h3, hw.grown h4 hw.size (own_from ho (Nat.le_refl _))⟩
  · obtain rfl : ds = [] := List.length_eq_zero_iff.1 (by omega)
    refine (AnyF.slices_SortFunc_none Try.sortD va cap _ w).mono ?_
    rintro e w' ⟨rfl, hw'⟩
    subst hw'
    exact ⟨rfl, [], List.Perm.refl _, fun i j _ hj => by simp at hj, ho, hw⟩
theorem own_cap {w : World} {B e k n c : Nat} {a : Option Addr} {xs : List Value} (h : w.ownsRow B e k (.slice a n c) n xs) : n ≤ c := by
  rcases h.2 with ⟨e0, h0⟩ | ⟨g, cp, cur, e0, -, -, h1, -⟩
  · omega
  · simp only [Value.slice.injEq] at e0; omega
set_option maxRecDepth 100000 in
set_option maxHeartbeats 3200000 in
theorem cBoardI (a : Option Addr) (cap : Nat) (ts : List TripV) (node minute cnt : Int) (w : World) (hz : Trips w a ts) (hS : Small ts) :
    Calls Try.prog 8 #[.slice a ts.length cap, .int .i64 node, .int .i64 minute, .int .i64 cnt] w (AnsBoard w ts node minute cnt) := by
  obtain ⟨i0, hi, hz0, hz1, hz2⟩ := info_parts infoEntries
  have hW := btrans (balloc w (.cells #[.int .i64 node] 3)) (balloc _ (.cells #[.int .i64 minute] 3))
  obtain ⟨hX, hY⟩ := two_blks w (.cells #[.int .i64 node] 3) (.cells #[.int .i64 minute] 3)
  have x0 := Go.Joins.cell_of_block hX 0
  have y0 := Go.Joins.cell_of_block hY 0
  have CT := cTableI a cap ts _ (hz.below hW) hS
  go_enter Try.func8, Try.ntmps8
  go_wp2_with fail
  refine CT.mono ?_
  rintro e w1 ⟨r, rfl, hr, hb⟩
  have HB := btrans hW hb
  replace x0 := ble hb x0
  replace y0 := ble hb y0
  clear hW hb CT hX hY
  cases r
  · have hno : Hid (AnsBoard w ts node minute cnt (.returned (.slice none 0 0)) w1) := hide ⟨HB, .inr ⟨(fun h => by have := hr.2 h.1; cases this), rfl⟩⟩
    clear hr hz x0 y0
    go_wp2
    go_ret
    exact hno.out
  have hT := hide (hr.1 rfl)
  clear hr
  have CW := cWithin cnt 0 50
  cases hIn : inB cnt 0 50
  · have hno : Hid (AnsBoard w ts node minute cnt (.returned (.slice none 0 0)) w1) := hide ⟨HB, .inr ⟨(fun h => by have := h.2; simp [inB] at hIn; omega), rfl⟩⟩
    rw [hIn] at CW
    clear hz x0 y0
    go_wp2_with fail
    refine (CW _).mono ?_
    rintro e w2 ⟨rfl, hw⟩
    subst w2
    go_wp2
    go_ret
    exact hno.out
  rw [hIn] at CW
  obtain ⟨n0, n1⟩ := inB_true hIn
  have hok : Hid (BoardOk ts cnt) := hide ⟨hT.out, n0, n1⟩
  go_wp2_with fail
  refine (CW _).mono ?_
  rintro e w2 ⟨rfl, hw⟩
  subst w2
  clear CW
  have hg := table_gd hT.out
  obtain ⟨b, off, ha⟩ : ∃ b off, 0 < ts.length → a = some ⟨b, off, none⟩ := by
    rcases hz with h | ⟨b, off, h, -⟩
    · exact ⟨0, 0, fun h2 => by rw [h] at h2; simp at h2⟩
    · exact ⟨b, off, fun _ => h⟩
  have hzb : 0 < ts.length → Trips w1 (some ⟨b, off, none⟩) ts := fun h => by have := hz.below HB; rw [ha h] at this; exact this
  have CD := cDeps a b off cap ts w.heap.size (w.heap.size + 1) node minute w1 (hz.below HB) ha hg x0 y0
  have hdi : Hid (∀ x ∈ depsOf ts (wantB node minute), x.1 < ts.length ∧ x.2 < ncA ts x.1) := hide (fun x hx => deps_in hx)
  have hsw : w.heap.size ≤ w1.heap.size := HB.size
  have fin : Hid (∀ v ds wr, List.Perm ds (depsOf ts (wantB node minute)) → SortX ts ds → wr.ownsRow w1.heap.size 35 2 v (ds.take cnt.toNat).length (flatEntries (entL (ds.take cnt.toNat))) → Below w1.heap.size w1 wr → AnsBoard w ts node minute cnt (.returned v) wr) := hide (fun v ds wr h1 h2 h3 h4 => ⟨btrans HB h4, .inl ⟨hok.out, v, ds, rfl, h1, h2, own_base h3 hsw⟩⟩)
  clear HB hsw hok hz
  generalize depsOf ts (wantB node minute) = ds0 at *
  go_wp2_with fail
  refine CD.mono ?_
  rintro e w2 ⟨v, rfl, hO, hn, hb2⟩
  obtain ⟨va, vc, rfl⟩ := own_form hO
  clear CD x0 y0 hg ha
  go_wp2_with fail
  refine (cSortAny b off ts w1 w2 va vc ds0 hzb hb2 hdi.out hO hn).mono ?_
  rintro e w3 ⟨rfl, ds, hp, hs, hO3, hb3⟩
  have hcap := own_cap hO3
  have hle := hp.length_eq
  obtain ⟨c, rfl⟩ := Int.eq_ofNat_of_zero_le n0
  replace fin := hide (fun v wr => fin.out v ds wr hp hs)
  obtain ⟨n, hnn⟩ : ∃ n, ds0.length = n := ⟨_, rfl⟩
  rw [hnn] at hO3 hcap hle hn ⊢
  obtain ⟨Q, hQ⟩ : ∃ Q, min c n = Q := ⟨_, rfl⟩
  have hQn : Q ≤ n := by omega
  have hvc : ((Q : Nat) : Int) ≤ (vc : Int) := by omega
  have hQ0 : (0 : Int) ≤ (Q : Int) := by omega
  clear hzb hdi hO hb2 hp hs hT n0 n1
  have hmin : min (c : Int) (n : Int) = (Q : Int) := by omega
  have hdl : ds.length = n := by rw [hle]
  have hlt : Hid ((ds.take ((c : Int)).toNat) = ds.take Q) := hide (by
    have : ((c : Int)).toNat = c := by omega
    rw [this, ← hQ, List.take_eq_take_iff, hdl]; omega)
  have hRd : Hid (∀ j, j < n → ∃ g, va = some ⟨g, 0, none⟩ ∧ w3.cell? ⟨g, j * 3, none⟩ = some (.pointer (some ⟨b, off + (ds.getD j (0, 0)).1 * 2, none⟩)) ∧ w3.cell? ⟨g, j * 3 + 1, none⟩ = some (.int .i64 ((ds.getD j (0, 0)).1 : Int)) ∧ w3.cell? ⟨g, j * 3 + 2, none⟩ = some (.int .i64 ((ds.getD j (0, 0)).2 : Int))) := hide (fun j hj => by
    rcases hO3.2 with ⟨e0, h1⟩ | ⟨g, cp, cur, e0, -⟩
    · omega
    · simp only [Value.slice.injEq] at e0
      obtain ⟨rfl, -, -⟩ := e0
      obtain ⟨h1, h2, h3⟩ := flatD_cells hO3 (j := j) (by omega)
      exact ⟨g, rfl, h1, h2, h3⟩)
  have fin2 : Hid (∀ v wr, wr.ownsRow w3.heap.size 35 2 v Q (flatEntries (entL (ds.take Q))) → Below w3.heap.size w3 wr → AnsBoard w ts node minute (c : Int) (.returned v) wr) := hide (fun v wr h1 h2 => fin.out v wr (by
    rw [hlt.out, List.length_take, hdl, Nat.min_eq_left hQn]
    exact own_base h1 hb3.size) (hb3.trans (h2.mono hb3.size)))
  have hst : Hid (∀ k, k < Q → ds.take (k + 1) = ds.take k ++ [ds.getD k (0, 0)]) := hide (fun k hk => by
    have : k < ds.length := by omega
    rw [List.take_succ_eq_append_getElem this]; simp [List.getD, this])
  have hn288 : n ≤ 288 := hn
  clear hlt fin hO3 hb3 hcap hle hQ hdl
  go_wp2
  go_loopw [10, 12, 33] (fun v _ ix wr => ∃ k : Nat, k ≤ Q ∧ ix = .int .i64 k ∧ wr.ownsRow w3.heap.size 35 2 v k (flatEntries (entL (ds.take k))) ∧ Below w3.heap.size w3 wr) (fun _ _ ix _ => Q - (intOf ix).toNat)
  case atStart => exact ⟨0, Nat.zero_le _, rfl, by simpa [entL, flatEntries] using World.ownsRow_nil w3 w3.heap.size _ 2, Below.refl _ _⟩
  case round =>
    obtain ⟨k, hk, rfl, ho, hb⟩ := hrel
    by_cases hlq : k < Q
    · have hk0 : (0 : Int) ≤ (k : Int) := by omega
      have hk1 : (k : Int) < (Q : Int) := by omega
      obtain ⟨g, rfl, d0, d1, d2⟩ := hRd.out k (by omega)
      replace d0 := ble hb d0
      replace d1 := ble hb d1
      replace d2 := ble hb d2
      have hs1 := hide (hst.out k hlq)
      generalize ds.getD k (0, 0) = u at *
      obtain ⟨ui, uk⟩ := u
      dsimp only at d0 d1 d2 hs1
      obtain ⟨va, vc2, rfl⟩ := own_form ho
      have hb1 := balloc wr (.cells #[.pointer (some ⟨b, off + ui * 2, none⟩), .int .i64 (ui : Int), .int .i64 (uk : Int)] 58)
      obtain ⟨⟨y0, y1, y2⟩, -⟩ := blk3 (one_block wr (.cells #[.pointer (some ⟨b, off + ui * 2, none⟩), .int .i64 (ui : Int), .int .i64 (uk : Int)] 58))
      have ho1 := own_keep ho hb1
      have hB1 := btrans hb hb1
      have hb2 := balloc (wr.alloc (.cells #[.pointer (some ⟨b, off + ui * 2, none⟩), .int .i64 (ui : Int), .int .i64 (uk : Int)] 58)) (.cells #[.int .i64 (ui : Int), .int .i64 (uk : Int)] 35)
      have ho2 := own_keep ho1 hb2
      have hB2 := btrans hB1 hb2
      clear hb1 hb2 ho1
      go_wp2_with (at_builtin; refine wpList_append_own _ rfl _ _ 27 rfl w3.heap.size 35 i0 _ 2 16 Try.underlying27 hi hz0 hz1 hz2 rfl (by decide) _ _ _ rfl ho2 ⟨wr.heap.size + 1, 0, none⟩ 1 1 (EntryV.vs ⟨(ui : Int), (uk : Int)⟩) rfl rfl ?c1 ?c2 ?c3 ?c4 ?c5 ?_)
      case c1 =>
        have hY := (two_blks wr (.cells #[.pointer (some ⟨b, off + ui * 2, none⟩), .int .i64 (ui : Int), .int .i64 (uk : Int)] 58) (.cells #[.int .i64 (ui : Int), .int .i64 (uk : Int)] 35)).2
        intro j u h
        rcases j with _ | _ | j
        · simp [EntryV.vs] at h; subst h; exact Go.Joins.cell_of_block hY 0
        · simp [EntryV.vs] at h; subst h; exact Go.Joins.cell_of_block hY 1
        · simp [EntryV.vs] at h
      case c2 => simp [Value.oneCell', EntryV.vs]
      case c3 => unfold maxLen; omega
      case c4 => omega
      case c5 => exact hB2.size
      intro v2 w5 hown hgrow _
      have hb5 := hB2.grown hgrow hB2.size (own_from ho (Nat.le_refl _))
      have hown2 : w5.ownsRow w3.heap.size 35 2 v2 (k + 1) (flatEntries (entL (ds.take (k + 1)))) := by
        rw [hs1.out]
        have e : entL (ds.take k ++ [(ui, uk)]) = entL (ds.take k) ++ [⟨(ui : Int), (uk : Int)⟩] := by simp [entL]
        rw [e, flatEntries_app]
        exact hown
      clear hgrow hown ho2 hB1 hB2 d0 d1 d2 y0 y1 y2
      go_wp2
      go_roundw
      case rel => exact ⟨k + 1, by omega, by go_num, hown2, hb5⟩
      case measure => simp [intOf]; omega
    · obtain rfl : k = Q := by omega
      have hf := fin2.out _ _ ho hb
      clear ho hRd
      go_wp2
      go_ret
      exact hf
end Go.Proofs.Ythbedhbbijpfkaa
