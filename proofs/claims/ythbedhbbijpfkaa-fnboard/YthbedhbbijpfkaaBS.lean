/- Board of the model. -/
import Derived.Test.YthbedhbbijpfkaaBT
import Derived.Test.YthbedhbbijpfkaaR
namespace Go.Proofs.Ythbedhbbijpfkaa
open Go.RowKit
theorem deps_few {ts : List TripV} (hg : Gd ts) (wn : HaltV → Bool) : ∀ i, i ≤ ts.length → (depsI ts wn i).length ≤ 12 * i
  | 0, _ => by simp [depsI]
  | i + 1, h => by
    have h1 := deps_few hg wn i (by omega)
    have h2 := (hg.len i (by omega)).2
    rw [depsI_succ]
    unfold depsK
    rw [List.length_append, List.length_map]
    have h3 : ((List.range (ncA ts i - 1)).filter fun k => wn (hcA ts i k)).length ≤ ncA ts i - 1 := by
      have := List.length_filter_le (fun k => wn (hcA ts i k)) (List.range (ncA ts i - 1)); simpa using this
    omega
theorem deps_288 {ts : List TripV} (hg : Gd ts) (wn : HaltV → Bool) : (depsOf ts wn).length ≤ 288 := by
  have h := deps_few hg wn ts.length (Nat.le_refl _)
  have := hg.few
  change (depsOf ts wn).length ≤ _ at h
  omega
theorem sub_lenP : ∀ {l1 l2 : List (Nat × Nat)}, l1.Nodup → (∀ x ∈ l1, x ∈ l2) → l1.length ≤ l2.length
  | [], _, _, _ => Nat.zero_le _
  | a :: t, l2, hn, hs => by
    have ha : a ∈ l2 := hs a (List.mem_cons_self ..)
    have hn' := List.nodup_cons.1 hn
    have := sub_lenP (l1 := t) (l2 := l2.erase a) hn'.2 (fun x hx => (List.mem_erase_of_ne (fun e => hn'.1 (by rw [← e]; exact hx))).2 (hs x (List.mem_cons_of_mem _ hx)))
    rw [List.length_erase_of_mem ha] at this
    have := List.length_pos_of_mem ha
    simp only [List.length_cons]; omega
theorem deps_nodup (ts : List TripV) (wn : HaltV → Bool) : (depsOf ts wn).Nodup := (depsI_rise ts wn ts.length).imp fun h e => by rw [e] at h; omega
theorem IsBd.nodup {ts : List TripV} {ds0 out : List (Nat × Nat)} (h : IsBd ts ds0 out) : out.Nodup := h.sorted.imp fun h e => by rw [e] at h; exact cmpX_asym h h
def AnsBoardS (w : World) (ts : List TripV) (node minute cnt : Int) (e : Ending) (w' : World) : Prop :=
  Below w.heap.size w w' ∧ ((BoardOk ts cnt ∧ ∃ v out, e = .returned v ∧ IsBd ts (depsOf ts (wantB node minute)) out ∧ out.length = min cnt.toNat (depsOf ts (wantB node minute)).length ∧ w'.ownsRow w.heap.size 35 2 v out.length (flatEntries (entL out))) ∨ (¬ BoardOk ts cnt ∧ e = .returned (.slice none 0 0)))
/-- The best so far, as it lies in its block. -/
def bestC : Option (Nat × Nat) → Int × Int
  | none => (-1, 0)
  | some y => ((y.1 : Int), (y.2 : Int))
theorem best_set {w : World} {bb : Nat} {x y u v : Value} {t : TypeId} (K : w.heap[bb]? = some (.cells #[x, y] t (0, 0))) : ((w.setCell ⟨bb, 0, none⟩ u).setCell ⟨bb, 1, none⟩ v).heap[bb]? = some (.cells #[u, v] t (0, 0)) := by
  have h1 : (w.setCell ⟨bb, 0, none⟩ u).heap[bb]? = some (.cells #[u, y] t (0, 0)) := by rw [heap_setCell_same w bb 0 _ _ _ K]; rfl
  rw [heap_setCell_same _ bb 1 _ _ _ h1]; rfl
set_option maxRecDepth 100000 in
set_option maxHeartbeats 6400000 in
theorem cBoardS (a : Option Addr) (cap : Nat) (ts : List TripV) (node minute cnt : Int) (w : World) (hz : Trips w a ts) (hS : Small ts) :
    Calls Try.prog 10 #[.slice a ts.length cap, .int .i64 node, .int .i64 minute, .int .i64 cnt] w (AnsBoardS w ts node minute cnt) := by
  obtain ⟨i0, hi, hz0, hz1, hz2⟩ := info_parts infoEntries
  have hW := balloc w (.cells #[] 35)
  have hO := World.ownsRow_made (base := w.heap.size) (e := 35) (size := 2) w #[] 0 (Nat.le_refl _) (by unfold maxLen; omega) rfl
  have CT := cTableS a cap ts _ (hz.below hW) hS
  go_enter Try.func10, Try.ntmps10
  go_wp2_with fail
  refine CT.mono ?_
  rintro e w1 ⟨r, rfl, hr, hb⟩
  have HB := btrans hW hb
  replace hO := own_keep hO hb
  clear hW hb CT
  cases r
  · have hno : Hid (AnsBoardS w ts node minute cnt (.returned (.slice none 0 0)) w1) := hide ⟨HB, .inr ⟨(fun h => by have := hr.2 h.1; cases this), rfl⟩⟩
    clear hr hz
    go_wp2
    go_ret
    exact hno.out
  have hT := hide (hr.1 rfl)
  clear hr
  have CW := cIn cnt 0 50
  cases hIn : inB cnt 0 50
  · have hno : Hid (AnsBoardS w ts node minute cnt (.returned (.slice none 0 0)) w1) := hide ⟨HB, .inr ⟨(fun h => by have := h.2; simp [inB] at hIn; omega), rfl⟩⟩
    rw [hIn] at CW
    clear hz
    go_wp2_with fail
    refine (CW _).mono ?_
    rintro e w2 ⟨rfl, hw⟩
    subst w2
    go_wp2
    go_ret
    exact hno.out
  rw [hIn] at CW
  obtain ⟨n0, n1⟩ := inB_true hIn
  have hok : Hid (BoardOk ts cnt) := hide ⟨hT.out, n0, n1⟩
  go_wp2_with fail
  refine (CW _).mono ?_
  rintro e w2 ⟨rfl, hw⟩
  subst w2
  clear CW
  have hg := hide (table_gd hT.out)
  have hfew := hg.out.few
  obtain ⟨c, rfl⟩ := Int.eq_ofNat_of_zero_le n0
  have hd8 := deps_288 hg.out (wantB node minute)
  have hnd := hide (deps_nodup ts (wantB node minute))
  have hE : Hid (depsI ts (wantB node minute) ts.length = depsOf ts (wantB node minute)) := hide rfl
  have fin : Hid (∀ v out wr, IsBd ts (depsOf ts (wantB node minute)) out → out.length = min c (depsOf ts (wantB node minute)).length → wr.ownsRow w.heap.size 35 2 v out.length (flatEntries (entL out)) → Below w.heap.size w wr → AnsBoardS w ts node minute (c : Int) (.returned v) wr) := hide (fun v out wr h1 h2 h3 h4 => ⟨h4, .inl ⟨hok.out, v, out, rfl, h1, by rw [h2]; congr 1, h3⟩⟩)
  clear hok hT n0
  generalize hwn : wantB node minute = wn at *
  replace hwn := hide hwn
  generalize depsOf ts wn = ds0 at *
  go_wp2
  go_loopw [9, 10, 11, 12, 13, 14] (fun v mm _ _ _ _ wr => ∃ out : List (Nat × Nat), IsBd ts ds0 out ∧ mm = .int .i64 (out.length : Nat) ∧ out.length ≤ min c ds0.length ∧ wr.ownsRow w.heap.size 35 2 v out.length (flatEntries (entL out)) ∧ Below w.heap.size w wr) (fun _ mm _ _ _ _ _ => 600 - (intOf mm).toNat)
  case atStart => exact ⟨[], IsBd.nil _ _, rfl, by simp, by simpa [entL, flatEntries] using hO, HB⟩
  case round =>
    obtain ⟨out, hbd, rfl, hol, ho, hb⟩ := hrel
    clear hO HB
    obtain ⟨va, vc, rfl⟩ := own_form ho
    have hol2 : out.length ≤ 288 := by omega
    have hm1 : ((out.length : Nat) : Int) < 576 := by omega
    by_cases hlt : out.length < c
    · have hlt' : ((out.length : Nat) : Int) < (c : Int) := by omega
      have hE0 : Entries wr va (entL out) := Entries.own ho
      obtain ⟨bb, hbb⟩ : ∃ bb, wr.heap.size = bb := ⟨_, rfl⟩
      have K0 := one_block wr (.cells #[.int .i64 (-1), .int .i64 0] 35)
      have hb1 := btrans hb (balloc wr (.cells #[.int .i64 (-1), .int .i64 0] 35))
      have ho1 := own_keep ho (balloc wr (.cells #[.int .i64 (-1), .int .i64 0] 35))
      have hva : ∀ x, (Value.slice va out.length vc).ownBlock = some x → x ≠ bb := fun x hx => by have := own_blk_lt ho x hx; omega
      have hwb : w.heap.size ≤ bb := by have := hb.size; omega
      rw [hbb] at K0
      replace hbb := hide hbb
      clear hE0
      go_wp2
      rw [hbb.out]
      go_loopw [12, 13, 14] (fun ii _ _ wr => ∃ (i : Nat) (b : Option (Nat × Nat)), i ≤ ts.length ∧ ii = .int .i64 i ∧ Hid (BestIn ts out (depsI ts wn i) b) ∧ Hid (∀ y, b = some y → y.1 < ts.length ∧ y.2 < ncA ts y.1) ∧ wr.heap[bb]? = some (.cells #[.int .i64 (bestC b).1, .int .i64 (bestC b).2] 35 (0, 0)) ∧ wr.ownsRow w.heap.size 35 2 (.slice va out.length vc) out.length (flatEntries (entL out)) ∧ Below w.heap.size w wr) (fun ii _ _ _ => ts.length - (intOf ii).toNat)
      case atStart => exact ⟨0, none, Nat.zero_le _, rfl, hide (.inl ⟨rfl, fun x hx => by simp [depsI] at hx⟩), hide (fun y h => by cases h), K0, ho1, hb1⟩
      case round =>
        obtain ⟨i, b, hil, rfl, hBI, hby, K, ho, hb⟩ := hrel
        clear K0 ho1 hb1
        by_cases hit : i < ts.length
        · have hi' : (i : Int) < (ts.length : Int) := by omega
          have hi0' : (0 : Int) ≤ (i : Int) := by omega
          obtain ⟨tb, toff, na, nc, rfl, -, c2, -, c3⟩ := hz.at hit
          change w.cell? _ = some (.slice na (ncA ts i) nc) at c2
          have hcs := hide (fun k (hk : k < ncA ts i) => call_cells c3 hk)
          obtain ⟨l1, l2⟩ := hg.out.len i hit
          obtain ⟨cb, co, rfl, -⟩ := hcs.out 0 (by omega)
          have hK1 := hide (depsI_succ ts wn i)
          go_wp2
          go_loopw [13, 14] (fun kk _ wr => ∃ (k : Nat) (b : Option (Nat × Nat)), k + 1 ≤ ncA ts i ∧ kk = .int .i64 k ∧ Hid (BestIn ts out (depsK ts wn i k) b) ∧ Hid (∀ y, b = some y → y.1 < ts.length ∧ y.2 < ncA ts y.1) ∧ wr.heap[bb]? = some (.cells #[.int .i64 (bestC b).1, .int .i64 (bestC b).2] 35 (0, 0)) ∧ wr.ownsRow w.heap.size 35 2 (.slice va out.length vc) out.length (flatEntries (entL out)) ∧ Below w.heap.size w wr) (fun kk _ _ => ncA ts i - (intOf kk).toNat)
          case atStart => exact ⟨0, b, by omega, rfl, by rw [depsK_zero]; exact hBI, hby, K, ho, hb⟩
          case round =>
            clear hBI hby K ho hb b
            obtain ⟨k, b, hkl, rfl, hBI, hby, K, ho, hb⟩ := hrel
            have c2' := ble hb c2
            have hk0 : (0 : Int) ≤ (k : Int) := by omega
            have hw1 : IntKind.i64.wrap ((k : Int) + 1) = (k : Int) + 1 := wrap_in _ (by omega) (by omega)
            by_cases hk : k + 1 < ncA ts i
            · have hk1 : (k : Int) + 1 < ((ncA ts i : Nat) : Int) := by omega
              have hk2 : (k : Int) < ((ncA ts i : Nat) : Int) := by omega
              obtain ⟨cb2, co2, hE2, q0, q1, q2⟩ := hcs.out k (by omega)
              simp only [Option.some.injEq, Addr.mk.injEq, and_true] at hE2
              obtain ⟨rfl, rfl⟩ := hE2
              replace q0 := ble hb q0
              replace q1 := ble hb q1
              replace q2 := ble hb q2
              have hY := hide (depsK_yes (ts := ts) (wn := wn) (i := i) (k := k))
              have hN := hide (depsK_no (ts := ts) (wn := wn) (i := i) (k := k))
              have hbf := hide (fun z => depsK_before (ts := ts) (wn := wn) (i := i) (k := k) (x := z))
              obtain ⟨cn, hcn⟩ : ∃ cn, (hcA ts i k).n = cn := ⟨_, rfl⟩
              obtain ⟨ca, hca⟩ : ∃ ca, (hcA ts i k).a = ca := ⟨_, rfl⟩
              obtain ⟨cd, hcd⟩ : ∃ cd, (hcA ts i k).d = cd := ⟨_, rfl⟩
              have hwk : Hid (wn (hcA ts i k) = (decide (cn = node) && decide (minute ≤ cd))) := hide (by rw [← hwn.out, ← hcn, ← hcd]; rfl)
              rw [hcn] at q0
              rw [hca] at q1
              rw [hcd] at q2
              replace hcn := hide hcn
              replace hca := hide hca
              replace hcd := hide hcd
              have hbl := balloc wr (.cells #[.int .i64 cn, .int .i64 ca, .int .i64 cd] 33)
              obtain ⟨⟨x0, x1, x2⟩, -⟩ := blk3 (one_block wr (.cells #[.int .i64 cn, .int .i64 ca, .int .i64 cd] 33))
              have HB1 := btrans hb hbl
              have K1 := blk_keep hbl K
              have ho1 := own_keep ho hbl
              clear hbl
              by_cases h1 : cn = node
              · by_cases h2 : cd < minute
                · have hB2 : Hid (BestIn ts out (depsK ts wn i (k + 1)) b) := hide (by rw [hN.out (by rw [hwk.out, decide_eq_false (by omega : ¬ minute ≤ cd), Bool.and_false])]; exact hBI.out)
                  clear hBI hY hN hwk
                  subst h1
                  go_wp2
                  go_roundw
                  case rel => exact ⟨k + 1, b, by omega, by go_num, hB2, hby, K1, ho1, HB1⟩
                  case measure => simp [intOf]; omega
                · have hwt : wn (hcA ts i k) = true := by rw [hwk.out, decide_eq_true h1, decide_eq_true (by omega : minute ≤ cd)]; rfl
                  have hL := hide (hY.out hwt)
                  have CTd := cTold va vc out i k _ (Entries.own ho1) (by omega)
                  clear hY hN hwk hwt
                  subst h1
                  by_cases hm : (i, k) ∈ out
                  · have hB2 : Hid (BestIn ts out (depsK ts wn i (k + 1)) b) := hide (by rw [hL.out]; exact hBI.out.skip hm)
                    rw [decide_eq_true hm] at CTd
                    clear hBI hL hm
                    go_wp2_with fail
                    refine CTd.mono ?_
                    rintro e w2 ⟨rfl, hw⟩
                    subst w2
                    go_wp2
                    go_roundw
                    case rel => exact ⟨k + 1, b, by omega, by go_num, hB2, hby, K1, ho1, HB1⟩
                    case measure => simp [intOf]; omega
                  · rw [decide_eq_false hm] at CTd
                    have hm2 := hide hm
                    go_wp2_with fail
                    refine CTd.mono ?_
                    rintro e w2 ⟨rfl, hw⟩
                    subst w2
                    clear CTd
                    generalize wr.alloc (.cells #[.int .i64 cn, .int .i64 ca, .int .i64 cd] 33) = wc at *
                    have g0 := frozen_of_row wc bb 0 _ _ K1
                    have g1 := frozen_of_row wc bb 1 _ _ K1
                    have kb0 : wc.cell? ⟨bb, 0, none⟩ = some (.int .i64 (bestC b).1) := Go.Joins.cell_of_block K1 0
                    have kb1 : wc.cell? ⟨bb, 1, none⟩ = some (.int .i64 (bestC b).2) := Go.Joins.cell_of_block K1 1
                    cases b with
                    | none =>
                      have hB2 : Hid (BestIn ts out (depsK ts wn i (k + 1)) (some (i, k))) := hide (by rw [hL.out]; exact hBI.out.first hm2.out)
                      have hby2 : Hid (∀ y, some (i, k) = some y → y.1 < ts.length ∧ y.2 < ncA ts y.1) := hide (fun y e => by cases e; exact ⟨hit, by dsimp only; omega⟩)
                      dsimp only [bestC] at kb0 kb1 K1
                      clear hBI hby hL hm hm2
                      go_wp2
                      go_quiet (fail)
                      go_wp2
                      go_roundw
                      case rel => exact ⟨k + 1, some (i, k), by omega, by go_num, hB2, hby2, best_set K1, own_set (own_set (own_keep ho1 (bdraw (Below.refl _ _) _)) hva) hva, below_set hwb (below_set hwb (bdraw HB1 _))⟩
                      case measure => simp [intOf]; omega
                    | some y =>
                      obtain ⟨y1, y2⟩ := y
                      obtain ⟨hy1, hy2⟩ := hby.out _ rfl
                      dsimp only at hy1 hy2
                      obtain ⟨ec, eo, ep, t1, t2⟩ := place_cells (w := wc) hz (x := (y1, y2)) hy1 hy2 (fun k hk => HB1.block k hk)
                      dsimp only at t1 t2
                      dsimp only [bestC] at kb0 kb1 K1
                      have hy3 : (0 : Int) ≤ (y1 : Int) := by omega
                      have hy4 : (y1 : Int) < (ts.length : Int) := by omega
                      have hy5 : (0 : Int) ≤ (y2 : Int) := by omega
                      have hy6 : (y2 : Int) < ((ncA ts y1 : Nat) : Int) := by omega
                      have hnd1 : decide ((y1 : Int) < 0) = false := by simp
                      obtain ⟨dy, hdy⟩ : ∃ dy, (hcA ts y1 y2).d = dy := ⟨_, rfl⟩
                      rw [hdy] at t2
                      replace hdy := hide hdy
                      by_cases hd : cd < dy
                      · have hB2 : Hid (BestIn ts out (depsK ts wn i (k + 1)) (some (i, k))) := hide (by rw [hL.out]; exact hBI.out.less hm2.out (by rw [hcd.out, hdy.out]; exact hd))
                        have hby2 : Hid (∀ y, some (i, k) = some y → y.1 < ts.length ∧ y.2 < ncA ts y.1) := hide (fun y e => by cases e; exact ⟨hit, by dsimp only; omega⟩)
                        have hfd : decide (cd < dy) = true := decide_eq_true hd
                        clear hBI hby hL hm hm2
                        go_wp2
                        go_quiet (fail)
                        go_wp2
                        go_roundw
                        case rel => exact ⟨k + 1, some (i, k), by omega, by go_num, hB2, hby2, best_set K1, own_set (own_set (own_keep ho1 (bdraw (Below.refl _ _) _)) hva) hva, below_set hwb (below_set hwb (bdraw HB1 _))⟩
                        case measure => simp [intOf]; omega
                      · have hB2 : Hid (BestIn ts out (depsK ts wn i (k + 1)) (some (y1, y2))) := hide (by rw [hL.out]; exact hBI.out.more (by rw [hcd.out, hdy.out]; exact hd) (fun z hz => hbf.out z hz))
                        have hfd : decide (cd < dy) = false := decide_eq_false hd
                        clear hBI hL hm hm2
                        go_wp2
                        go_quiet (fail)
                        go_wp2
                        go_roundw
                        case rel => exact ⟨k + 1, some (y1, y2), by omega, by go_num, hB2, hby, K1, own_keep ho1 (bdraw (Below.refl _ _) _), bdraw HB1 _⟩
                        case measure => simp [intOf]; omega
              · have hB2 : Hid (BestIn ts out (depsK ts wn i (k + 1)) b) := hide (by rw [hN.out (by rw [hwk.out, decide_eq_false h1, Bool.false_and])]; exact hBI.out)
                clear hBI hY hN hwk
                go_wp2
                go_roundw
                case rel => exact ⟨k + 1, b, by omega, by go_num, hB2, hby, K1, ho1, HB1⟩
                case measure => simp [intOf]; omega
            · have hk1 : ¬ ((k : Int) + 1 < ((ncA ts i : Nat) : Int)) := by omega
              have hke : k = ncA ts i - 1 := by omega
              have hB2 : Hid (BestIn ts out (depsI ts wn (i + 1)) b) := hide (by rw [hK1.out, ← hke]; exact hBI.out)
              clear hBI
              go_wp2
              go_roundw
              case rel => exact ⟨i + 1, b, by omega, by go_num, hB2, hby, K, ho, hb⟩
              case measure => simp [intOf]; omega
        · have hi' : ¬ ((i : Int) < (ts.length : Int)) := by omega
          obtain rfl : i = ts.length := by omega
          rw [hE.out] at hBI
          have kb0 : wr.cell? ⟨bb, 0, none⟩ = some (.int .i64 (bestC b).1) := Go.Joins.cell_of_block K 0
          have kb1 : wr.cell? ⟨bb, 1, none⟩ = some (.int .i64 (bestC b).2) := Go.Joins.cell_of_block K 1
          cases b with
          | none =>
            have hsub : ds0.length ≤ out.length := sub_lenP hnd.out (fun x hx => by
              rcases hBI.out with ⟨_, h⟩ | ⟨y, h, _⟩
              · exact h x hx
              · cases h)
            have hf := hide (fin.out _ out wr hbd (by omega) ho hb)
            dsimp only [bestC] at kb0 kb1 K
            clear fin hz ho hBI hby
            go_wp2
            go_ret
            exact hf.out
          | some y =>
            have hbd2 := hbd.push hBI.out
            have hyn : y ∈ ds0 := by
              rcases hBI.out with ⟨h, _⟩ | ⟨y', h, h2, _⟩
              · cases h
              · cases h; exact h2
            have hlen2 : (out ++ [y]).length ≤ min c ds0.length := by
              have h1 := sub_lenP hbd2.nodup (fun x hx => hbd2.inn x hx)
              simp only [List.length_append, List.length_cons, List.length_nil] at h1 ⊢
              omega
            obtain ⟨y1, y2⟩ := y
            dsimp only [bestC] at kb0 kb1 K
            have hnd1 : ¬ ((y1 : Int) < 0) := by omega
            have hb6 := btrans hb (balloc wr (.cells #[.int .i64 (y1 : Int), .int .i64 (y2 : Int)] 35))
            have ho6 := own_keep ho (balloc wr (.cells #[.int .i64 (y1 : Int), .int .i64 (y2 : Int)] 35))
            obtain ⟨M, hM⟩ : ∃ M, out.length = M := ⟨_, rfl⟩
            rw [hM] at ho6 hol2 hm1 hlt'
            have hM2 : (out ++ [(y1, y2)]).length = M + 1 := by rw [← hM]; simp
            rw [hM]
            rw [hM2] at hlen2
            replace hM2 := hide hM2
            replace hM := hide hM
            have hw1 : IntKind.i64.wrap ((M : Int) + 1) = (M : Int) + 1 := wrap_in _ (by omega) (by omega)
            clear fin hBI hby ho
            go_wp2_with (at_builtin; refine wpList_append_own _ rfl _ _ 27 rfl w.heap.size 35 i0 _ 2 16 Try.underlying27 hi hz0 hz1 hz2 rfl (by decide) _ _ _ rfl ho6 ⟨wr.heap.size, 0, none⟩ 1 1 (EntryV.vs ⟨(y1 : Int), (y2 : Int)⟩) rfl rfl ?c1 ?c2 ?c3 ?c4 ?c5 ?_)
            case c1 => exact fun j u h => h
            case c2 => simp [Value.oneCell', EntryV.vs]
            case c3 => unfold maxLen; omega
            case c4 => omega
            case c5 => exact Nat.le_succ_of_le hb.size
            intro v2 w5 hown hgrow _
            have hb7 := hb6.grown hgrow hb6.size (own_from ho6 (Nat.le_refl _))
            have hown2 : w5.ownsRow w.heap.size 35 2 v2 (out ++ [(y1, y2)]).length (flatEntries (entL (out ++ [(y1, y2)]))) := by
              have e : entL (out ++ [(y1, y2)]) = entL out ++ [⟨(y1 : Int), (y2 : Int)⟩] := by simp [entL]
              rw [e, flatEntries_app, hM2.out]
              exact hown
            clear hown hgrow ho6 hb6
            go_wp2
            go_roundw
            case rel => exact ⟨out ++ [(y1, y2)], hbd2, by rw [hM2.out]; go_num, by rw [hM2.out]; exact hlen2, hown2, hb7⟩
            case measure => have := hM.out; simp [intOf]; omega
    · have hlt' : ¬ (((out.length : Nat) : Int) < (c : Int)) := by omega
      have hf := hide (fin.out _ out wr hbd (by omega) ho hb)
      clear fin hz ho
      go_wp2
      go_ret
      exact hf.out
end Go.Proofs.Ythbedhbbijpfkaa
