/- Encode of the program. -/
import Derived.Test.YtgnohomplehacaaEN
namespace Go.Proofs.Ytgnohomplehacaa
open Go.RowKit
theorem rows2 {w : World} {g c0 c1 : Nat} {a0 a1 : Option Addr} {xs ys : List Int} (hb : w.heap[g]? = some (.cells #[.slice a0 xs.length c0, .slice a1 ys.length c1] 22 (0, 0))) (h0 : ByV w (.slice a0 xs.length c0) xs) (h1 : ByV w (.slice a1 ys.length c1) ys) :
    RowsB w (some ⟨g, 0, none⟩) [.slice a0 xs.length c0, .slice a1 ys.length c1] [xs, ys] := by
  refine ⟨rfl, .inr ⟨g, 0, rfl, fun i hi => ?_⟩, fun i hi => ?_⟩
  · have h2 : i = 0 ∨ i = 1 := by simp at hi; omega
    rcases h2 with rfl | rfl
    · exact Go.Joins.cell_of_block hb 0
    · exact Go.Joins.cell_of_block hb 1
  · have h2 : i = 0 ∨ i = 1 := by simp at hi; omega
    rcases h2 with rfl | rfl
    · exact h0
    · exact h1
theorem rows3 {w : World} {g c0 c1 c2 : Nat} {a0 a1 a2 : Option Addr} {xs ys us : List Int} (hb : w.heap[g]? = some (.cells #[.slice a0 xs.length c0, .slice a1 ys.length c1, .slice a2 us.length c2] 22 (0, 0))) (h0 : ByV w (.slice a0 xs.length c0) xs) (h1 : ByV w (.slice a1 ys.length c1) ys) (h2 : ByV w (.slice a2 us.length c2) us) :
    RowsB w (some ⟨g, 0, none⟩) [.slice a0 xs.length c0, .slice a1 ys.length c1, .slice a2 us.length c2] [xs, ys, us] := by
  refine ⟨rfl, .inr ⟨g, 0, rfl, fun i hi => ?_⟩, fun i hi => ?_⟩
  · have h2 : i = 0 ∨ i = 1 ∨ i = 2 := by simp at hi; omega
    rcases h2 with rfl | rfl | rfl
    · exact Go.Joins.cell_of_block hb 0
    · exact Go.Joins.cell_of_block hb 1
    · exact Go.Joins.cell_of_block hb 2
  · have h3 : i = 0 ∨ i = 1 ∨ i = 2 := by simp at hi; omega
    rcases h3 with rfl | rfl | rfl
    · exact h0
    · exact h1
    · exact h2
theorem byv_lit1 (w : World) (g : Nat) (x : Int) (t : TypeId) (h : w.heap[g]? = some (.cells #[.int .u8 x] t (0, 0))) : ByV w (.slice (some ⟨g, 0, none⟩) [x].length 1) [x] :=
  ⟨_, _, rfl, .inr ⟨g, 0, rfl, fun i hi => by
    obtain rfl : i = 0 := by simp at hi; omega
    exact Go.Joins.cell_of_block h 0⟩, by simp⟩
theorem byv_lit3 (w : World) (g : Nat) (x y z : Int) (t : TypeId) (h : w.heap[g]? = some (.cells #[.int .u8 x, .int .u8 y, .int .u8 z] t (0, 0))) : ByV w (.slice (some ⟨g, 0, none⟩) [x, y, z].length 3) [x, y, z] :=
  ⟨_, _, rfl, .inr ⟨g, 0, rfl, fun i hi => by
    have h2 : i = 0 ∨ i = 1 ∨ i = 2 := by simp at hi; omega
    rcases h2 with rfl | rfl | rfl
    · exact Go.Joins.cell_of_block h 0
    · exact Go.Joins.cell_of_block h 1
    · exact Go.Joins.cell_of_block h 2⟩, by simp⟩
theorem RowsB.below {w w' : World} {a : Option Addr} {vs : List Value} {xss : List (List Int)} (h : RowsB w a vs xss) (hb : Below w.heap.size w w') : RowsB w' a vs xss := by
  refine ⟨h.len, ?_, fun i hi => (h.each i hi).below hb⟩
  rcases h.cell with h1 | ⟨b, off, ha, hc⟩
  · exact .inl h1
  · exact .inr ⟨b, off, ha, fun i hi => ble hb (hc i hi)⟩
theorem flat2 (xs ys : List Int) : [xs, ys].flatten = xs ++ ys := by simp
theorem flat3 (xs ys us : List Int) : [xs, ys, us].flatten = xs ++ (ys ++ us) := by simp
set_option maxRecDepth 100000 in
set_option maxHeartbeats 6400000 in
theorem cEncI (q k : Int) (a : Option Addr) (c : Nat) (zs : List Int) (w : World) (hz : Bys w a zs) (hy : By zs) (hzc : zs.length ≤ c) :
    Calls Try.prog 15 #[.agg #[.int .i64 q, .int .i64 k, .slice a zs.length c]] w fun e w' => ∃ v, e = .returned v ∧ w'.ownsRow w.heap.size 5 1 v (encV ⟨q, k, zs⟩).length (enc8 (encV ⟨q, k, zs⟩)) ∧ Below w.heap.size w w' := by
  have S0 : EnS w q k a zs.length c (w.alloc (.cells #[.int .i64 q, .int .i64 k, .slice a zs.length c] 25)) := ⟨balloc _ _, one_block w _⟩
  have hok : okT ⟨q, k, zs⟩ = telB q k zs.length := rfl
  cases hT : telB q k zs.length
  · have E : Hid (encV ⟨q, k, zs⟩ = []) := hide (encV_no (by rw [hok, hT]))
    clear hok
    go_enter Try.func15, Try.ntmps15
    go_wp2_with fail
    refine (cOkI q k a zs.length c _).mono ?_
    rintro e w1 ⟨rfl, hb⟩
    replace S0 := S0.below hb
    rw [hT]
    clear hb
    go_wp2
    go_ret
    exact ⟨_, rfl, by rw [E.out]; exact World.ownsRow_nil _ _ _ _, S0.bel⟩
  have E : Hid (encV ⟨q, k, zs⟩ = encL ⟨q, k, zs⟩) := hide (encV_yes (by rw [hok, hT]))
  obtain ⟨q0, q1, k0, k1, l60⟩ := okT_parts (hok.trans hT)
  dsimp only at q0 q1 k0 k1 l60
  have hhb := hide (head_by (hok.trans hT) hy)
  have wq := wrap8 q q0 q1
  have wk := wrap8 k k0 (by omega)
  have wl := wrap8 (zs.length : Int) (by omega) (by omega)
  clear hok
  go_enter Try.func15, Try.ntmps15
  go_wp2_with fail
  refine (cOkI q k a zs.length c _).mono ?_
  rintro e w1 ⟨rfl, hb⟩
  replace S0 := S0.below hb
  rw [hT]
  clear hb hT
  obtain ⟨⟨x0, x1, x2⟩, -⟩ := blk3 S0.box
  have H0 := one_block w1 (.cells #[.int .u8 q, .int .u8 k, .int .u8 (zs.length : Int)] 59)
  have S1 := S0.below (balloc w1 (.cells #[.int .u8 q, .int .u8 k, .int .u8 (zs.length : Int)] 59))
  clear S0
  go_wp2_with fail
  generalize w1.alloc (.cells #[.int .u8 q, .int .u8 k, .int .u8 (zs.length : Int)] 59) = w2 at *
  generalize w1.heap.size = G at *
  clear x0 x1 x2
  obtain ⟨⟨x0, x1, x2⟩, -⟩ := blk3 S1.box
  have hb2 := balloc w2 (.cells #[.slice (some ⟨G, 0, none⟩) [q, k, (zs.length : Int)].length 3, .slice a zs.length c] 22)
  have RB := rows2 (one_block w2 (.cells #[.slice (some ⟨G, 0, none⟩) [q, k, (zs.length : Int)].length 3, .slice a zs.length c] 22)) ((byv_lit3 w2 G q k _ _ H0).below hb2) (⟨a, c, rfl, (hz.below S1.bel).below hb2, hzc⟩ : ByV _ _ zs)
  have hsz2 := S1.bel.size
  have CC : Calls Try.prog 48 #[.slice (some ⟨w2.heap.size, 0, none⟩) 2 2] (w2.alloc (.cells #[.slice (some ⟨G, 0, none⟩) 3 3, .slice a zs.length c] 22)).drew (fun e w' => ∃ v, e = .returned v ∧ w'.ownsRow w.heap.size 5 1 v (headL ⟨q, k, zs⟩).length (enc8 (headL ⟨q, k, zs⟩)) ∧ Below w2.heap.size w2 w') := by
    refine (cConcat (some ⟨w2.heap.size, 0, none⟩) 2 _ [[q, k, (zs.length : Int)], zs] _ (RB.below (bdraw (Below.refl _ _) 1)) (by simp) ?_).mono ?_
    · intro i hi
      have h2 : i = 0 ∨ i = 1 := by simp at hi; omega
      rcases h2 with rfl | rfl
      · simp [rwA]
      · simp [rwA]; omega
    · rintro e w' ⟨v, h1, h2, h3⟩
      rw [flat2] at h2
      exact ⟨v, h1, own_base h2 (Nat.le_trans hsz2 hb2.size), btrans hb2 (undrew h3)⟩
  clear RB H0
  go_region_held3 (fun w' => w'.cell? ⟨w.heap.size, 2, none⟩ = some (.slice a zs.length c)) (go_keep) (first
    | (go_at_call 48; refine CC.mono ?_; rintro e w3 ⟨v3, rfl, R3, hb3⟩; have v0 := ble hb3 x2))
  have S2 := S1.below hb3
  clear CC S1 hb2 hb3 v0 x0 x1 x2 hsz2
  obtain ⟨HD, hHD⟩ : ∃ HD, HD = headL ⟨q, k, zs⟩ := ⟨_, rfl⟩
  have hLD : Hid (loadL ⟨q, k, zs⟩ = HD ++ [crcV HD]) := hide (by rw [hHD]; rfl)
  have hlen : HD.length ≤ 63 := by rw [hHD, head_len]; show zs.length + 3 ≤ 63; omega
  rw [← hHD] at R3 hhb
  clear hHD
  obtain ⟨cr0, cr1⟩ := crcV_in hhb.out
  have wc := wrap8 _ cr0 cr1
  obtain ⟨v4, w4, hrun, hrow, hgrow, -⟩ := app_one (crcV HD) rfl R3 (by omega) S2.bel.size
  have S4 := S2.app R3 hgrow
  rw [← hLD.out] at hrow
  obtain ⟨va, vc, rfl⟩ := own_form R3
  have CR := cCrcI va vc HD w3 (Bys.own R3 rfl) hhb.out (by unfold maxLen; omega)
  generalize crcV HD = CV at *
  clear R3 S2 hgrow
  go_wp2_with fail
  refine CR.mono ?_
  rintro e w5 ⟨rfl, hw⟩
  subst w5
  clear CR
  obtain ⟨N, hN⟩ : ∃ N, N = HD.length + 1 := ⟨_, rfl⟩
  have hN2 : N ≤ 64 := by omega
  rw [← hN] at hrow
  obtain ⟨va4, vc4, rfl⟩ := own_form hrow
  have hEn : Hid (encL ⟨q, k, zs⟩ = [126] ++ (esc (loadL ⟨q, k, zs⟩) ++ [126])) := hide rfl
  generalize loadL ⟨q, k, zs⟩ = LD at *
  have hLl : LD.length = N := by have := hrow.1; simp at this; omega
  have hel := (esc_len LD).2
  rw [hLl] at hel
  have F0 := one_block w4 (.cells #[.int .u8 126] 5)
  have hb4 := balloc w4 (.cells #[.int .u8 126] 5)
  have CE := cEsc va4 vc4 LD _ ((Bys.own hrow hLl).below hb4) (by omega)
  rw [hLl] at CE
  replace hN := hide hN
  replace hLl := hide hLl
  have B4 := btrans S4.bel hb4
  clear S4
  go_wp2_with (at_builtin; refine Go.Lib.wpList_append_run _ rfl _ _ _ _ rfl _ _ rfl rfl _ _ hrun ?_)
  go_wp2_with fail
  refine CE.mono ?_
  rintro e w6 ⟨v6, rfl, R6, hb6⟩
  replace F0 := blk_keep hb6 F0
  have B6 := btrans B4 hb6
  have R6b := own_base R6 B4.size
  clear CE hb6 R6 B4 hb4 hrow
  obtain ⟨va6, vc6, rfl⟩ := own_form R6b
  have G6 := one_block w6 (.cells #[.int .u8 126] 5)
  have hc6 := balloc w6 (.cells #[.int .u8 126] 5)
  have B7 := btrans B6 hc6
  have F7 := blk_keep hc6 F0
  have R7 := own_keep R6b hc6
  generalize w4.heap.size = G4 at *
  have hb8 := balloc (w6.alloc (.cells #[.int .u8 126] 5)) (.cells #[.slice (some ⟨G4, 0, none⟩) [(126 : Int)].length 1, .slice va6 (esc LD).length vc6, .slice (some ⟨w6.heap.size, 0, none⟩) [(126 : Int)].length 1] 22)
  have ob := one_block (w6.alloc (.cells #[.int .u8 126] 5)) (.cells #[.slice (some ⟨G4, 0, none⟩) [(126 : Int)].length 1, .slice va6 (esc LD).length vc6, .slice (some ⟨w6.heap.size, 0, none⟩) [(126 : Int)].length 1] 22)
  rw [sz1] at ob
  have RB := rows3 ob ((byv_lit1 (w6.alloc (.cells #[.int .u8 126] 5)) G4 126 _ F7).below hb8) ((ByV.own rfl R7).below hb8) ((byv_lit1 (w6.alloc (.cells #[.int .u8 126] 5)) w6.heap.size 126 _ G6).below hb8)
  have CC : Calls Try.prog 48 #[.slice (some ⟨w6.heap.size + 1, 0, none⟩) 3 3] ((w6.alloc (.cells #[.int .u8 126] 5)).alloc (.cells #[.slice (some ⟨G4, 0, none⟩) 1 1, .slice va6 (esc LD).length vc6, .slice (some ⟨w6.heap.size, 0, none⟩) 1 1] 22)) (fun e w' => ∃ v, e = .returned v ∧ w'.ownsRow w.heap.size 5 1 v (encV ⟨q, k, zs⟩).length (enc8 (encV ⟨q, k, zs⟩)) ∧ Below w.heap.size w w') := by
    refine (cConcat (some ⟨w6.heap.size + 1, 0, none⟩) 3 _ [[126], esc LD, [126]] _ RB (by simp) ?_).mono ?_
    · intro i hi
      have h2 : i = 0 ∨ i = 1 ∨ i = 2 := by simp at hi; omega
      rcases h2 with rfl | rfl | rfl
      · simp [rwA]
      · simp [rwA]; omega
      · simp [rwA]
    · rintro e w' ⟨v, h1, h2, h3⟩
      rw [flat3, ← hEn.out, ← E.out] at h2
      exact ⟨v, h1, own_base h2 (Nat.le_trans B7.size hb8.size), btrans (btrans B7 hb8) h3⟩
  generalize (esc LD).length = EL at *
  clear RB ob hb8 R7 F7 G6 R6b F0 hc6 B6 B7
  go_wp2_with fail
  refine CC.mono ?_
  rintro e w8 ⟨v8, rfl, R8, hb9⟩
  go_wp2
  go_ret
  exact ⟨v8, rfl, R8, hb9⟩
end Go.Proofs.Ytgnohomplehacaa
