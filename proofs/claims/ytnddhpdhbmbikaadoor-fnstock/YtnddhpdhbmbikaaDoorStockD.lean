/- FnStock answers true at every code, as a card tied to the program's text: a drawn formation that is turned twice, or parted anywhere and put together, is as it was; its length is that of its parts; it is printed and read again as it was. Its conditions: the library's tables and the program's own sentinel error hold what the program's own text lays in them (the card ties that); beyond the law's own measure it answers true at once. -/
import Derived.Test.YtnddhpdhbmbikaaDoorO5
import Derived.Test.YtnddhpdhbmbikaaDoorXSA
import Derived.Test.YtnddhpdhbmbikaaDoorRows
import Derived.Test.YtnddhpdhbmbikaaDoorTie
import Derived.Test.YtnddhpdhbmbikaaDoorCards
import Derived.ProofKit
import Derived.LaidMore
import Derived.OpenShut
import Derived.Stop.Joined
import Derived.Stop.LaidErr
import Derived.SevenTiedAt
import Derived.ChangeOld
namespace Go.Proofs.YtnddhpdhbmbikaaDoor.stockDDone
open Go.ChangeShapes Go.WideShapes Go.ChangeAt Go.RowKit Go.Stop

theorem door_met (os : Os) (args : Array Value) : laidMetH Tryd.prog Rows.fnStockRow.laid ((World.doorLaid Tryd.prog 400 os).forCall (fun _ _ => 0) ⟨#[], args, []⟩).memory :=
  laidMetH_of_parts3 (fuel := 8) (laidMet_of_run' 8 (by kernel_rfl) (by kernel_rfl)) (by kernel_rfl) (by kernel_rfl)
theorem gErr : Tryd.prog.globalNamed "loop.example/g00075/impl.errMisread" = some 0 := by kernel_rfl
theorem gErrT : (Tryd.prog.globals[0]?).map (·.type) = some 55 := by kernel_rfl
theorem cellsES : Tryd.prog.cellsOf 150 = 1 := by kernel_rfl
theorem cellsStr : Tryd.prog.cellsOf 9 = 1 := by kernel_rfl
theorem starE : "*" ++ "errors.errorString" = "*errors.errorString" := by decide
theorem rowE (u : TypeId) (h : Tryd.prog.typeName? 3 u = some "*errors.errorString") : u = 127 :=
  typeName_ptr_named (nm := "errors.errorString") (by rw [starE]; kernel_rfl) (by kernel_rfl) (by decide) u (by rw [starE]; exact h)
theorem of_laid {W : World} (h : laidMetH Tryd.prog Rows.fnStockRow.laid W) : Tab W ∧ ∃ a : Addr, W.var? Tryd.prog "loop.example/g00075/impl.errMisread" = some #[.iface 127 (.pointer (some a))] := by
  rw [MakeChecks.laidMetH_plain _ _ _ (by kernel_rfl)] at h
  have h2 : laidMet Tryd.prog [("internal/strconv.uint64pow10", Rows.laid_internal_strconv_uint64pow10), ("loop.example/g00075/impl.errMisread", Rows.laid_loop_example_g00075_impl_errMisread)] W := laidMet.tail (laidMet.tail h)
  refine ⟨Lib.tabIs_of_head (k := .u64) (zs := Lib.pow10Tab) (t := 119) (e := 112) (n := 20) gPow (by kernel_rfl) Tryd.underlying119 Tryd.underlying112 (by kernel_rfl) (by kernel_rfl) h2, ?_⟩
  obtain ⟨a, s, hv, -⟩ := laid_sentinel (laidMet.tail h2) gErr gErrT Tryd.underlying55 rowE Tryd.underlying127 Tryd.underlying150 rfl rfl Tryd.underlying9 cellsES cellsStr
  exact ⟨a, hv⟩

set_option maxRecDepth 100000 in
theorem lifted (os : Os) (started : os.Started) (H : Type) (enc : TypeId × Value → H) :
    ReturnsInHanded {} Tryd.checked os 3 .any (fun w args => (Rows.fnStockSpec.pre enc Tryd.prog Tryd.f3 [] false w args ∧ laidMetH Tryd.prog Rows.fnStockRow.laid w) ∧ sizedMet enc Tryd.prog Tryd.f3 (OpenSpec.ofChange Rows.fnStockSpec) false w args)
      (Rows.fnStockSpec.post enc Tryd.prog Tryd.f3 false true false false) := by
  refine returnsInHanded_of_change_and (C := Tryd.checked) (X := fun w _ => laidMetH Tryd.prog Rows.fnStockRow.laid w) (fun _ _ _ hh h => h.of_heap hh) own started (by kernel_rfl) Tryd.func3
    (ChangeSpec.witness_shaped (enc := enc) (C := Tryd.checked) (os := os) (X := fun w _ => laidMetH Tryd.prog Rows.fnStockRow.laid w) false (World.doorLaid Tryd.prog 400 os) #[.slice none 0 0] 8 rfl (World.shaped_of_RefB (by kernel_rfl) (by kernel_rfl)) (by kernel_rfl) (by kernel_rfl) (by kernel_rfl) (door_met os _)) ?_
  intro W base args ds gs before hval0 hW _ _ hL _
  have hval : ∀ (j : Nat) t v, Tryd.f3.params[j]? = some t → args[j]? = some v → Value.okWide Tryd.prog W .any base t v := hval0
  have hW' := hW
  obtain ⟨p, q, hA0, hV0, rfl, hfz, hnd⟩ := hW
  have hA : DataW.TrodAll enc Tryd.prog W 0 (fun _ => true) true Tryd.f3.params.toList args.toList ds p := hA0
  have hV : DataW.TrodVars enc Tryd.prog W (fun _ => true) ["loop.example/g00075/impl.errMisread"] gs q := hV0
  rw [Tryd.params3] at hA hval
  obtain ⟨v0, vs0, d0, ds0, p0, q0, hargs, rfl, rfl, h0, r0⟩ := trodAll_cons hA
  obtain ⟨rfl, rfl, rfl⟩ := trodAll_nil r0
  obtain rfl : args = #[v0] := by cases args; simp_all
  have k0 := h0
  have lt0 : ∀ x ∈ p0, x.block < W.heap.size := by obtain ⟨m, hm⟩ := k0; exact DataW.trod_lt m _ _ _ hm
  obtain ⟨ht, ae, hv⟩ := of_laid hL
  have vr : ∀ {X : World}, X.var? Tryd.prog "loop.example/g00075/impl.errMisread" = some #[.iface 127 (.pointer (some ae))] → ∀ sp : Nat → Bool,
      DataW.TrodVars enc Tryd.prog X sp ["loop.example/g00075/impl.errMisread"] [tok enc (.iface 127 (.pointer (some ae)))] [.cell 0 0] :=
    fun x0 sp => vars_read1 enc gErr gErrT Tryd.underlying55 x0 trivial sp
  obtain ⟨rfl, rfl⟩ := hV.unique (vr hv _)
  have hg0 : W.cell? ⟨0, 0, none⟩ = some (.iface 127 (.pointer (some ae))) := by simpa using World.var?_cell gErr hv 0
  obtain ⟨a0, zs, c0, rfl, i0, l0⟩ := bytes_of_trod (hval 0 22 v0 rfl rfl) h0
  clear hA0 hval0 hV0
  refine (walkStock a0 c0 zs W ae hg0 ht i0 l0).mono fun e W' ⟨he, bel⟩ => ?_
  subst he
  have hv' : W'.var? Tryd.prog "loop.example/g00075/impl.errMisread" = some #[.iface 127 (.pointer (some ae))] := by
    rw [← hv]
    unfold World.var?
    simp only [gErr, Option.bind_some]
    rw [bel.block 0 (cell_lt hg0)]
  exact ⟨_, rfl, _, _, _, [], _, [.cell 0 0], hW', trodAll_mk1 (shut_bool Tryd.underlying4 _), (trodAll_cons_mk (Below.trod laidOut (by kernel_rfl) (of_decide_eq_true (by kernel_rfl)) k0 bel lt0) trodAll_mk0), vr hv' _, bel.frame _, fun h => by cases h⟩

theorem over : Rows.FnStockSaid :=
  OpenClaim.holds_of_wide 3 Tryd.f3 rfl rfl rfl rfl rfl rfl rfl ⟨rfl, rfl, rfl, rfl, rfl⟩ rfl rfl rfl rfl rfl (by kernel_rfl) Tryd.func3 (by kernel_rfl)
    (of_decide_eq_true (by kernel_rfl)) (by unfold Func.isWrapper; first | (rw [if_pos (by decide +kernel)]; kernel_rfl) | (rw [if_neg (by decide +kernel)]; exact ⟨rfl, rfl⟩))
    (fun os started H enc _ => lifted os started H enc)
end Go.Proofs.YtnddhpdhbmbikaaDoor.stockDDone

namespace Go.Proofs.YtnddhpdhbmbikaaDoor
open Go
theorem stockD_holds : Rows.FnStockCardSaid :=
  Claim7.holds_tied_plain_at .later [] [.data, .data, .data, .sentinel] true (true, "c1551ad077059d6b6b84034fdc4113d1826981c624c229bb5cfcefd49435607f") true
    stockDDone.over (fun _ h => by cases h) (by kernel_rfl) (fun _ h => by cases h) fnStock_row_tie rfl ⟨rfl, rfl⟩ (by kernel_rfl) rfl
    (fun f fn hf hfn => by
      obtain rfl : f = 3 := Option.some.inj ((show Tryd.prog.funcNamed "loop.example/g00075/laws.FnStock" = some 3 by kernel_rfl).symm.trans hf) |>.symm
      obtain rfl : fn = Tryd.f3 := (Option.some.inj (Tryd.func3.symm.trans hfn)).symm
      exact ⟨by kernel_rfl, fun j t ht => by
        rw [Tryd.params3] at ht
        have hm : t ∈ [22] := by simpa using Array.mem_of_getElem? ht
        have hall : ([22].all fun u => !Tryd.prog.wantsStandIn u) = true := by kernel_rfl
        exact (show Tryd.prog.wantsStandIn t = false by simpa using List.all_eq_true.1 hall t hm)⟩)
    (by kernel_rfl)
#print axioms stockD_holds
end Go.Proofs.YtnddhpdhbmbikaaDoor
