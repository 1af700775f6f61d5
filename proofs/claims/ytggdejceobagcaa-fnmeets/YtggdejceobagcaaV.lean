/- What stands when the program's search goes on with a train moved. -/
import Derived.Test.YtggdejceobagcaaT
namespace Go.Proofs.Ytggdejceobagcaa
open Go.RowKit Go.Maps

theorem own_blk {w : World} {base n : Nat} {v : Value} {xs : List Value} {k : Nat} (h : w.ownsRow base 3 1 v n xs) (hk : v.ownBlock = some k) : base ≤ k ∧ w.heap[k]? = some (.cells (match w.heap[k]? with | some (.cells cs _ _) => cs | _ => #[]) 3 (0, 0)) := by
  rcases h.2 with ⟨rfl, _⟩ | ⟨g, cap, cur, rfl, hb, hg, _⟩
  · simp [Value.ownBlock] at hk
  · simp only [Value.ownBlock, Option.some.injEq] at hk
    subst hk
    exact ⟨hb, by rw [hg]⟩
theorem map_own {w : World} {bm n B m : Nat} {D : DataW Unit} {v : Value} {xs : List Value} (hm : OM w bm n D) (ho : w.ownsRow B 3 1 v m xs) : some bm ≠ v.ownBlock :=
  fun e => map_ne' hm (own_blk ho e.symm).2 rfl
theorem Up.set_far {w : World} {b g : Nat} {l : List SingleV} (h : Up w b l) (hne : b ≠ g) (o : Nat) (u : Value) : Up (w.setCell ⟨g, o, none⟩ u) b l :=
  h.far (gset (b := g) (World.grownBy.refl _ _) o u) (fun e => hne (Option.some.inj e))
structure Mid (w6 w11 : World) (bo bt bl bv bf bm n B b11 m k : Nat) (nx : Int) (tv lv v v11 : Value) (D : DataW Unit) (ys : List Value) (l : List SingleV) : Prop where
  old : w11.heap[bv]? = some (.cells #[v] 24 (0, 0))
  e : Env (w11.setCell ⟨bv, 0, none⟩ v11) bo bt bl bv bf bm tv lv v11
  om : OM (w11.setCell ⟨bv, 0, none⟩ v11) bm n D
  o : (w11.setCell ⟨bv, 0, none⟩ v11).ownsRow B 3 1 v11 m ys
  t : Stp w6 (w11.setCell ⟨bv, 0, none⟩ v11) bm bv v v11
  u : Up (w11.setCell ⟨bv, 0, none⟩ v11) b11 (l.set k ⟨nx, (At l k).d⟩)
theorem mid_of {w6 w8 w11 : World} {bo bt bl bv bf bm n B b11 m m' k : Nat} {nx : Int} {tv lv v v11 x : Value} {D : DataW Unit} {xs ys : List Value} {l : List SingleV}
    (E6 : Env w6 bo bt bl bv bf bm tv lv v) (M6 : OM w6 bm n D) (O6 : w6.ownsRow B 3 1 v m xs) (h68 : Below w6.heap.size w6 w8) (hb : b11 = w6.heap.size) (UN : Up w8 b11 l) (hl4 : l.length = 4) (hk : k < 4)
    (O11 : w11.ownsRow B 3 1 v11 m' ys) (G11 : ((w8.setCell ⟨b11, k * 2, none⟩ (.int .i64 nx)).alloc (.cells #[x] 3)).grownBy w11 v.ownBlock)
    (L11 : v11.ownBlock = v.ownBlock ∨ v11.ownBlock = some ((w8.setCell ⟨b11, k * 2, none⟩ (.int .i64 nx)).alloc (.cells #[x] 3)).heap.size) :
    Mid w6 w11 bo bt bl bv bf bm n B b11 m' k nx tv lv v v11 D ys l := by
  have hbv : bv < w6.heap.size := E6.vlt
  have hbm : bm < w6.heap.size := M6.lt
  have T9 : Stp w6 (w8.setCell ⟨b11, k * 2, none⟩ (.int .i64 nx)) bm bv v v := ((Stp.refl w6 bm bv v).below h68).setNew (by omega) _ _
  have T10 := T9.below (balloc _ (.cells #[x] 3))
  have T11 := T10.app G11 L11
  have hv8 := (h68.block bv hbv).trans E6.mv
  have hv9 : (w8.setCell ⟨b11, k * 2, none⟩ (.int .i64 nx)).heap[bv]? = some (.cells #[v] 24 (0, 0)) := (Below.heap_setCell _ _ _ _ (by show bv ≠ b11; omega)).trans hv8
  have hv10 := old_at (.cells #[x] 3) hv9
  have hvo := own_ty O6 E6.mv (by decide)
  have hv11 := (G11.block bv (lt_of_block hv10) hvo).trans hv10
  have T12 := T11.set 0 v11
  have hv12 : (w11.setCell ⟨bv, 0, none⟩ v11).heap[bv]? = some (.cells #[v11] 24 (0, 0)) := one_setCell hv11
  have M8 := OM.below M6 h68
  have M9 := World.ownsMap.setCell M8 (a := ⟨b11, k * 2, none⟩) (by show bm ≠ b11; omega) (.int .i64 nx)
  have M10 := World.ownsMap.alloc M9 (.cells #[x] 3)
  have M11 := World.ownsMap.kept M10 G11 (map_own M6 O6)
  have hmv : bm ≠ bv := fun e => map_ne' M6 E6.mv e.symm
  have U9 := UN.set hl4 hk nx
  have U10 := U9.below (balloc _ (.cells #[x] 3))
  have U11 := U10.far G11 (fun e => by have := own_blk_lt O6 b11 e.symm; omega)
  exact ⟨hv11, E6.step M6 O6 T12 hv12, World.ownsMap.setCell M11 (a := ⟨bv, 0, none⟩) hmv v11, own_set O11 (fun j hj e => own_ty O11 hv11 (by decide) (by rw [hj, e])), T12, U11.set_far (by omega) 0 v11⟩
end Go.Proofs.Ytggdejceobagcaa
