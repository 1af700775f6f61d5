/- The chapter's words, as plain functions: plants, routes that clash, lockings and what is done with them. -/
import Derived.Test.YtpgjllefhlanpaaN
import Derived.Test.YtpgjllefhlanpaaQ
namespace Go.Proofs.Ytpgjllefhlanpaa
structure RouteV where
  needs : List NeedV
  blocks : List Int
def RouteV.zero : RouteV := ⟨[], []⟩
structure PlantV where
  under : List Int
  blocks : Int
  routes : List RouteV
structure LockV where
  pos : List Int
  set : List Bool
  taken : List Bool
def PlantV.route (p : PlantV) (r : Nat) : RouteV := p.routes.getD r RouteV.zero

/-- Needs that ascend by their point, from next on. -/
def needsGo (n : Int) : Int → List NeedV → Bool
  | _, [] => true
  | next, e :: es => inB e.point next (n - 1) && inB e.pos 0 1 && needsGo n (e.point + 1) es
/-- Blocks that are there, none of them seen. -/
def pathGo (B : Int) : List Int → List Int → Bool
  | _, [] => true
  | seen, b :: bs => inB b 0 (B - 1) && !decide (b ∈ seen) && pathGo B (seen ++ [b]) bs
def pathOk (B : Int) (bs : List Int) : Bool := pathGo B [] bs && decide (0 < bs.length)
def routeOk (n B : Int) (r : RouteV) : Bool := needsGo n 0 r.needs && pathOk B r.blocks
def plantOk (p : PlantV) : Bool :=
  inB p.blocks 1 24 && decide (p.under.length ≤ 16) && decide (p.routes.length ≤ 12) && p.under.all (fun x => inB x 0 (p.blocks - 1)) && p.routes.all (routeOk p.under.length p.blocks)

theorem needsGo_drop {n next : Int} {es : List NeedV} {k : Nat} (hk : k < es.length) :
    needsGo n next (es.drop k) = (inB es[k].point next (n - 1) && inB es[k].pos 0 1 && needsGo n (es[k].point + 1) (es.drop (k + 1))) := by
  rw [List.drop_eq_getElem_cons hk]; rfl
theorem pathGo_drop {B : Int} {seen bs : List Int} {k : Nat} (hk : k < bs.length) :
    pathGo B seen (bs.drop k) = (inB bs[k] 0 (B - 1) && !decide (bs[k] ∈ seen) && pathGo B (seen ++ [bs[k]]) (bs.drop (k + 1))) := by
  rw [List.drop_eq_getElem_cons hk]; rfl
theorem take_snoc {α : Type} {bs : List α} {k : Nat} (hk : k < bs.length) : bs.take k ++ [bs[k]] = bs.take (k + 1) := (List.take_succ_eq_append_getElem hk).symm

theorem needsGo_len {n : Int} : ∀ {next : Int} {es : List NeedV}, needsGo n next es = true → 0 ≤ next → next ≤ n → (es.length : Int) ≤ n - next
  | next, [], _, _, h => by simp; omega
  | next, e :: es, h, h0, h1 => by
    simp only [needsGo, Bool.and_eq_true] at h
    obtain ⟨⟨ha, hb⟩, hc⟩ := h
    have := inB_true ha
    have := needsGo_len hc (by omega) (by omega)
    simp only [List.length_cons]; omega
theorem needsGo_all {n : Int} : ∀ {next : Int} {es : List NeedV}, needsGo n next es = true → 0 ≤ next → ∀ e ∈ es, 0 ≤ e.point ∧ e.point < n ∧ 0 ≤ e.pos ∧ e.pos ≤ 1
  | next, [], _, _, e, he => by simp at he
  | next, x :: es, h, h0, e, he => by
    simp only [needsGo, Bool.and_eq_true] at h
    obtain ⟨⟨ha, hb⟩, hc⟩ := h
    have a := inB_true ha
    have b := inB_true hb
    rcases List.mem_cons.1 he with rfl | he
    · exact ⟨by omega, by omega, b.1, b.2⟩
    · exact needsGo_all hc (by omega) e he
theorem pathGo_nodup {B : Int} : ∀ {seen bs : List Int}, pathGo B seen bs = true → seen.Nodup → (seen ++ bs).Nodup
  | seen, [], _, h => by simpa using h
  | seen, b :: bs, h, hs => by
    simp only [pathGo, Bool.and_eq_true, Bool.not_eq_true', decide_eq_false_iff_not] at h
    obtain ⟨⟨_, hb⟩, hc⟩ := h
    have := pathGo_nodup hc (by
      rw [List.nodup_append]
      exact ⟨hs, by simp, fun x hx y hy => by simp at hy; subst hy; rintro rfl; exact hb hx⟩)
    simpa using this
theorem pathGo_all {B : Int} : ∀ {seen bs : List Int}, pathGo B seen bs = true → ∀ b ∈ bs, 0 ≤ b ∧ b < B
  | seen, [], _, b, hb => by simp at hb
  | seen, x :: bs, h, b, hb => by
    simp only [pathGo, Bool.and_eq_true] at h
    obtain ⟨⟨ha, _⟩, hc⟩ := h
    have a := inB_true ha
    rcases List.mem_cons.1 hb with rfl | hb
    · exact ⟨by omega, by omega⟩
    · exact pathGo_all hc b hb
theorem few : ∀ (N : Nat) (l : List Int), l.Nodup → (∀ x ∈ l, 0 ≤ x ∧ x < (N : Int)) → l.length ≤ N
  | 0, l, _, h => by
    cases l with
    | nil => simp
    | cons x xs => have := h x (by simp); omega
  | N + 1, l, hn, h => by
    have := few N (l.erase (N : Int)) (hn.erase _) (fun x hx => by
      have q := (List.Nodup.mem_erase_iff hn).1 hx
      have := h x q.2
      have := q.1
      omega)
    rw [List.length_erase] at this
    split at this <;> omega
theorem path_len {B : Int} {bs : List Int} (h : pathOk B bs = true) (hB : B ≤ 24) : bs.length ≤ 24 := by
  simp only [pathOk, Bool.and_eq_true] at h
  exact few 24 bs (by simpa using pathGo_nodup h.1 List.nodup_nil) (fun x hx => by have := pathGo_all h.1 x hx; omega)

/-- What is known of a right plant. -/
structure Right (p : PlantV) : Prop where
  b1 : 1 ≤ p.blocks
  b24 : p.blocks ≤ 24
  u16 : p.under.length ≤ 16
  r12 : p.routes.length ≤ 12
  und : ∀ x ∈ p.under, 0 ≤ x ∧ x < p.blocks
  rts : ∀ r ∈ p.routes, routeOk p.under.length p.blocks r = true
theorem right_of {p : PlantV} (h : plantOk p = true) : Right p := by
  simp only [plantOk, Bool.and_eq_true, decide_eq_true_eq, List.all_eq_true] at h
  obtain ⟨⟨⟨⟨h1, h2⟩, h3⟩, h4⟩, h5⟩ := h
  have := inB_true h1
  exact ⟨this.1, this.2, h2, h3, fun x hx => by have := inB_true (h4 x hx); omega, h5⟩
theorem Right.route {p : PlantV} (h : Right p) {r : Nat} (hr : r < p.routes.length) : routeOk p.under.length p.blocks (p.route r) = true := by
  have e : p.route r = p.routes[r] := by simp [PlantV.route, List.getD, hr]
  rw [e]; exact h.rts _ (List.getElem_mem hr)
theorem Right.need {p : PlantV} (h : Right p) {r : Nat} (hr : r < p.routes.length) {e : NeedV} (he : e ∈ (p.route r).needs) : 0 ≤ e.point ∧ e.point < p.under.length ∧ 0 ≤ e.pos ∧ e.pos ≤ 1 := by
  have := h.route hr
  simp only [routeOk, Bool.and_eq_true] at this
  exact needsGo_all this.1 (by omega) e he
theorem Right.block {p : PlantV} (h : Right p) {r : Nat} (hr : r < p.routes.length) {b : Int} (hb : b ∈ (p.route r).blocks) : 0 ≤ b ∧ b < p.blocks := by
  have := h.route hr
  simp only [routeOk, pathOk, Bool.and_eq_true] at this
  exact pathGo_all this.2.1 b hb

def share (a b : RouteV) : Bool := a.blocks.any fun x => decide (x ∈ b.blocks)
def apart (a b : RouteV) : Bool := a.needs.any fun n => b.needs.any fun m => decide (n.point = m.point) && !decide (n.pos = m.pos)
def clash (a b : RouteV) : Bool := share a b || apart a b
def apartI (a b : RouteV) : Bool := a.needs.any fun n => decide ((⟨n.point, 1 - n.pos⟩ : NeedV) ∈ b.needs)
/-- Positions that are 0 or 1. -/
def Bits (r : RouteV) : Prop := ∀ e ∈ r.needs, 0 ≤ e.pos ∧ e.pos ≤ 1
theorem Right.bits {p : PlantV} (h : Right p) {r : Nat} (hr : r < p.routes.length) : Bits (p.route r) := fun _ he => (h.need hr he).2.2
theorem bool_iff {a b : Bool} (h : a = true ↔ b = true) : a = b := by cases a <;> cases b <;> simp_all
theorem apartI_eq {a b : RouteV} (ha : Bits a) (hb : Bits b) : apartI a b = apart a b := by
  apply bool_iff
  simp only [apartI, apart, List.any_eq_true, decide_eq_true_eq, Bool.and_eq_true, Bool.not_eq_true', decide_eq_false_iff_not]
  constructor
  · rintro ⟨n, hn, hm⟩
    have := ha n hn
    exact ⟨n, hn, _, hm, rfl, by dsimp only; omega⟩
  · rintro ⟨n, hn, ⟨mp, mq⟩, hm, h1, h2⟩
    have p1 := ha n hn
    have p2 := hb _ hm
    dsimp only at h1 h2 p2
    refine ⟨n, hn, ?_⟩
    have : (1 - n.pos) = mq := by omega
    rw [h1, this]; exact hm
theorem clash_comm (a b : RouteV) : clash a b = clash b a := by
  apply bool_iff
  simp only [clash, share, apart, Bool.or_eq_true, List.any_eq_true, decide_eq_true_eq, Bool.and_eq_true, Bool.not_eq_true', decide_eq_false_iff_not]
  constructor
  · rintro (⟨x, h1, h2⟩ | ⟨n, h1, m, h2, h3, h4⟩)
    · exact .inl ⟨x, h2, h1⟩
    · exact .inr ⟨m, h2, n, h1, h3.symm, fun h => h4 h.symm⟩
  · rintro (⟨x, h1, h2⟩ | ⟨n, h1, m, h2, h3, h4⟩)
    · exact .inl ⟨x, h2, h1⟩
    · exact .inr ⟨m, h2, n, h1, h3.symm, fun h => h4 h.symm⟩
def clashing (p : PlantV) (a b : Int) : Bool :=
  plantOk p && inB a 0 (p.routes.length - 1) && inB b 0 (p.routes.length - 1) && !decide (a = b) && clash (p.route a.toNat) (p.route b.toNat)

def barred (p : PlantV) (l : LockV) (r : Nat) : Bool := (List.range l.set.length).any fun o => l.set.getD o false && !decide (o = r) && clash (p.route o) (p.route r)
def laid (p : PlantV) (l : LockV) (r : Nat) : Bool := (p.route r).needs.all fun n => decide (l.pos.getD n.point.toNat 0 = n.pos)
def held (p : PlantV) (l : LockV) (r : Nat) : Bool := (p.route r).blocks.any fun b => l.taken.getD b.toNat false
def stuck (p : PlantV) (l : LockV) (r : Nat) : Bool := (p.route r).needs.any fun n => !decide (l.pos.getD n.point.toNat 0 = n.pos) && l.taken.getD (p.under.getD n.point.toNat 0).toNat false
def reached (p : PlantV) (l : LockV) (b : Int) : Bool := (List.range l.set.length).any fun r => l.set.getD r false && decide (b ∈ (p.route r).blocks)
def fits (p : PlantV) (l : LockV) : Bool := decide (l.pos.length = p.under.length) && decide (l.set.length = p.routes.length) && decide ((l.taken.length : Int) = p.blocks)
def lockOk (p : PlantV) (l : LockV) : Bool :=
  plantOk p && fits p l && l.pos.all (fun x => inB x 0 1) && (List.range l.set.length).all fun r => !l.set.getD r false || (!barred p l r && laid p l r)
/-- The model's way to ask the same. -/
def before (p : PlantV) (l : LockV) (a : Nat) : Bool := (List.range a).any fun b => l.set.getD b false && clash (p.route a) (p.route b)
def setsS (p : PlantV) (l : LockV) : Bool := (List.range p.routes.length).all fun a => !l.set.getD a false || (!before p l a && laid p l a)
theorem sets_eq {p : PlantV} {l : LockV} (h : l.set.length = p.routes.length) :
    setsS p l = (List.range l.set.length).all fun r => !l.set.getD r false || (!barred p l r && laid p l r) := by
  have hs : ∀ r, l.set.getD r false = true → r < l.set.length := by
    intro r hr
    by_cases h : r < l.set.length
    · exact h
    · simp [List.getD, List.getElem?_eq_none (Nat.le_of_not_lt h)] at hr
  apply bool_iff
  unfold setsS
  rw [← h]
  simp only [List.all_eq_true, List.mem_range, Bool.or_eq_true, Bool.not_eq_true', Bool.and_eq_true]
  constructor
  · intro H r hr
    cases h1 : l.set.getD r false
    · exact .inl rfl
    · right
      obtain h2 | ⟨h2, h3⟩ := H r hr
      · rw [h1] at h2; cases h2
      · refine ⟨?_, h3⟩
        rw [← Bool.not_eq_true]
        simp only [barred, List.any_eq_true, List.mem_range, Bool.and_eq_true, Bool.not_eq_true', decide_eq_false_iff_not]
        rintro ⟨o, ho, ⟨q1, q2⟩, q3⟩
        rcases Nat.lt_or_gt_of_ne q2 with q | q
        · rw [← Bool.not_eq_true] at h2
          refine h2 ?_
          simp only [before, List.any_eq_true, List.mem_range, Bool.and_eq_true]
          exact ⟨o, q, q1, by rw [clash_comm]; exact q3⟩
        · obtain h4 | ⟨h4, h5⟩ := H o ho
          · rw [q1] at h4; cases h4
          · rw [← Bool.not_eq_true] at h4
            refine h4 ?_
            simp only [before, List.any_eq_true, List.mem_range, Bool.and_eq_true]
            exact ⟨r, q, h1, q3⟩
  · intro H a ha
    cases h1 : l.set.getD a false
    · exact .inl rfl
    · right
      obtain h2 | ⟨h2, h3⟩ := H a ha
      · rw [h1] at h2; cases h2
      · refine ⟨?_, h3⟩
        rw [← Bool.not_eq_true]
        simp only [before, List.any_eq_true, List.mem_range, Bool.and_eq_true]
        rintro ⟨b, hb, q1, q2⟩
        rw [← Bool.not_eq_true] at h2
        refine h2 ?_
        simp only [barred, List.any_eq_true, List.mem_range, Bool.and_eq_true, Bool.not_eq_true', decide_eq_false_iff_not]
        exact ⟨b, by omega, ⟨q1, by omega⟩, by rw [clash_comm]; exact q2⟩
/-- What is known of a locking that is right. -/
structure Fits (p : PlantV) (l : LockV) : Prop where
  ok : Right p
  pos : l.pos.length = p.under.length
  set : l.set.length = p.routes.length
  taken : (l.taken.length : Int) = p.blocks
theorem fits_of {p : PlantV} {l : LockV} (h : plantOk p = true) (g : fits p l = true) : Fits p l := by
  simp only [fits, Bool.and_eq_true, decide_eq_true_eq] at g
  exact ⟨right_of h, g.1.1, g.1.2, g.2⟩
theorem lock_fits {p : PlantV} {l : LockV} (h : lockOk p l = true) : Fits p l := by
  simp only [lockOk, Bool.and_eq_true] at h
  exact fits_of h.1.1.1 h.1.1.2
/-- Another set route that clashes: the model asks of all, as the route itself is not set. -/
def barredS (p : PlantV) (l : LockV) (r : Nat) : Bool := (List.range p.routes.length).any fun b => l.set.getD b false && clash (p.route r) (p.route b)
theorem barred_eq {p : PlantV} {l : LockV} {r : Nat} (h : l.set.length = p.routes.length) (hr : l.set.getD r false = false) : barredS p l r = barred p l r := by
  apply bool_iff
  unfold barredS barred
  rw [h]
  simp only [List.any_eq_true, List.mem_range, Bool.and_eq_true, Bool.not_eq_true', decide_eq_false_iff_not]
  constructor
  · rintro ⟨b, h1, h2, h3⟩
    exact ⟨b, h1, ⟨h2, by rintro rfl; rw [hr] at h2; cases h2⟩, by rw [clash_comm]; exact h3⟩
  · rintro ⟨b, h1, ⟨h2, _⟩, h3⟩
    exact ⟨b, h1, h2, by rw [clash_comm]; exact h3⟩

/-- What each op answers, and the locking behind it. -/
def isRoute (p : PlantV) (r : Int) : Bool := inB r 0 (p.routes.length - 1)
def isBlock (p : PlantV) (b : Int) : Bool := inB b 0 (p.blocks - 1)
def reqC (p : PlantV) (l : LockV) (r : Int) : Int :=
  bif !(lockOk p l && isRoute p r) then 1 else bif l.set.getD r.toNat false then 2 else bif barred p l r.toNat then 3 else bif held p l r.toNat then 4 else bif stuck p l r.toNat then 5 else 0
def occC (p : PlantV) (l : LockV) (b : Int) : Int :=
  bif !(lockOk p l && isBlock p b) then 1 else bif l.taken.getD b.toNat false then 4 else bif reached p l b then 0 else 6
def vacC (p : PlantV) (l : LockV) (b : Int) : Int :=
  bif !(lockOk p l && isBlock p b) then 1 else bif l.taken.getD b.toNat false then 0 else 6
def wdC (p : PlantV) (l : LockV) (r : Int) : Int :=
  bif !(lockOk p l && isRoute p r) then 1 else bif l.set.getD r.toNat false then (bif held p l r.toNat then 4 else 0) else 6
def throwAll (ps : List Int) (es : List NeedV) : List Int := es.foldl (fun q n => q.set n.point.toNat n.pos) ps
theorem throwAll_len (es : List NeedV) : ∀ ps, (throwAll ps es).length = ps.length := by
  induction es with
  | nil => intro ps; rfl
  | cons e es ih => intro ps; simp only [throwAll, List.foldl_cons]; exact (ih _).trans (by simp)
theorem throwAll_step (ps : List Int) {es : List NeedV} {k : Nat} (hk : k < es.length) : throwAll ps (es.take (k + 1)) = (throwAll ps (es.take k)).set es[k].point.toNat es[k].pos := by
  unfold throwAll; rw [List.take_succ_eq_append_getElem hk, List.foldl_append]; rfl
def setRoute (p : PlantV) (l : LockV) (r : Int) : LockV := ⟨throwAll l.pos (p.route r.toNat).needs, l.set.set r.toNat true, l.taken⟩
def withTaken (l : LockV) (b : Int) (t : Bool) : LockV := ⟨l.pos, l.set, l.taken.set b.toNat t⟩
def unsetRoute (l : LockV) (r : Int) : LockV := ⟨l.pos, l.set.set r.toNat false, l.taken⟩
def reqL (p : PlantV) (l : LockV) (r : Int) : LockV := bif decide (reqC p l r = 0) then setRoute p l r else l
def occL (p : PlantV) (l : LockV) (b : Int) : LockV := bif decide (occC p l b = 0) then withTaken l b true else l
def vacL (p : PlantV) (l : LockV) (b : Int) : LockV := bif decide (vacC p l b = 0) then withTaken l b false else l
def wdL (p : PlantV) (l : LockV) (r : Int) : LockV := bif decide (wdC p l r = 0) then unsetRoute l r else l
/-- An op by its kind. -/
inductive OpK | req | occ | vac | wd | none
def opC (k : OpK) (p : PlantV) (l : LockV) (x : Int) : Int := match k with
  | .req => reqC p l x | .occ => occC p l x | .vac => vacC p l x | .wd => wdC p l x | .none => 1
def opL (k : OpK) (p : PlantV) (l : LockV) (x : Int) : LockV := match k with
  | .req => reqL p l x | .occ => occL p l x | .vac => vacL p l x | .wd => wdL p l x | .none => l
theorem opL_len (k : OpK) (p : PlantV) (l : LockV) (x : Int) : (opL k p l x).pos.length = l.pos.length ∧ (opL k p l x).set.length = l.set.length ∧ (opL k p l x).taken.length = l.taken.length := by
  cases k with
  | req => unfold opL reqL; dsimp only; cases decide (reqC p l x = 0) <;> simp [setRoute, throwAll_len]
  | occ => unfold opL occL; dsimp only; cases decide (occC p l x = 0) <;> simp [withTaken]
  | vac => unfold opL vacL; dsimp only; cases decide (vacC p l x = 0) <;> simp [withTaken]
  | wd => unfold opL wdL; dsimp only; cases decide (wdC p l x = 0) <;> simp [unsetRoute]
  | none => exact ⟨rfl, rfl, rfl⟩
def kindOf (k : Int) : OpK := if k = 0 then .req else if k = 1 then .occ else if k = 2 then .vac else if k = 3 then .wd else .none
def stepC (p : PlantV) (l : LockV) (o : OpV) : Int := opC (kindOf o.kind) p l o.what
def stepL (p : PlantV) (l : LockV) (o : OpV) : LockV := opL (kindOf o.kind) p l o.what
def runL (p : PlantV) (l : LockV) (os : List OpV) : LockV := os.foldl (stepL p) l
def codesL (p : PlantV) : LockV → List OpV → List Int
  | _, [] => []
  | l, o :: os => stepC p l o :: codesL p (stepL p l o) os
theorem codesL_len (p : PlantV) : ∀ (os : List OpV) (l : LockV), (codesL p l os).length = os.length
  | [], _ => rfl
  | _ :: os, _ => by simp [codesL, codesL_len p os]
theorem codesL_snoc (p : PlantV) (o : OpV) : ∀ (os : List OpV) (l : LockV), codesL p l (os ++ [o]) = codesL p l os ++ [stepC p (runL p l os) o]
  | [], _ => rfl
  | x :: os, l => by simp [codesL, codesL_snoc p o os, runL]
theorem runL_snoc (p : PlantV) (o : OpV) (os : List OpV) (l : LockV) : runL p l (os ++ [o]) = stepL p (runL p l os) o := by simp [runL]
theorem runL_len (p : PlantV) : ∀ (os : List OpV) (l : LockV), (runL p l os).pos.length = l.pos.length ∧ (runL p l os).set.length = l.set.length ∧ (runL p l os).taken.length = l.taken.length
  | [], _ => ⟨rfl, rfl, rfl⟩
  | o :: os, l => by
    have h := runL_len p os (stepL p l o)
    have g := opL_len (kindOf o.kind) p l o.what
    exact ⟨h.1.trans g.1, h.2.1.trans g.2.1, h.2.2.trans g.2.2⟩
def bareOf (p : PlantV) : LockV := ⟨List.replicate p.under.length 0, List.replicate p.routes.length false, List.replicate p.blocks.toNat false⟩
def bareL (p : PlantV) : LockV := bif plantOk p then bareOf p else ⟨[], [], []⟩
def playOk (p : PlantV) (os : List OpV) : Bool := plantOk p && decide (os.length ≤ 300)
def playL (p : PlantV) (os : List OpV) : LockV := bif playOk p os then runL p (bareOf p) os else ⟨[], [], []⟩
def playC (p : PlantV) (os : List OpV) : List Int := bif playOk p os then codesL p (bareOf p) os else []
end Go.Proofs.Ytpgjllefhlanpaa
