/- What is told of duties. -/
import Derived.Test.YtdmdoknkkfhheaaMC
namespace Go.Proofs.Ytdmdoknkkfhheaa
open Go.RowKit

def drivenV (ts : List TaskV) (ps : List Int) : Int := if dutyB ts ps = true then drv (pickL ts ps) else -1
def stretchV (ts : List TaskV) (ps : List Int) (rest : Int) : Int := if dutyB ts ps = true ∧ inB rest 1 1440 = true then strV rest (pickL ts ps) else -1
def payV (r : RuleV) (s : List TaskV) (rate : Int) : Int := rate * (spd s + max 0 (drv s - r.d / 2))
def wageV (ts : List TaskV) (ps : List Int) (r : RuleV) (rate : Int) : Int := if dcV ts ps r = 0 ∧ inB rate 0 1000 = true then payV r (pickL ts ps) rate else -1
theorem drivenV_no {ts : List TaskV} {ps : List Int} (h : dutyB ts ps = false) : drivenV ts ps = -1 := by simp [drivenV, h]
theorem drivenV_yes {ts : List TaskV} {ps : List Int} (h : dutyB ts ps = true) : drivenV ts ps = drv (pickL ts ps) := by simp [drivenV, h]
theorem stretchV_no1 {ts : List TaskV} {ps : List Int} {rest : Int} (h : dutyB ts ps = false) : stretchV ts ps rest = -1 := by simp [stretchV, h]
theorem stretchV_no2 {ts : List TaskV} {ps : List Int} {rest : Int} (h : inB rest 1 1440 = false) : stretchV ts ps rest = -1 := by simp [stretchV, h]
theorem stretchV_yes {ts : List TaskV} {ps : List Int} {rest : Int} (h : dutyB ts ps = true) (h2 : inB rest 1 1440 = true) : stretchV ts ps rest = strV rest (pickL ts ps) := by simp [stretchV, h, h2]
theorem dcV_no1 {ts : List TaskV} {ps : List Int} {r : RuleV} (h : dutyB ts ps = false) : dcV ts ps r = 1 := by simp [dcV, h]
theorem dcV_no2 {ts : List TaskV} {ps : List Int} {r : RuleV} (h : ruleB r = false) : dcV ts ps r = 1 := by simp [dcV, h]
theorem dcV_yes {ts : List TaskV} {ps : List Int} {r : RuleV} (h : dutyB ts ps = true) (h2 : ruleB r = true) : dcV ts ps r = codeV r (pickL ts ps) := by simp [dcV, h, h2]
theorem dcV_zero {ts : List TaskV} {ps : List Int} {r : RuleV} (h : dcV ts ps r = 0) : dutyB ts ps = true ∧ ruleB r = true ∧ codeV r (pickL ts ps) = 0 := by
  unfold dcV at h
  by_cases g : dutyB ts ps = true ∧ ruleB r = true
  · rw [if_pos g] at h; exact ⟨g.1, g.2, h⟩
  · rw [if_neg g] at h; omega
theorem wageV_no1 {ts : List TaskV} {ps : List Int} {r : RuleV} {rate : Int} (h : dcV ts ps r ≠ 0) : wageV ts ps r rate = -1 := by simp [wageV, h]
theorem wageV_no2 {ts : List TaskV} {ps : List Int} {r : RuleV} {rate : Int} (h : inB rate 0 1000 = false) : wageV ts ps r rate = -1 := by simp [wageV, h]
theorem wageV_yes {ts : List TaskV} {ps : List Int} {r : RuleV} {rate : Int} (h : dcV ts ps r = 0) (h2 : inB rate 0 1000 = true) : wageV ts ps r rate = payV r (pickL ts ps) rate := by simp [wageV, h, h2]
theorem dutyB_pl {ts : List TaskV} {ps : List Int} (h : dutyB ts ps = true) : plB ts ps 12 = true ∧ 0 < ps.length := by
  simpa [dutyB] using h
theorem duty_pick {ts : List TaskV} {ps : List Int} (h : dutyB ts ps = true) : (pickL ts ps).all taskB = true ∧ 0 < (pickL ts ps).length ∧ (pickL ts ps).length ≤ 12 := by
  obtain ⟨h1, h2⟩ := dutyB_pl h
  have h3 := (plB_iff.1 h1).2.1
  rw [pickL_len]
  exact ⟨pick_ok h1, h2, h3⟩
theorem spd_bound {s : List TaskV} (hs : s.all taskB = true) (h0 : 0 < s.length) : -100000 ≤ spd s ∧ spd s ≤ 100000 := by
  have k1 := taskB_iff.1 (tkA_ok hs (i := s.length - 1) (by omega))
  have k2 := taskB_iff.1 (tkA_ok hs h0)
  unfold spd; omega
theorem drv_bound {s : List TaskV} (hs : s.all taskB = true) : 0 ≤ drv s ∧ drv s ≤ 100000 * s.length := pre_bound hs (Nat.le_refl _)
end Go.Proofs.Ytdmdoknkkfhheaa
