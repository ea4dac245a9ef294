/- Which plans are ok. -/
import Derived.Test.YtnieaeakaajleaaDoorPV0
import Derived.Test.YtnieaeakaajleaaDoorPL1
namespace Go.Proofs.YtnieaeakaajleaaDoor
set_option linter.unusedVariables false
set_option linter.unusedSimpArgs false
open Go.RowKit Go
namespace Pl

/-- What was told of a time is ok. -/
def ToldAt (rs : List Rul) (last : Int) (t : Tld) : Prop := (1 ≤ t.wh ∧ t.wh ≤ 5) ∧ t.tk ≤ last ∧ due rs t.tk = true
def WaitsOk (goes waits : List Int) : Prop := 0 < waits.length → 0 < goes.length ∧ goes.getD (goes.length - 1) 0 < waits.getD 0 0
structure PlanOk (p : Pla) : Prop where
  rules : calOk p.rs = true
  pol : 1 ≤ p.pol ∧ p.pol ≤ 5
  win : 0 ≤ p.win ∧ p.win ≤ 1000
  last : -1 ≤ p.last ∧ p.last ≤ 100000
  told60 : p.told.length ≤ 60
  goesN : (p.goes.length : Int) ≤ mostG p.pol
  waitsN : (p.waits.length : Int) ≤ mostW p.pol
  goes : times p.rs p.last p.goes = true
  waits : times p.rs p.last p.waits = true
  behind : WaitsOk p.goes p.waits
  told : ∀ i (h : i < p.told.length), ToldAt p.rs p.last p.told[i]
noncomputable def planOk (p : Pla) : Bool := @decide (PlanOk p) (Classical.propDecidable _)
theorem planOk_yes {p : Pla} (h : PlanOk p) : planOk p = true := by unfold planOk; exact @decide_eq_true _ (Classical.propDecidable _) h
theorem planOk_no {p : Pla} (h : ¬ PlanOk p) : planOk p = false := by unfold planOk; exact @decide_eq_false _ (Classical.propDecidable _) h
theorem planOk_ok {p : Pla} (h : planOk p = true) : PlanOk p := by unfold planOk at h; exact @of_decide_eq_true _ (Classical.propDecidable _) h
theorem mostG_bd (p : Int) : 0 ≤ mostG p ∧ mostG p ≤ 8 := by unfold mostG; split <;> omega
theorem mostW_bd (p : Int) : 0 ≤ mostW p ∧ mostW p ≤ 8 := by unfold mostW; split <;> (try split) <;> omega
end Pl
end Go.Proofs.YtnieaeakaajleaaDoor
