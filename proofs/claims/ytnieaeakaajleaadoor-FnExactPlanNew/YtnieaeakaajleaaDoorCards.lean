/-
  DERIVED. GIVEN WITH THE SEED: THE CARDS: each row of YtnieaeakaajleaaDoorRows.lean that lists a variable, with what it lists TIED to the program's text (the seventh form; the later family's looks); each row that meets fmt, with fmt's text TOLD by the authors' own Lean function (tested against real Go, not proved from fmt's source: count such statements apart). THE CARD IS WHAT COUNTS. Prove the row's statement (the work); the ties are given (YtnieaeakaajleaaDoorTie.lean); close each card by the builder's one call (the guide's Derived/Test/ToyasCard.lean, 'card_holds'). Laid BY PROGRAM, IN A SANDBOX (cutbox-door.mjs). By AI agents, Wed Nov 11 2026. No macro, syntax, notation, axiom, sorry.
-/
import Derived.Test.YtnieaeakaajleaaDoorRows
import GoSem.ClaimSeven
namespace Go.Proofs.YtnieaeakaajleaaDoor
namespace Rows

/-- THE TIED CARD OF 'laws.FnExactPlanNew'. -/
def fnExactPlanNewCard : Claim7 := { stood := { row := fnExactPlanNewRow, standIns := [], harness := (true, "bee158366512522b02bbeb166bf50e61a0f5c009ec4f7e458984ad79a0050e51"), looks := true }, kinds := [], alts := [], laidByText := true, laidKinds := [.handle], laidTests := true, laidLooks := .later }
def FnExactPlanNewCardSaid : Prop := Claim7.holds Tryd.pinned (.plain (OpenSpec.ofChange fnExactPlanNewSpec)) fnExactPlanNewCard

/-- THE TIED CARD OF 'laws.FnExactPlanOk'. -/
def fnExactPlanOkCard : Claim7 := { stood := { row := fnExactPlanOkRow, standIns := [], harness := (true, "bee158366512522b02bbeb166bf50e61a0f5c009ec4f7e458984ad79a0050e51"), looks := true }, kinds := [], alts := [], laidByText := true, laidKinds := [.handle], laidTests := true, laidLooks := .later }
def FnExactPlanOkCardSaid : Prop := Claim7.holds Tryd.pinned (.plain (OpenSpec.ofChange fnExactPlanOkSpec)) fnExactPlanOkCard

/-- THE SECOND FORM's CARD OF 'laws.FnExactPlanNew'. -/
def fnExactPlanNewUptoCard : Claim7 := { stood := { row := fnExactPlanNewUptoRow, standIns := [], harness := (true, "bee158366512522b02bbeb166bf50e61a0f5c009ec4f7e458984ad79a0050e51"), looks := true }, kinds := [], alts := [], laidByText := true, laidKinds := [.handle], laidTests := true, laidLooks := .later }
def FnExactPlanNewUptoCardSaid : Prop := Claim7.holds Tryd.pinned (.plain (OpenSpec.upto fnExactPlanNewSpec)) fnExactPlanNewUptoCard

/-- THE SECOND FORM's CARD OF 'laws.FnExactPlanOk'. -/
def fnExactPlanOkUptoCard : Claim7 := { stood := { row := fnExactPlanOkUptoRow, standIns := [], harness := (true, "bee158366512522b02bbeb166bf50e61a0f5c009ec4f7e458984ad79a0050e51"), looks := true }, kinds := [], alts := [], laidByText := true, laidKinds := [.handle], laidTests := true, laidLooks := .later }
def FnExactPlanOkUptoCardSaid : Prop := Claim7.holds Tryd.pinned (.plain (OpenSpec.upto fnExactPlanOkSpec)) fnExactPlanOkUptoCard
end Rows
end Go.Proofs.YtnieaeakaajleaaDoor
