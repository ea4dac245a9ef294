/-
  DERIVED. GIVEN WITH THE SEED: THE CARDS: each row of YtghocdiddolinaaGreatDoorRows.lean that lists a variable, with what it lists TIED to the program's text (the seventh form; the later family's looks); each row that meets fmt, with fmt's text TOLD by the authors' own Lean function (tested against real Go, not proved from fmt's source: count such statements apart). THE CARD IS WHAT COUNTS. Prove the row's statement (the work); the ties are given (YtghocdiddolinaaGreatDoorTie.lean); close each card by the builder's one call (the guide's Derived/Test/ToyasCard.lean, 'card_holds'). Laid BY PROGRAM, IN A SANDBOX (cutbox-door.mjs). By AI agents, Wed Nov 11 2026. No macro, syntax, notation, axiom, sorry.
-/
import Derived.Test.YtghocdiddolinaaGreatDoorRows
import GoSem.ClaimSeven
namespace Go.Proofs.YtghocdiddolinaaGreatDoor
namespace Rows

/-- THE TIED CARD OF 'laws.FnExactPlanTick'. -/
def fnExactPlanTickCard : Claim7 := { stood := { row := fnExactPlanTickRow, standIns := [], harness := (true, "8edc3bed8ff5912054e30f5991c2cedb5511163a833a7369268c320c57cfcf21"), looks := true }, kinds := [], alts := [], laidByText := true, laidKinds := [.handle], laidTests := true, laidLooks := .later }
def FnExactPlanTickCardSaid : Prop := Claim7.holds Tryz.pinned (.plain (OpenSpec.ofChange fnExactPlanTickSpec)) fnExactPlanTickCard

/-- THE TIED CARD OF 'laws.FnExactPlanEnds'. -/
def fnExactPlanEndsCard : Claim7 := { stood := { row := fnExactPlanEndsRow, standIns := [], harness := (true, "8edc3bed8ff5912054e30f5991c2cedb5511163a833a7369268c320c57cfcf21"), looks := true }, kinds := [], alts := [], laidByText := true, laidKinds := [.handle], laidTests := true, laidLooks := .later }
def FnExactPlanEndsCardSaid : Prop := Claim7.holds Tryz.pinned (.plain (OpenSpec.ofChange fnExactPlanEndsSpec)) fnExactPlanEndsCard

/-- THE SECOND FORM's CARD OF 'laws.FnExactPlanTick'. -/
def fnExactPlanTickUptoCard : Claim7 := { stood := { row := fnExactPlanTickUptoRow, standIns := [], harness := (true, "8edc3bed8ff5912054e30f5991c2cedb5511163a833a7369268c320c57cfcf21"), looks := true }, kinds := [], alts := [], laidByText := true, laidKinds := [.handle], laidTests := true, laidLooks := .later }
def FnExactPlanTickUptoCardSaid : Prop := Claim7.holds Tryz.pinned (.plain (OpenSpec.upto fnExactPlanTickSpec)) fnExactPlanTickUptoCard

/-- THE SECOND FORM's CARD OF 'laws.FnExactPlanEnds'. -/
def fnExactPlanEndsUptoCard : Claim7 := { stood := { row := fnExactPlanEndsUptoRow, standIns := [], harness := (true, "8edc3bed8ff5912054e30f5991c2cedb5511163a833a7369268c320c57cfcf21"), looks := true }, kinds := [], alts := [], laidByText := true, laidKinds := [.handle], laidTests := true, laidLooks := .later }
def FnExactPlanEndsUptoCardSaid : Prop := Claim7.holds Tryz.pinned (.plain (OpenSpec.upto fnExactPlanEndsSpec)) fnExactPlanEndsUptoCard
end Rows
end Go.Proofs.YtghocdiddolinaaGreatDoor
