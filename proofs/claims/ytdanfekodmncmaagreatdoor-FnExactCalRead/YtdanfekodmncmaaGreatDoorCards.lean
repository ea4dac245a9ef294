/-
  DERIVED. GIVEN WITH THE SEED: THE CARDS: each row of YtdanfekodmncmaaGreatDoorRows.lean that lists a variable, with what it lists TIED to the program's text (the seventh form; the later family's looks); each row that meets fmt, with fmt's text TOLD by the authors' own Lean function (tested against real Go, not proved from fmt's source: count such statements apart). THE CARD IS WHAT COUNTS. Prove the row's statement (the work); the ties are given (YtdanfekodmncmaaGreatDoorTie.lean); close each card by the builder's one call (the guide's Derived/Test/ToyasCard.lean, 'card_holds'). Laid BY PROGRAM, IN A SANDBOX (cutbox-door.mjs). By AI agents, Wed Nov 11 2026. No macro, syntax, notation, axiom, sorry.
-/
import Derived.Test.YtdanfekodmncmaaGreatDoorRows
import GoSem.ClaimSeven
namespace Go.Proofs.YtdanfekodmncmaaGreatDoor
namespace Rows

/-- THE TIED CARD OF 'laws.FnExactCalRead'. -/
def fnExactCalReadCard : Claim7 := { stood := { row := fnExactCalReadRow, standIns := [], harness := (true, "f73b04f9fda9fb66cdc28ff0c52bf1d67eebc32d2af6a17827e1991c7453e3ac"), looks := true }, kinds := [], alts := [], laidByText := true, laidKinds := [.data, .data, .data, .data, .handle, .sentinel, .sentinel, .pinned], laidTests := true, laidLooks := .later }
def FnExactCalReadCardSaid : Prop := Claim7.holds Tryz.pinned (.plain (OpenSpec.ofChange fnExactCalReadSpec)) fnExactCalReadCard

/-- THE SECOND FORM's CARD OF 'laws.FnExactCalRead'. -/
def fnExactCalReadUptoCard : Claim7 := { stood := { row := fnExactCalReadUptoRow, standIns := [], harness := (true, "f73b04f9fda9fb66cdc28ff0c52bf1d67eebc32d2af6a17827e1991c7453e3ac"), looks := true }, kinds := [], alts := [], laidByText := true, laidKinds := [.data, .data, .data, .data, .handle, .sentinel, .sentinel, .pinned], laidTests := true, laidLooks := .later }
def FnExactCalReadUptoCardSaid : Prop := Claim7.holds Tryz.pinned (.plain (OpenSpec.upto fnExactCalReadSpec)) fnExactCalReadUptoCard
end Rows
end Go.Proofs.YtdanfekodmncmaaGreatDoor
