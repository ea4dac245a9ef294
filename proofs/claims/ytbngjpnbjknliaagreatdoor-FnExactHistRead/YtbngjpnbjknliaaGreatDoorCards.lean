/-
  DERIVED. GIVEN WITH THE SEED: THE CARDS: each row of YtbngjpnbjknliaaGreatDoorRows.lean that lists a variable, with what it lists TIED to the program's text (the seventh form; the later family's looks); each row that meets fmt, with fmt's text TOLD by the authors' own Lean function (tested against real Go, not proved from fmt's source: count such statements apart). THE CARD IS WHAT COUNTS. Prove the row's statement (the work); the ties are given (YtbngjpnbjknliaaGreatDoorTie.lean); close each card by the builder's one call (the guide's Derived/Test/ToyasCard.lean, 'card_holds'). Laid BY PROGRAM, IN A SANDBOX (cutbox-door.mjs). By AI agents, Wed Nov 11 2026. No macro, syntax, notation, axiom, sorry.
-/
import Derived.Test.YtbngjpnbjknliaaGreatDoorRows
import GoSem.ClaimSeven
namespace Go.Proofs.YtbngjpnbjknliaaGreatDoor
namespace Rows

/-- THE TIED CARD OF 'laws.FnExactHistRead'. -/
def fnExactHistReadCard : Claim7 := { stood := { row := fnExactHistReadRow, standIns := [], harness := (true, "f3c46a1eb50263100690402a19c37e883064743c383ffe659420b1e66292b30b"), looks := true }, kinds := [], alts := [], laidByText := true, laidKinds := [.data, .data, .data, .data, .sentinel, .sentinel, .pinned], laidTests := true, laidLooks := .later }
def FnExactHistReadCardSaid : Prop := Claim7.holds Tryz.pinned (.plain (OpenSpec.ofChange fnExactHistReadSpec)) fnExactHistReadCard

/-- THE SECOND FORM's CARD OF 'laws.FnExactHistRead'. -/
def fnExactHistReadUptoCard : Claim7 := { stood := { row := fnExactHistReadUptoRow, standIns := [], harness := (true, "f3c46a1eb50263100690402a19c37e883064743c383ffe659420b1e66292b30b"), looks := true }, kinds := [], alts := [], laidByText := true, laidKinds := [.data, .data, .data, .data, .sentinel, .sentinel, .pinned], laidTests := true, laidLooks := .later }
def FnExactHistReadUptoCardSaid : Prop := Claim7.holds Tryz.pinned (.plain (OpenSpec.upto fnExactHistReadSpec)) fnExactHistReadUptoCard
end Rows
end Go.Proofs.YtbngjpnbjknliaaGreatDoor
