/-
  DERIVED. GIVEN WITH THE SEED: THE CARDS: each row of YtoalpmenodiijaaDoorRows.lean that lists a variable, with what it lists TIED to the program's text (the seventh form; the later family's looks); each row that meets fmt, with fmt's text TOLD by the authors' own Lean function (tested against real Go, not proved from fmt's source: count such statements apart). THE CARD IS WHAT COUNTS. Prove the row's statement (the work); the ties are given (YtoalpmenodiijaaDoorTie.lean); close each card by the builder's one call (the guide's Derived/Test/ToyasCard.lean, 'card_holds'). Laid BY PROGRAM, IN A SANDBOX (cutbox-door.mjs). By AI agents, Wed Nov 11 2026. No macro, syntax, notation, axiom, sorry.
-/
import Derived.Test.YtoalpmenodiijaaDoorRows
import GoSem.ClaimSeven
namespace Go.Proofs.YtoalpmenodiijaaDoor
namespace Rows

/-- THE TIED CARD OF 'laws.FnExactHouseRun'. -/
def fnExactHouseRunCard : Claim7 := { stood := { row := fnExactHouseRunRow, standIns := [], harness := (true, "d9bcb8c42b2a1e760f989539739c69fd776b4a2155b1519000c46c79f631f0cb"), looks := false }, kinds := [], alts := [], laidByText := true, laidKinds := [.data, .data, .data], laidTests := true, laidLooks := .later }
def FnExactHouseRunCardSaid : Prop := Claim7.holds Tryd.pinned (.plain (OpenSpec.ofChange fnExactHouseRunSpec)) fnExactHouseRunCard

/-- THE SECOND FORM's CARD OF 'laws.FnExactHouseRun'. -/
def fnExactHouseRunUptoCard : Claim7 := { stood := { row := fnExactHouseRunUptoRow, standIns := [], harness := (true, "d9bcb8c42b2a1e760f989539739c69fd776b4a2155b1519000c46c79f631f0cb"), looks := false }, kinds := [], alts := [], laidByText := true, laidKinds := [.data, .data, .data], laidTests := true, laidLooks := .later }
def FnExactHouseRunUptoCardSaid : Prop := Claim7.holds Tryd.pinned (.plain (OpenSpec.upto fnExactHouseRunSpec)) fnExactHouseRunUptoCard
end Rows
end Go.Proofs.YtoalpmenodiijaaDoor
