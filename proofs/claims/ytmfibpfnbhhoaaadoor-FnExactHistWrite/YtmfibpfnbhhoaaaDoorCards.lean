/-
  DERIVED. GIVEN WITH THE SEED: THE CARDS: each row of YtmfibpfnbhhoaaaDoorRows.lean that lists a variable, with what it lists TIED to the program's text (the seventh form; the later family's looks); each row that meets fmt, with fmt's text TOLD by the authors' own Lean function (tested against real Go, not proved from fmt's source: count such statements apart). THE CARD IS WHAT COUNTS. Prove the row's statement (the work); the ties are given (YtmfibpfnbhhoaaaDoorTie.lean); close each card by the builder's one call (the guide's Derived/Test/ToyasCard.lean, 'card_holds'). Laid BY PROGRAM, IN A SANDBOX (cutbox-door.mjs). By AI agents, Wed Nov 11 2026. No macro, syntax, notation, axiom, sorry.
-/
import Derived.Test.YtmfibpfnbhhoaaaDoorRows
import GoSem.ClaimSeven
namespace Go.Proofs.YtmfibpfnbhhoaaaDoor
namespace Rows

/-- THE TIED CARD OF 'laws.FnExactHistWrite'. -/
def fnExactHistWriteCard : Claim7 := { stood := { row := fnExactHistWriteRow, standIns := [], harness := (true, "da405f759c26a4fc39f6f355e1b5d362832b2bee0839de5aa94d7ccf21f4181d"), looks := true }, kinds := [], alts := [], laidByText := true, laidKinds := [.data, .data, .data, .data, .pinned], laidTests := true, laidLooks := .later }
def FnExactHistWriteCardSaid : Prop := Claim7.holds Tryd.pinned (.plain (OpenSpec.ofChange fnExactHistWriteSpec)) fnExactHistWriteCard

/-- THE SECOND FORM's CARD OF 'laws.FnExactHistWrite'. -/
def fnExactHistWriteUptoCard : Claim7 := { stood := { row := fnExactHistWriteUptoRow, standIns := [], harness := (true, "da405f759c26a4fc39f6f355e1b5d362832b2bee0839de5aa94d7ccf21f4181d"), looks := true }, kinds := [], alts := [], laidByText := true, laidKinds := [.data, .data, .data, .data, .pinned], laidTests := true, laidLooks := .later }
def FnExactHistWriteUptoCardSaid : Prop := Claim7.holds Tryd.pinned (.plain (OpenSpec.upto fnExactHistWriteSpec)) fnExactHistWriteUptoCard
end Rows
end Go.Proofs.YtmfibpfnbhhoaaaDoor
