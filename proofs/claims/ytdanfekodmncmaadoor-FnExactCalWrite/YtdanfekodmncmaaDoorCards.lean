/-
  DERIVED. GIVEN WITH THE SEED: THE CARDS: each row of YtdanfekodmncmaaDoorRows.lean that lists a variable, with what it lists TIED to the program's text (the seventh form; the later family's looks); each row that meets fmt, with fmt's text TOLD by the authors' own Lean function (tested against real Go, not proved from fmt's source: count such statements apart). THE CARD IS WHAT COUNTS. Prove the row's statement (the work); the ties are given (YtdanfekodmncmaaDoorTie.lean); close each card by the builder's one call (the guide's Derived/Test/ToyasCard.lean, 'card_holds'). Laid BY PROGRAM, IN A SANDBOX (cutbox-door.mjs). By AI agents, Wed Nov 11 2026. No macro, syntax, notation, axiom, sorry.
-/
import Derived.Test.YtdanfekodmncmaaDoorRows
import GoSem.ClaimSeven
namespace Go.Proofs.YtdanfekodmncmaaDoor
namespace Rows

/-- THE TIED CARD OF 'laws.FnExactCalOk'. -/
def fnExactCalOkCard : Claim7 := { stood := { row := fnExactCalOkRow, standIns := [], harness := (true, "205a491abcd3f068ea5414a3cddbb2f06bcf7b3b82ddb4d173a4fb4b67f3127b"), looks := true }, kinds := [], alts := [], laidByText := true, laidKinds := [.handle], laidTests := true, laidLooks := .later }
def FnExactCalOkCardSaid : Prop := Claim7.holds Tryd.pinned (.plain (OpenSpec.ofChange fnExactCalOkSpec)) fnExactCalOkCard

/-- THE TIED CARD OF 'laws.FnExactCalDue'. -/
def fnExactCalDueCard : Claim7 := { stood := { row := fnExactCalDueRow, standIns := [], harness := (true, "205a491abcd3f068ea5414a3cddbb2f06bcf7b3b82ddb4d173a4fb4b67f3127b"), looks := true }, kinds := [], alts := [], laidByText := true, laidKinds := [.handle], laidTests := true, laidLooks := .later }
def FnExactCalDueCardSaid : Prop := Claim7.holds Tryd.pinned (.plain (OpenSpec.ofChange fnExactCalDueSpec)) fnExactCalDueCard

/-- THE TIED CARD OF 'laws.FnExactCalNext'. -/
def fnExactCalNextCard : Claim7 := { stood := { row := fnExactCalNextRow, standIns := [], harness := (true, "205a491abcd3f068ea5414a3cddbb2f06bcf7b3b82ddb4d173a4fb4b67f3127b"), looks := true }, kinds := [], alts := [], laidByText := true, laidKinds := [.handle], laidTests := true, laidLooks := .later }
def FnExactCalNextCardSaid : Prop := Claim7.holds Tryd.pinned (.plain (OpenSpec.ofChange fnExactCalNextSpec)) fnExactCalNextCard

/-- THE TIED CARD OF 'laws.FnExactCalCount'. -/
def fnExactCalCountCard : Claim7 := { stood := { row := fnExactCalCountRow, standIns := [], harness := (true, "205a491abcd3f068ea5414a3cddbb2f06bcf7b3b82ddb4d173a4fb4b67f3127b"), looks := true }, kinds := [], alts := [], laidByText := true, laidKinds := [.handle], laidTests := true, laidLooks := .later }
def FnExactCalCountCardSaid : Prop := Claim7.holds Tryd.pinned (.plain (OpenSpec.ofChange fnExactCalCountSpec)) fnExactCalCountCard

/-- THE TIED CARD OF 'laws.FnExactCalWrite'. -/
def fnExactCalWriteCard : Claim7 := { stood := { row := fnExactCalWriteRow, standIns := [], harness := (true, "205a491abcd3f068ea5414a3cddbb2f06bcf7b3b82ddb4d173a4fb4b67f3127b"), looks := true }, kinds := [], alts := [], laidByText := true, laidKinds := [.data, .data, .data, .handle], laidTests := true, laidLooks := .later }
def FnExactCalWriteCardSaid : Prop := Claim7.holds Tryd.pinned (.plain (OpenSpec.ofChange fnExactCalWriteSpec)) fnExactCalWriteCard

/-- THE SECOND FORM's CARD OF 'laws.FnExactCalOk'. -/
def fnExactCalOkUptoCard : Claim7 := { stood := { row := fnExactCalOkUptoRow, standIns := [], harness := (true, "205a491abcd3f068ea5414a3cddbb2f06bcf7b3b82ddb4d173a4fb4b67f3127b"), looks := true }, kinds := [], alts := [], laidByText := true, laidKinds := [.handle], laidTests := true, laidLooks := .later }
def FnExactCalOkUptoCardSaid : Prop := Claim7.holds Tryd.pinned (.plain (OpenSpec.upto fnExactCalOkSpec)) fnExactCalOkUptoCard

/-- THE SECOND FORM's CARD OF 'laws.FnExactCalDue'. -/
def fnExactCalDueUptoCard : Claim7 := { stood := { row := fnExactCalDueUptoRow, standIns := [], harness := (true, "205a491abcd3f068ea5414a3cddbb2f06bcf7b3b82ddb4d173a4fb4b67f3127b"), looks := true }, kinds := [], alts := [], laidByText := true, laidKinds := [.handle], laidTests := true, laidLooks := .later }
def FnExactCalDueUptoCardSaid : Prop := Claim7.holds Tryd.pinned (.plain (OpenSpec.upto fnExactCalDueSpec)) fnExactCalDueUptoCard

/-- THE SECOND FORM's CARD OF 'laws.FnExactCalNext'. -/
def fnExactCalNextUptoCard : Claim7 := { stood := { row := fnExactCalNextUptoRow, standIns := [], harness := (true, "205a491abcd3f068ea5414a3cddbb2f06bcf7b3b82ddb4d173a4fb4b67f3127b"), looks := true }, kinds := [], alts := [], laidByText := true, laidKinds := [.handle], laidTests := true, laidLooks := .later }
def FnExactCalNextUptoCardSaid : Prop := Claim7.holds Tryd.pinned (.plain (OpenSpec.upto fnExactCalNextSpec)) fnExactCalNextUptoCard

/-- THE SECOND FORM's CARD OF 'laws.FnExactCalCount'. -/
def fnExactCalCountUptoCard : Claim7 := { stood := { row := fnExactCalCountUptoRow, standIns := [], harness := (true, "205a491abcd3f068ea5414a3cddbb2f06bcf7b3b82ddb4d173a4fb4b67f3127b"), looks := true }, kinds := [], alts := [], laidByText := true, laidKinds := [.handle], laidTests := true, laidLooks := .later }
def FnExactCalCountUptoCardSaid : Prop := Claim7.holds Tryd.pinned (.plain (OpenSpec.upto fnExactCalCountSpec)) fnExactCalCountUptoCard

/-- THE SECOND FORM's CARD OF 'laws.FnExactCalWrite'. -/
def fnExactCalWriteUptoCard : Claim7 := { stood := { row := fnExactCalWriteUptoRow, standIns := [], harness := (true, "205a491abcd3f068ea5414a3cddbb2f06bcf7b3b82ddb4d173a4fb4b67f3127b"), looks := true }, kinds := [], alts := [], laidByText := true, laidKinds := [.data, .data, .data, .handle], laidTests := true, laidLooks := .later }
def FnExactCalWriteUptoCardSaid : Prop := Claim7.holds Tryd.pinned (.plain (OpenSpec.upto fnExactCalWriteSpec)) fnExactCalWriteUptoCard
end Rows
end Go.Proofs.YtdanfekodmncmaaDoor
