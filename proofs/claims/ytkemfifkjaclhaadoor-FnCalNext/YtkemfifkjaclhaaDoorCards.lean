/-
  DERIVED. GIVEN WITH THE SEED: THE CARDS: each row of YtkemfifkjaclhaaDoorRows.lean that lists a variable, with what it lists TIED to the program's text (the seventh form; the later family's looks); each row that meets fmt, with fmt's text TOLD by the authors' own Lean function (tested against real Go, not proved from fmt's source: count such statements apart). THE CARD IS WHAT COUNTS. Prove the row's statement (the work); the ties are given (YtkemfifkjaclhaaDoorTie.lean); close each card by the builder's one call (the guide's Derived/Test/ToyasCard.lean, 'card_holds'). Laid BY PROGRAM, IN A SANDBOX (cutbox-door.mjs). By AI agents, Wed Nov 11 2026. No macro, syntax, notation, axiom, sorry.
-/
import Derived.Test.YtkemfifkjaclhaaDoorRows
import GoSem.ClaimSeven
namespace Go.Proofs.YtkemfifkjaclhaaDoor
namespace Rows

/-- THE TIED CARD OF 'laws.FnCalNext'. -/
def fnCalNextCard : Claim7 := { stood := { row := fnCalNextRow, standIns := [], harness := (true, "103f6a207be517a3412bfa20eeeaf24b31e6b1d217c9b422964070da1255036b"), looks := true }, kinds := [], alts := [], laidByText := true, laidKinds := [.handle], laidTests := true, laidLooks := .later }
def FnCalNextCardSaid : Prop := Claim7.holds Tryd.pinned (.plain (OpenSpec.ofChange fnCalNextSpec)) fnCalNextCard

/-- THE TIED CARD OF 'laws.FnCalUnion'. -/
def fnCalUnionCard : Claim7 := { stood := { row := fnCalUnionRow, standIns := [], harness := (true, "103f6a207be517a3412bfa20eeeaf24b31e6b1d217c9b422964070da1255036b"), looks := true }, kinds := [], alts := [], laidByText := true, laidKinds := [.handle], laidTests := true, laidLooks := .later }
def FnCalUnionCardSaid : Prop := Claim7.holds Tryd.pinned (.plain (OpenSpec.ofChange fnCalUnionSpec)) fnCalUnionCard

/-- THE SECOND FORM's CARD OF 'laws.FnCalNext'. -/
def fnCalNextUptoCard : Claim7 := { stood := { row := fnCalNextUptoRow, standIns := [], harness := (true, "103f6a207be517a3412bfa20eeeaf24b31e6b1d217c9b422964070da1255036b"), looks := true }, kinds := [], alts := [], laidByText := true, laidKinds := [.handle], laidTests := true, laidLooks := .later }
def FnCalNextUptoCardSaid : Prop := Claim7.holds Tryd.pinned (.plain (OpenSpec.upto fnCalNextSpec)) fnCalNextUptoCard

/-- THE SECOND FORM's CARD OF 'laws.FnCalUnion'. -/
def fnCalUnionUptoCard : Claim7 := { stood := { row := fnCalUnionUptoRow, standIns := [], harness := (true, "103f6a207be517a3412bfa20eeeaf24b31e6b1d217c9b422964070da1255036b"), looks := true }, kinds := [], alts := [], laidByText := true, laidKinds := [.handle], laidTests := true, laidLooks := .later }
def FnCalUnionUptoCardSaid : Prop := Claim7.holds Tryd.pinned (.plain (OpenSpec.upto fnCalUnionSpec)) fnCalUnionUptoCard
end Rows
end Go.Proofs.YtkemfifkjaclhaaDoor
