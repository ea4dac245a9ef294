/-
  DERIVED. GIVEN WITH THE SEED: THE CARDS: each row of YtkemfifkjaclhaaGreatDoorRows.lean that lists a variable, with what it lists TIED to the program's text (the seventh form; the later family's looks); each row that meets fmt, with fmt's text TOLD by the authors' own Lean function (tested against real Go, not proved from fmt's source: count such statements apart). THE CARD IS WHAT COUNTS. Prove the row's statement (the work); the ties are given (YtkemfifkjaclhaaGreatDoorTie.lean); close each card by the builder's one call (the guide's Derived/Test/ToyasCard.lean, 'card_holds'). Laid BY PROGRAM, IN A SANDBOX (cutbox-door.mjs). By AI agents, Wed Nov 11 2026. No macro, syntax, notation, axiom, sorry.
-/
import Derived.Test.YtkemfifkjaclhaaGreatDoorRows
import GoSem.ClaimSeven
namespace Go.Proofs.YtkemfifkjaclhaaGreatDoor
namespace Rows

/-- THE TIED CARD OF 'laws.FnCalText'. -/
def fnCalTextCard : Claim7 := { stood := { row := fnCalTextRow, standIns := [], harness := (true, "71c61809d16ab442d894c8262a383210cb8da4000eaf086b244aae375e055488"), looks := true }, kinds := [], alts := [], laidByText := true, laidKinds := [.data, .data, .data, .data, .handle, .sentinel, .sentinel, .pinned], laidTests := true, laidLooks := .later }
def FnCalTextCardSaid : Prop := Claim7.holds Tryz.pinned (.plain (OpenSpec.ofChange fnCalTextSpec)) fnCalTextCard

/-- THE SECOND FORM's CARD OF 'laws.FnCalText'. -/
def fnCalTextUptoCard : Claim7 := { stood := { row := fnCalTextUptoRow, standIns := [], harness := (true, "71c61809d16ab442d894c8262a383210cb8da4000eaf086b244aae375e055488"), looks := true }, kinds := [], alts := [], laidByText := true, laidKinds := [.data, .data, .data, .data, .handle, .sentinel, .sentinel, .pinned], laidTests := true, laidLooks := .later }
def FnCalTextUptoCardSaid : Prop := Claim7.holds Tryz.pinned (.plain (OpenSpec.upto fnCalTextSpec)) fnCalTextUptoCard
end Rows
end Go.Proofs.YtkemfifkjaclhaaGreatDoor
