/-
  DERIVED. GIVEN WITH THE SEED: THE CARDS: each row of YtnieaeakaajleaaGreatDoorRows.lean that lists a variable, with what it lists TIED to the program's text (the seventh form; the later family's looks); each row that meets fmt, with fmt's text TOLD by the authors' own Lean function (tested against real Go, not proved from fmt's source: count such statements apart). THE CARD IS WHAT COUNTS. Prove the row's statement (the work); the ties are given (YtnieaeakaajleaaGreatDoorTie.lean); close each card by the builder's one call (the guide's Derived/Test/ToyasCard.lean, 'card_holds'). Laid BY PROGRAM, IN A SANDBOX (cutbox-door.mjs). By AI agents, Wed Nov 11 2026. No macro, syntax, notation, axiom, sorry.
-/
import Derived.Test.YtnieaeakaajleaaGreatDoorRows
import GoSem.ClaimSeven
namespace Go.Proofs.YtnieaeakaajleaaGreatDoor
namespace Rows

/-- THE TIED CARD OF 'laws.FnExactPlanTick'. -/
def fnExactPlanTickCard : Claim7 := { stood := { row := fnExactPlanTickRow, standIns := [], harness := (true, "ce1940a12f0a00166a0952ac1504fd1ab116153583d6598ed7419878e0d3876e"), looks := true }, kinds := [], alts := [], laidByText := true, laidKinds := [.handle], laidTests := true, laidLooks := .later }
def FnExactPlanTickCardSaid : Prop := Claim7.holds Tryz.pinned (.plain (OpenSpec.ofChange fnExactPlanTickSpec)) fnExactPlanTickCard

/-- THE TIED CARD OF 'laws.FnExactPlanEnds'. -/
def fnExactPlanEndsCard : Claim7 := { stood := { row := fnExactPlanEndsRow, standIns := [], harness := (true, "ce1940a12f0a00166a0952ac1504fd1ab116153583d6598ed7419878e0d3876e"), looks := true }, kinds := [], alts := [], laidByText := true, laidKinds := [.handle], laidTests := true, laidLooks := .later }
def FnExactPlanEndsCardSaid : Prop := Claim7.holds Tryz.pinned (.plain (OpenSpec.ofChange fnExactPlanEndsSpec)) fnExactPlanEndsCard

/-- THE TIED CARD OF 'laws.FnExactPlanBoard'. -/
def fnExactPlanBoardCard : Claim7 := { stood := { row := fnExactPlanBoardRow, standIns := [], harness := (true, "ce1940a12f0a00166a0952ac1504fd1ab116153583d6598ed7419878e0d3876e"), looks := true }, kinds := [], alts := [], laidByText := true, laidKinds := [.data, .data, .data, .handle], laidTests := true, laidLooks := .later }
def FnExactPlanBoardCardSaid : Prop := Claim7.holds Tryz.pinned (.plain (OpenSpec.ofChange fnExactPlanBoardSpec)) fnExactPlanBoardCard

/-- THE SECOND FORM's CARD OF 'laws.FnExactPlanTick'. -/
def fnExactPlanTickUptoCard : Claim7 := { stood := { row := fnExactPlanTickUptoRow, standIns := [], harness := (true, "ce1940a12f0a00166a0952ac1504fd1ab116153583d6598ed7419878e0d3876e"), looks := true }, kinds := [], alts := [], laidByText := true, laidKinds := [.handle], laidTests := true, laidLooks := .later }
def FnExactPlanTickUptoCardSaid : Prop := Claim7.holds Tryz.pinned (.plain (OpenSpec.upto fnExactPlanTickSpec)) fnExactPlanTickUptoCard

/-- THE SECOND FORM's CARD OF 'laws.FnExactPlanEnds'. -/
def fnExactPlanEndsUptoCard : Claim7 := { stood := { row := fnExactPlanEndsUptoRow, standIns := [], harness := (true, "ce1940a12f0a00166a0952ac1504fd1ab116153583d6598ed7419878e0d3876e"), looks := true }, kinds := [], alts := [], laidByText := true, laidKinds := [.handle], laidTests := true, laidLooks := .later }
def FnExactPlanEndsUptoCardSaid : Prop := Claim7.holds Tryz.pinned (.plain (OpenSpec.upto fnExactPlanEndsSpec)) fnExactPlanEndsUptoCard

/-- THE SECOND FORM's CARD OF 'laws.FnExactPlanBoard'. -/
def fnExactPlanBoardUptoCard : Claim7 := { stood := { row := fnExactPlanBoardUptoRow, standIns := [], harness := (true, "ce1940a12f0a00166a0952ac1504fd1ab116153583d6598ed7419878e0d3876e"), looks := true }, kinds := [], alts := [], laidByText := true, laidKinds := [.data, .data, .data, .handle], laidTests := true, laidLooks := .later }
def FnExactPlanBoardUptoCardSaid : Prop := Claim7.holds Tryz.pinned (.plain (OpenSpec.upto fnExactPlanBoardSpec)) fnExactPlanBoardUptoCard
end Rows
end Go.Proofs.YtnieaeakaajleaaGreatDoor
