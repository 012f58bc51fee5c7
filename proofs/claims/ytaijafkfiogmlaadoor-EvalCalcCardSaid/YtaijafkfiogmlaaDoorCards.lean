/-
  DERIVED. GIVEN WITH THE SEED: THE CARDS: each row of YtaijafkfiogmlaaDoorRows.lean that lists a variable, with what it lists TIED to the program's text (the seventh form; the later family's looks); each row that meets fmt, with fmt's text TOLD by the authors' own Lean function (tested against real Go, not proved from fmt's source: count such statements apart). THE CARD IS WHAT COUNTS. Prove the row's statement (the work); the ties are given (YtaijafkfiogmlaaDoorTie.lean); close each card by the builder's one call (the guide's Derived/Test/ToyasCard.lean, 'card_holds'). Laid BY PROGRAM, IN A SANDBOX (cutbox-door.mjs). By AI agents, Wed Nov 11 2026. No macro, syntax, notation, axiom, sorry.
-/
import Derived.Test.YtaijafkfiogmlaaDoorRows
import GoSem.ClaimSeven
namespace Go.Proofs.YtaijafkfiogmlaaDoor
namespace Rows

/-- THE TIED CARD OF 'thresherlaw13.EvalCalc'. -/
def evalCalcCard : Claim7 := { stood := { row := evalCalcRow, standIns := [], harness := (true, "0a10ceb3b168045be2ec4b205bdef9805dc36f3d181f4116612bf0474925c582"), looks := true }, kinds := [], alts := [], laidByText := true, laidKinds := [.handle], laidTests := true, laidLooks := .later }
def EvalCalcCardSaid : Prop := Claim7.holds Tryd.pinned (.plain (OpenSpec.ofChange evalCalcSpec)) evalCalcCard

/-- THE TIED CARD OF 'thresherlaw13.EvalParts'. -/
def evalPartsCard : Claim7 := { stood := { row := evalPartsRow, standIns := [], harness := (true, "0a10ceb3b168045be2ec4b205bdef9805dc36f3d181f4116612bf0474925c582"), looks := true }, kinds := [], alts := [], laidByText := true, laidKinds := [.handle], laidTests := true, laidLooks := .later }
def EvalPartsCardSaid : Prop := Claim7.holds Tryd.pinned (.plain (OpenSpec.ofChange evalPartsSpec)) evalPartsCard

/-- THE SECOND FORM's CARD OF 'thresherlaw13.EvalCalc'. -/
def evalCalcUptoCard : Claim7 := { stood := { row := evalCalcUptoRow, standIns := [], harness := (true, "0a10ceb3b168045be2ec4b205bdef9805dc36f3d181f4116612bf0474925c582"), looks := true }, kinds := [], alts := [], laidByText := true, laidKinds := [.handle], laidTests := true, laidLooks := .later }
def EvalCalcUptoCardSaid : Prop := Claim7.holds Tryd.pinned (.plain (OpenSpec.upto evalCalcSpec)) evalCalcUptoCard

/-- THE SECOND FORM's CARD OF 'thresherlaw13.EvalParts'. -/
def evalPartsUptoCard : Claim7 := { stood := { row := evalPartsUptoRow, standIns := [], harness := (true, "0a10ceb3b168045be2ec4b205bdef9805dc36f3d181f4116612bf0474925c582"), looks := true }, kinds := [], alts := [], laidByText := true, laidKinds := [.handle], laidTests := true, laidLooks := .later }
def EvalPartsUptoCardSaid : Prop := Claim7.holds Tryd.pinned (.plain (OpenSpec.upto evalPartsSpec)) evalPartsUptoCard
end Rows
end Go.Proofs.YtaijafkfiogmlaaDoor
