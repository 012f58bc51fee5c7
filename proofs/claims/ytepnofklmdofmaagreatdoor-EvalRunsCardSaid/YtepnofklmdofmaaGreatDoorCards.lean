/-
  DERIVED. GIVEN WITH THE SEED: THE CARDS: each row of YtepnofklmdofmaaGreatDoorRows.lean that lists a variable, with what it lists TIED to the program's text (the seventh form; the later family's looks); each row that meets fmt, with fmt's text TOLD by the authors' own Lean function (tested against real Go, not proved from fmt's source: count such statements apart). THE CARD IS WHAT COUNTS. Prove the row's statement (the work); the ties are given (YtepnofklmdofmaaGreatDoorTie.lean); close each card by the builder's one call (the guide's Derived/Test/ToyasCard.lean, 'card_holds'). Laid BY PROGRAM, IN A SANDBOX (cutbox-door.mjs). By AI agents, Wed Nov 11 2026. No macro, syntax, notation, axiom, sorry.
-/
import Derived.Test.YtepnofklmdofmaaGreatDoorRows
import GoSem.ClaimSeven
namespace Go.Proofs.YtepnofklmdofmaaGreatDoor
namespace Rows

/-- THE TIED CARD OF 'thresherlaw13.EvalRuns'. -/
def evalRunsCard : Claim7 := { stood := { row := evalRunsRow, standIns := [], harness := (true, "38b788ec4301fee4a1b2f5454ebce0376e4b0311fef7729cbc078141ad245b34"), looks := true }, kinds := [], alts := [], laidByText := true, laidKinds := [.handle], laidTests := true, laidLooks := .later }
def EvalRunsCardSaid : Prop := Claim7.holds Tryz.pinned (.plain (OpenSpec.ofChange evalRunsSpec)) evalRunsCard

/-- THE TIED CARD OF 'thresherlaw14.VmPlays'. -/
def vmPlaysCard : Claim7 := { stood := { row := vmPlaysRow, standIns := [], harness := (true, "38b788ec4301fee4a1b2f5454ebce0376e4b0311fef7729cbc078141ad245b34"), looks := true }, kinds := [], alts := [], laidByText := true, laidKinds := [.handle], laidTests := true, laidLooks := .later }
def VmPlaysCardSaid : Prop := Claim7.holds Tryz.pinned (.plain (OpenSpec.ofChange vmPlaysSpec)) vmPlaysCard

/-- THE TIED CARD OF 'thresherlaw14.VmAll'. -/
def vmAllCard : Claim7 := { stood := { row := vmAllRow, standIns := [], harness := (true, "38b788ec4301fee4a1b2f5454ebce0376e4b0311fef7729cbc078141ad245b34"), looks := true }, kinds := [], alts := [], laidByText := true, laidKinds := [.handle], laidTests := true, laidLooks := .later }
def VmAllCardSaid : Prop := Claim7.holds Tryz.pinned (.plain (OpenSpec.ofChange vmAllSpec)) vmAllCard

/-- THE SECOND FORM's CARD OF 'thresherlaw13.EvalRuns'. -/
def evalRunsUptoCard : Claim7 := { stood := { row := evalRunsUptoRow, standIns := [], harness := (true, "38b788ec4301fee4a1b2f5454ebce0376e4b0311fef7729cbc078141ad245b34"), looks := true }, kinds := [], alts := [], laidByText := true, laidKinds := [.handle], laidTests := true, laidLooks := .later }
def EvalRunsUptoCardSaid : Prop := Claim7.holds Tryz.pinned (.plain (OpenSpec.upto evalRunsSpec)) evalRunsUptoCard

/-- THE SECOND FORM's CARD OF 'thresherlaw14.VmPlays'. -/
def vmPlaysUptoCard : Claim7 := { stood := { row := vmPlaysUptoRow, standIns := [], harness := (true, "38b788ec4301fee4a1b2f5454ebce0376e4b0311fef7729cbc078141ad245b34"), looks := true }, kinds := [], alts := [], laidByText := true, laidKinds := [.handle], laidTests := true, laidLooks := .later }
def VmPlaysUptoCardSaid : Prop := Claim7.holds Tryz.pinned (.plain (OpenSpec.upto vmPlaysSpec)) vmPlaysUptoCard

/-- THE SECOND FORM's CARD OF 'thresherlaw14.VmAll'. -/
def vmAllUptoCard : Claim7 := { stood := { row := vmAllUptoRow, standIns := [], harness := (true, "38b788ec4301fee4a1b2f5454ebce0376e4b0311fef7729cbc078141ad245b34"), looks := true }, kinds := [], alts := [], laidByText := true, laidKinds := [.handle], laidTests := true, laidLooks := .later }
def VmAllUptoCardSaid : Prop := Claim7.holds Tryz.pinned (.plain (OpenSpec.upto vmAllSpec)) vmAllUptoCard
end Rows
end Go.Proofs.YtepnofklmdofmaaGreatDoor
