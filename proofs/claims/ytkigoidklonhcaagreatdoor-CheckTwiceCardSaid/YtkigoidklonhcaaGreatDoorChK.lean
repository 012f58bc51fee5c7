/-
  The document's Input (layer 11).
-/
import Derived.Test.YtkigoidklonhcaaGreatDoorChJ
namespace Go.Proofs.YtkigoidklonhcaaGreatDoor
open Go.RowKit

end Go.Proofs.YtkigoidklonhcaaGreatDoor
