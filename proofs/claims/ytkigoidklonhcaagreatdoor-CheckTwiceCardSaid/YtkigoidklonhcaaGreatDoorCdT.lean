/-
  Contracts of slices.EqualFunc of functions, code.Same.
-/
import Derived.Test.YtkigoidklonhcaaGreatDoorCdS
namespace Go.Proofs.YtkigoidklonhcaaGreatDoor
open Go.RowKit

end Go.Proofs.YtkigoidklonhcaaGreatDoor
