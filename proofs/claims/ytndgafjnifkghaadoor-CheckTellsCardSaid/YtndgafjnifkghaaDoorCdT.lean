/-
  Contracts of slices.EqualFunc of functions, code.Same.
-/
import Derived.Test.YtndgafjnifkghaaDoorCdS
namespace Go.Proofs.YtndgafjnifkghaaDoor
open Go.RowKit

end Go.Proofs.YtndgafjnifkghaaDoor
