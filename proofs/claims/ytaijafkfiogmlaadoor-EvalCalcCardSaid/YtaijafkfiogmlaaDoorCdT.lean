/-
  Contracts of slices.EqualFunc of functions, code.Same.
-/
import Derived.Test.YtaijafkfiogmlaaDoorCdS
namespace Go.Proofs.YtaijafkfiogmlaaDoor
open Go.RowKit

end Go.Proofs.YtaijafkfiogmlaaDoor
