/-
  The document's Input (layer 11).
-/
import Derived.Test.YtaijafkfiogmlaaDoorChJ
namespace Go.Proofs.YtaijafkfiogmlaaDoor
open Go.RowKit

end Go.Proofs.YtaijafkfiogmlaaDoor
