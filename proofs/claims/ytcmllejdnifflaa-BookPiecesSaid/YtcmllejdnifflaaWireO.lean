/-
  A law's slices, opened (see Open): for the texts of wire.
-/
import Derived.Test.YtcmllejdnifflaaLowWireW
import Derived.Test.YtcmllejdnifflaaOpen
namespace Go.Proofs.Ytcmllejdnifflaa
end Go.Proofs.Ytcmllejdnifflaa
