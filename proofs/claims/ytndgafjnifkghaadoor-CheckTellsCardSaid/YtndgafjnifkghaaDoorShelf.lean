/-
  What the shelf says of library functions, at this dump: layings and contracts in plain words.
-/
import Derived.Shelf.Strings.Builder1
import Derived.Shelf.Strings.BuilderF
import Derived.Shelf.Strings.BuilderK
import Derived.Shelf.LaysM
import Derived.Shelf.Strconv.Clone
import Derived.Test.YtndgafjnifkghaaDoorProg
namespace Go.Proofs.YtndgafjnifkghaaDoor
open Go.Shelf
end Go.Proofs.YtndgafjnifkghaaDoor
