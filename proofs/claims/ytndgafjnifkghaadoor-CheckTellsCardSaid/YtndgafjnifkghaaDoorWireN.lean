/-
  The contract of wire's next, by which each call takes a number.
-/
import Derived.Test.YtndgafjnifkghaaDoorWireR
namespace Go.Proofs.YtndgafjnifkghaaDoor
open Go.RowKit

theorem zag0 : Num.zag 0 = 0 := by decide
theorem retV {k : IntKind} {a b : Nat} (h : a = b) : Ending.returned (.int k (a : Int)) = .returned (.int k (b : Int)) := by rw [h]

end Go.Proofs.YtndgafjnifkghaaDoor
