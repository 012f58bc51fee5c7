/-
  Contracts of the document's bricks: Uint, Int, Text, Bool.
-/
import Derived.Test.YtpmhpibbdcifnaaGreatLowWireW
import Derived.Test.YtpmhpibbdcifnaaGreatLowNumRef
namespace Go.Proofs.YtpmhpibbdcifnaaGreat
open Go.RowKit

theorem mk_append (l m : List UInt8) : (⟨l.toArray⟩ : ByteArray) ++ ⟨m.toArray⟩ = ⟨(l ++ m).toArray⟩ := by
  apply ByteArray.ext
  simp
end Go.Proofs.YtpmhpibbdcifnaaGreat
