/-
  The document's num, opBytes (layer 10): an op's bytes.
  The document's Bytes, Encode (layer 10): a program's bytes.
-/
import Derived.Test.YtepnofklmdofmaaGreatDoorLowCr
import Derived.Test.YtepnofklmdofmaaGreatDoorLowCdI
import Derived.Test.YtepnofklmdofmaaGreatDoorLowRef
section
namespace Go.Proofs.YtepnofklmdofmaaGreatDoor
open Go.RowKit

namespace Cd
theorem uv_nat (y : Nat) : uv (y : Int) = Lib.uvarint y := by unfold uv; rw [Int.toNat_natCast]
/-- A part's bytes, if the kind has it. -/
def prtB (h : Bool) (l : List UInt8) : List UInt8 := if h then l else []
theorem bytes_parts (o : OpV) : o.bytes = Lib.uvarint o.k ++ prtB (hD o.k) (uv o.d) ++ prtB (hA o.k) (uv o.a) ++ prtB (hB o.k) (uv o.b) ++ prtB (hN o.k) (Lib.uvarint (Lib.zigzag o.n)) := by
  unfold OpV.bytes OpV.regs prtB
  cases hD o.k <;> cases hA o.k <;> cases hB o.k <;> cases hN o.k <;> simp
end Cd

end Go.Proofs.YtepnofklmdofmaaGreatDoor
end

section
namespace Go.Proofs.YtepnofklmdofmaaGreatDoor
open Go.RowKit

end Go.Proofs.YtepnofklmdofmaaGreatDoor
end
