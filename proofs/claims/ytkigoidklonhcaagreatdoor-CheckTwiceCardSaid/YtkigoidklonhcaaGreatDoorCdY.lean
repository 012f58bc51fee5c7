/-
  Layer 10, plainly: what the law's known small run comes to.
-/
import Derived.Test.YtkigoidklonhcaaGreatDoorLowCdN
namespace Go.Proofs.YtkigoidklonhcaaGreatDoor

namespace Cd
def aOps : List OpV := [⟨1, 1, 0, 0, -1⟩, ⟨14, 0, 1, 0, 0⟩]
def aFn : FnV := ⟨1, 2, aOps⟩
def aText : List UInt8 := [1, 1, 1, 2, 2, 1, 1, 1, 14, 1]
theorem a_pok : pok [aFn] = true := by decide +kernel
theorem a_pbs : pbs [aFn] = aText := by decide +kernel
theorem a_enc : enc [aFn] = (aText, 0) := by
  unfold enc
  rw [a_pok, a_pbs]
  rfl
theorem a_bad : pok [⟨0, 17, []⟩] = false := by decide +kernel
theorem a_dec2 : (dec ⟨#[2, 0]⟩).2 = 100 := by decide +kernel
theorem a_dec3 : (dec ⟨(aText ++ [0]).toArray⟩).2 = 8 := by decide +kernel
theorem a_dec1 : (dec ⟨aText.toArray⟩).2 = 0 := by decide +kernel
theorem a_dec0 : (dec ⟨aText.toArray⟩).1 = [aFn] := by rfl
end Cd
end Go.Proofs.YtkigoidklonhcaaGreatDoor
