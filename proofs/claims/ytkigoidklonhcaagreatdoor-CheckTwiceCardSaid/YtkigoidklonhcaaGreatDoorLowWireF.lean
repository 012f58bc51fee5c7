/-
  Contracts of the document's bricks: Uint, Int, Text, Bool.
  Contracts of the document's Reader.
  Contracts of the document's Reader: Tag, Bool, Count, Text, End.
-/
import Derived.Test.YtkigoidklonhcaaGreatDoorLowWireW
import Derived.Test.YtkigoidklonhcaaGreatDoorLowRef
import Derived.Test.YtkigoidklonhcaaGreatDoorLowWireR
section
namespace Go.Proofs.YtkigoidklonhcaaGreatDoor
open Go.RowKit

theorem mk_append (l m : List UInt8) : (⟨l.toArray⟩ : ByteArray) ++ ⟨m.toArray⟩ = ⟨(l ++ m).toArray⟩ := by
  apply ByteArray.ext
  simp
end Go.Proofs.YtkigoidklonhcaaGreatDoor
end

section
namespace Go.Proofs.YtkigoidklonhcaaGreatDoor
open Go.RowKit

namespace Wire
section
variable {w w' : World} {B : Nat} {s : ByteArray} {e : Nat}
end

end Wire

end Go.Proofs.YtkigoidklonhcaaGreatDoor
end

section
namespace Go.Proofs.YtkigoidklonhcaaGreatDoor
open Go.RowKit

namespace Wire
/-- The bound that bounds nothing. -/
def top : Nat := 18446744073709551615

theorem step_max_bad {s : ByteArray} {f : Nat} (h : (step (wU 18446744073709551615) s f).2.2 ≠ 0) (wrong : Nat → Nat → Nat) : step wrong s f = (0, s, (step (wU 18446744073709551615) s f).2.2) := by
  have hb := (Num.rd_bound s.data.toList).2.2.1
  by_cases hf : f = 0
  · subst hf
    generalize hR : Num.rd s.data.toList = R at hb
    obtain ⟨v, q, g⟩ := R
    simp only [] at hb
    by_cases hg : g = 0
    · subst hg
      rw [step_ok hR (wU_no (by omega))] at h
      exact absurd rfl h
    · rw [step_bad hR hg, step_bad hR hg]
  · rw [step_fault hf, step_fault hf]

theorem step_max_ok {s : ByteArray} {f : Nat} (h : (step (wU 18446744073709551615) s f).2.2 = 0) (wrong : Nat → Nat → Nat) :
    step wrong s f = if wrong (step (wU 18446744073709551615) s f).1 (step (wU 18446744073709551615) s f).2.1.size = 0 then ((step (wU 18446744073709551615) s f).1, (step (wU 18446744073709551615) s f).2.1, 0)
      else (0, s, wrong (step (wU 18446744073709551615) s f).1 (step (wU 18446744073709551615) s f).2.1.size) := by
  have hb := (Num.rd_bound s.data.toList).2.2.1
  by_cases hf : f = 0
  · subst hf
    generalize hR : Num.rd s.data.toList = R at hb
    obtain ⟨v, q, g⟩ := R
    simp only [] at hb
    by_cases hg : g = 0
    · subst hg
      rw [step_ok hR (wU_no (by omega))]
      simp only []
      have e : (s.extract q s.size).size = s.size - q := by rw [ByteArray.size_extract]; omega
      rw [e]
      split
      · rename_i hw
        exact step_ok hR hw
      · rename_i hw
        exact step_wrong hR rfl hw
    · rw [step_bad hR hg] at h
      exact absurd h hg
  · rw [step_fault hf] at h
    exact absurd h hf

/-- Both sayings of a number taken, and held then. -/
theorem step_two (wrong : Nat → Nat → Nat) (s : ByteArray) (f v : Nat) (t : ByteArray) (g : Nat) (h : step (wU 18446744073709551615) s f = (v, t, g)) :
    (g ≠ 0 → v = 0 ∧ t = s ∧ step wrong s f = (0, s, g)) ∧ (g = 0 → (wrong v t.size = 0 → step wrong s f = (v, t, 0)) ∧ (wrong v t.size ≠ 0 → step wrong s f = (0, s, wrong v t.size))) := by
  constructor
  · intro hg
    have hg' : (step (wU 18446744073709551615) s f).2.2 ≠ 0 := by rw [h]; exact hg
    have e := step_max_bad hg' (wU 18446744073709551615)
    rw [h] at e
    have e2 := step_max_bad hg' wrong
    rw [h] at e2
    injection e with e3 e4
    injection e4 with e5 e6
    exact ⟨e3, e5, e2⟩
  · intro hg
    have hg' : (step (wU 18446744073709551615) s f).2.2 = 0 := by rw [h]; exact hg
    have e := step_max_ok hg' wrong
    rw [h] at e
    simp only [] at e
    exact ⟨fun hw => by rw [e, if_pos hw], fun hw => by rw [e, if_neg hw]⟩
end Wire

end Go.Proofs.YtkigoidklonhcaaGreatDoor
end
