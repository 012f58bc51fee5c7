/-
  The document's Reaches (layer 11).
-/
import Derived.Test.YtkigoidklonhcaaGreatDoorChO
namespace Go.Proofs.YtkigoidklonhcaaGreatDoor
open Go.RowKit

namespace Ck
/-- Of the functions before i, those that were met (or the first) have met what they begin. -/
def Past (p : List Cd.FnV) (f : Nat) (L0 : List Bool) (i : Nat) (L : List Bool) : Prop := ∀ a j : Nat, a < i → (a = f ∨ L0[a]? = some true) → Beg p a j → L[j]? = some true
theorem Past.mono {p : List Cd.FnV} {f i : Nat} {L0 L M : List Bool} (h : Past p f L0 i L) (hm : ∀ t : Nat, L[t]? = some true → M[t]? = some true) : Past p f L0 i M := fun a j ha h1 h2 => hm j (h a j ha h1 h2)
theorem begun_at {n f i : Nat} (hi : i < n) (hf : f < n) : ∃ h : i < ((List.replicate n false).set f true).length, ((List.replicate n false).set f true)[i] = decide (i = f) := by
  refine ⟨by simpa using hi, ?_⟩
  by_cases e : i = f
  · subst e
    rw [List.getElem_set_self, decide_eq_true rfl]
  · rw [List.getElem_set_ne (fun h => e h.symm), decide_eq_false e, List.getElem_replicate]
end Ck

end Go.Proofs.YtkigoidklonhcaaGreatDoor
