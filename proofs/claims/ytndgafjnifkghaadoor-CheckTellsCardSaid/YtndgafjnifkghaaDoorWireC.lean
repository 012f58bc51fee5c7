/-
  Contracts of the closures that tell a number's fault: Uint's, Int's, Count's, Tag's.
-/
import Derived.Test.YtndgafjnifkghaaDoorWireN
namespace Go.Proofs.YtndgafjnifkghaaDoor
open Go.RowKit

namespace Wire
theorem wU_yes {m x b : Nat} (h : m < x) : wU m x b = 9 := by unfold wU; rw [if_pos h]
theorem wU_no {m x b : Nat} (h : ¬ m < x) : wU m x b = 0 := by unfold wU; rw [if_neg h]
theorem wI_yes {l h : Int} {x b : Nat} (c : Num.zag x < l ∨ h < Num.zag x) : wI l h x b = 9 := by unfold wI; rw [if_pos c]
theorem wI_no {l h : Int} {x b : Nat} (c : ¬ (Num.zag x < l ∨ h < Num.zag x)) : wI l h x b = 0 := by unfold wI; rw [if_neg c]
theorem wT_yes {xs : List Nat} {x b : Nat} (c : isOf x xs = true) : wT xs x b = 0 := by unfold wT; rw [c]; rfl
theorem wT_no {xs : List Nat} {x b : Nat} (c : isOf x xs = false) : wT xs x b = 8 := by unfold wT; rw [c]; rfl
theorem wC_long {m : Int} {x b : Nat} (c : m < 0 ∨ m < x) : wC m x b = 4 := by unfold wC; rw [if_pos c]
theorem wC_short {m : Int} {x b : Nat} (c : ¬ (m < 0 ∨ m < x)) (h : b < x) : wC m x b = 10 := by unfold wC; rw [if_neg c, if_pos h]
theorem wC_ok {m : Int} {x b : Nat} (c : ¬ (m < 0 ∨ m < x)) (h : ¬ b < x) : wC m x b = 0 := by unfold wC; rw [if_neg c, if_neg h]
end Wire

theorem retE {a : Int} {b : Nat} (h : b = a) : Ending.returned (.int .i64 a) = .returned (.int .i64 (b : Int)) := by rw [h]

end Go.Proofs.YtndgafjnifkghaaDoor
