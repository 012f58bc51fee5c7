/-
  The document's op, May, Input (layer 11).
-/
import Derived.Test.YtaijafkfiogmlaaDoorChH
import Derived.Test.YtaijafkfiogmlaaDoorLowCr
namespace Go.Proofs.YtaijafkfiogmlaaDoor
open Go.RowKit

namespace Ck
theorem regsOk_not (o : Cd.OpV) (n : Int) (h : o.k ≠ 12) : (!regsOk o n) = ((Cd.hD o.k && decide (n ≤ o.d)) || ((Cd.hA o.k && decide (n ≤ o.a)) || (Cd.hB o.k && decide (n ≤ o.b)))) := by
  have e : ∀ x : Int, decide (n ≤ x) = !decide (x < n) := fun x => by
    rw [Bool.eq_iff_iff]
    simp
  unfold regsOk
  rw [decide_eq_false h, e, e, e]
  cases Cd.hD o.k <;> cases Cd.hA o.k <;> cases Cd.hB o.k <;> simp
end Ck

end Go.Proofs.YtaijafkfiogmlaaDoor
