/-
  The document's Has, reg, op (layer 10): what a kind of op has; a register; an op's form.
  The document's op (layer 10): has an op its form?
  The document's May (layer 10).
-/
import Derived.Test.YtnlhacgihmelhaaDoorCrA
import Derived.Test.YtnlhacgihmelhaaDoorLowCdF
section
namespace Go.Proofs.YtnlhacgihmelhaaDoor
open Go.RowKit

theorem results_tmp4 {fn : Func} {t u v x : Tmp} (h : fn.results = #[.tmp t, .tmp u, .tmp v, .tmp x]) (tmps : Array Value) (P : Program) (w : World) :
    (results fn tmps).run P w = .ok (.tuple #[tmps.getD t undef, tmps.getD u undef, tmps.getD v undef, tmps.getD x undef]) w := by
  simp [results, h]

end Go.Proofs.YtnlhacgihmelhaaDoor
end

section
namespace Go.Proofs.YtnlhacgihmelhaaDoor
open Go.RowKit

namespace Cd
/-- An op's form, part by part. -/
def okP (h : Bool) (x : Int) : Bool := h || (x == 0)
theorem okP_t (x : Int) : okP true x = true := rfl
theorem ok_parts4 (o : OpV) : o.ok = (isK o.k && (reg o.d && reg o.a && reg o.b) && (okP (hD o.k) o.d && okP (hA o.k) o.a && okP (hB o.k) o.b && okP (hN o.k) o.n)) := by
  have h : ∀ (c : Bool) (x : Int), decide ((if c then 0 else x) = 0) = okP c x := fun c x => by
    cases c with
    | true => rfl
    | false => unfold okP; rw [Bool.false_or, Bool.eq_iff_iff]; simp
  unfold OpV.ok OpV.bare OpV.less
  simp only [h]
theorem isK_iff {k : Nat} : isK k = true ↔ 1 ≤ k ∧ k ≤ 14 := by unfold isK; simp
end Cd

end Go.Proofs.YtnlhacgihmelhaaDoor
end

section
namespace Go.Proofs.YtnlhacgihmelhaaDoor
open Go.RowKit

end Go.Proofs.YtnlhacgihmelhaaDoor
end
