/-
  Contracts of slices.Equal of ops, code.same, slices.EqualFunc of functions, code.Same.
  Contracts of slices.EqualFunc of functions, code.Same.
-/
import Derived.Test.YtepnofklmdofmaaGreatDoorLowCdF
import Derived.BigRegion
import Derived.BigQuiet
section
namespace Go.Proofs.YtepnofklmdofmaaGreatDoor
open Go.RowKit

namespace Cd
def eqO (x y : OpV) : Bool := decide (x.k = y.k) && decide (x.d = y.d) && decide (x.a = y.a) && decide (x.b = y.b) && decide (x.n = y.n)
theorem eqO_iff {x y : OpV} : eqO x y = true ↔ x = y := by
  unfold eqO
  simp only [Bool.and_eq_true, decide_eq_true_eq]
  exact ⟨fun h => OpV.ext' h.1.1.1.1 h.1.1.1.2 h.1.1.2 h.1.2 h.2, fun h => by subst h; simp⟩
def eqOs : List OpV → List OpV → Bool
  | [], [] => true
  | x :: l, y :: r => eqO x y && eqOs l r
  | _, _ => false
theorem eqOs_iff {l r : List OpV} : eqOs l r = true ↔ l = r := by
  induction l generalizing r with
  | nil => cases r <;> simp [eqOs]
  | cons x l ih =>
    cases r with
    | nil => simp [eqOs]
    | cons y r => simp [eqOs, eqO_iff, ih]
theorem eqOs_take {l r : List OpV} (h : l.length = r.length) : (∀ k, k < l.length → ∀ (h1 : k < l.length) (h2 : k < r.length), eqO l[k] r[k] = true) → l = r := fun hk => by
  apply List.ext_getElem h
  intro i h1 h2
  exact eqO_iff.1 (hk i h1 h1 h2)
theorem run_neqOp (x y : OpV) (w : World) : (binOp .neq 72 (.agg #[.int .u8 (x.k : Int), .int .i64 x.d, .int .i64 x.a, .int .i64 x.b, .int .i64 x.n]) (.agg #[.int .u8 (y.k : Int), .int .i64 y.d, .int .i64 y.a, .int .i64 y.b, .int .i64 y.n])).run Tryz.prog w = .ok (.bool (!eqO x y)) w := by
  unfold eqO
  go_simp
  have hk : ((x.k : Int) = (y.k : Int)) ↔ x.k = y.k := by omega
  by_cases h0 : x.k = y.k <;> by_cases h1 : x.d = y.d <;> by_cases h2 : x.a = y.a <;> by_cases h3 : x.b = y.b <;> by_cases h4 : x.n = y.n <;> simp [hk, h0, h1, h2, h3, h4]
end Cd

namespace Cd
def eqF (f g : FnV) : Bool := decide (f.args = g.args) && (decide (f.regs = g.regs) && eqOs f.ops g.ops)
theorem eqF_iff {f g : FnV} : eqF f g = true ↔ f = g := by
  unfold eqF
  simp only [Bool.and_eq_true, decide_eq_true_eq, eqOs_iff]
  constructor
  · intro h
    cases f
    cases g
    simp_all
  · intro h
    subst h
    simp
def eqFs : List FnV → List FnV → Bool
  | [], [] => true
  | x :: l, y :: r => eqF x y && eqFs l r
  | _, _ => false
theorem eqFs_iff {l r : List FnV} : eqFs l r = true ↔ l = r := by
  induction l generalizing r with
  | nil => cases r <;> simp [eqFs]
  | cons x l ih =>
    cases r with
    | nil => simp [eqFs]
    | cons y r => simp [eqFs, eqF_iff, ih]
end Cd

end Go.Proofs.YtepnofklmdofmaaGreatDoor
end

section
namespace Go.Proofs.YtepnofklmdofmaaGreatDoor
open Go.RowKit

end Go.Proofs.YtepnofklmdofmaaGreatDoor
end
