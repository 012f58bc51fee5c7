/-
  The contract of the document's Same (layer 10).
-/
import Derived.Test.YtepnofklmdofmaaGreatDoorLowCdS
import Derived.Test.YtepnofklmdofmaaGreatDoorLowCdN
namespace Go.Proofs.YtepnofklmdofmaaGreatDoor
open Go.RowKit

namespace Cd
theorem two_new10 (w : World) (a b : Array Value) (T : TypeId) : ((w.alloc (.cells a T)).alloc (.cells b T)).drew.heap[w.heap.size]? = some (.cells a T (0, 0)) ∧ ((w.alloc (.cells a T)).alloc (.cells b T)).drew.heap[w.heap.size + 1]? = some (.cells b T (0, 0)) ∧ Below w.heap.size w ((w.alloc (.cells a T)).alloc (.cells b T)).drew := by
  have hs : (w.alloc (.cells a T)).heap.size = w.heap.size + 1 := by simp
  have h1 := fn1 w a T
  have h2 := fn1 (w.alloc (.cells a T)) b T
  refine ⟨?_, ?_, (h1.trans (h2.mono h1.size)).drew⟩
  · show ((w.alloc (.cells a T)).alloc (.cells b T)).heap[w.heap.size]? = _
    rw [h2.block _ (by omega)]
    exact heap_alloc_new w _
  · show ((w.alloc (.cells a T)).alloc (.cells b T)).heap[w.heap.size + 1]? = _
    rw [← hs]
    exact heap_alloc_new _ _
theorem FB.c0 {w : World} {F : Nat} {a b : Int} {v : Value} (h : FB w F a b v) : w.cell? ⟨F, 0, none⟩ = some (.int .i64 a) := cell_of_row _ _ 0 _ _ _ h
theorem FB.c1 {w : World} {F : Nat} {a b : Int} {v : Value} (h : FB w F a b v) : w.cell? ⟨F, 1, none⟩ = some (.int .i64 b) := cell_of_row _ _ 1 _ _ _ h
theorem neq_fs {l r : List Fm} {k : Nat} (hlt : k < l.length) (hlt2 : k < r.length) (he : eqF l[k].f r[k].f = false) : eqFs (fns l) (fns r) = false := by
  by_cases hq : eqFs (fns l) (fns r) = true
  · have e : fns l = fns r := eqFs_iff.1 hq
    have e2 : (fns l)[k]? = (fns r)[k]? := by rw [e]
    unfold fns at e2
    rw [List.getElem?_map, List.getElem?_map, List.getElem?_eq_getElem hlt, List.getElem?_eq_getElem hlt2] at e2
    simp only [Option.map_some, Option.some.injEq] at e2
    rw [e2, eqF_iff.2 rfl] at he
    cases he
  · simpa using hq
theorem neq_os {l r : List OpV} {k : Nat} (h1 : k < l.length) (h2 : k < r.length) (he : eqO l[k] r[k] = false) : eqOs l r = false := by
  by_cases hq : eqOs l r = true
  · have e : l = r := eqOs_iff.1 hq
    subst e
    rw [eqO_iff.2 rfl] at he
    cases he
  · simpa using hq
theorem neq_len {l r : List OpV} (h : l.length ≠ r.length) : eqOs l r = false := by
  by_cases hq : eqOs l r = true
  · exact absurd (by rw [eqOs_iff.1 hq]) h
  · simpa using hq
end Cd

end Go.Proofs.YtepnofklmdofmaaGreatDoor
