/-
  The document's Decode (layer 10).
  The document's Copy (layer 10).
-/
import Derived.Test.YtepnofklmdofmaaGreatDoorLowCrG
import Derived.Test.YtepnofklmdofmaaGreatDoorLowCdU
import Derived.Lib.AppendZeros
section
namespace Go.Proofs.YtepnofklmdofmaaGreatDoor
open Go.RowKit

namespace Cd
theorem dOp_size (s : ByteArray) (f : Nat) : (dOp s f).2.1.size ≤ s.size := by
  have hk : (dKind s f).2.1.size ≤ s.size := by
    unfold dKind
    split
    · exact Wire.step_size _ _
    · exact Wire.step_size _ _
  have hh : (dHead s f).2.1.size ≤ s.size := Nat.le_trans (rRegs_size _ _) hk
  unfold dOp
  split
  · exact Nat.le_trans (Wire.step_size _ _) hh
  · exact hh
theorem FB.set1 {w : World} {F : Nat} {a b : Int} {v : Value} (h : FB w F a b v) (x : Int) : FB (w.setCell ⟨F, 1, none⟩ (.int .i64 x)) F a x v := by
  unfold FB at h ⊢
  simp [World.setCell, Array.getElem?_modify, h]
end Cd

end Go.Proofs.YtepnofklmdofmaaGreatDoor
end

section
namespace Go.Proofs.YtepnofklmdofmaaGreatDoor
open Go.RowKit

namespace Cd
/-- Ops that lie somewhere, or are none, are appended to a slice of the call's own. -/
theorem append_ops (w : World) (base : Nat) (v : Value) (n : Nat) (xs : List Value) (hown : w.ownsRow base 72 5 v n xs) (A : Option Addr) (l : List OpV) (c : Nat)
    (hsrc : 0 < l.length → ∃ ad, A = some ad ∧ ∀ j u, (ocells l)[j]? = some u → w.cell? (ad.add j) = some u) (hn : n + l.length ≤ 1000000) (hbase : base ≤ w.heap.size) (ty : TypeId) :
    ∃ v' w', (Builtin.append_ #[105, 105] ty #[v, .slice A l.length c]).run Tryz.prog w = .ok v' w' ∧ w'.ownsRow base 72 5 v' (n + l.length) (xs ++ ocells l) ∧ w.grownBy w' v.ownBlock := by
  obtain ⟨i, hi, hz⟩ := Option.map_eq_some_iff.1 opInfo
  simp only [Prod.mk.injEq] at hz
  obtain ⟨z1, z2, z3⟩ := hz
  have hmax : n + l.length ≤ maxLen := by unfold maxLen; omega
  cases A with
  | some ad =>
    obtain ⟨v', w', a, b, d, _⟩ := run_append_own_at (P := Tryz.prog) w base 105 ty 72 i _ 5 40 Tryz.underlying105 hi z1 z2 z3 rfl (by omega) v n xs hown ad l.length c (ocells l) (ocells_len l) (fun j u hu => by
      obtain ⟨ad', e, hc⟩ := hsrc (by have := (List.getElem?_eq_some_iff.1 hu).1; rw [ocells_len] at this; omega)
      cases e
      exact hc j u hu) (ocells_one l) hmax (by omega) hbase
    exact ⟨v', w', a, b, d⟩
  | none =>
    have hm : l = [] := by
      cases l with
      | nil => rfl
      | cons x l => obtain ⟨_, e, _⟩ := hsrc (by simp); cases e
    subst hm
    refine ⟨v, w, ?_, by simpa [ocells] using hown, ⟨rfl, rfl, rfl, Nat.le_refl _, fun _ _ _ => rfl⟩⟩
    rcases hown.2 with ⟨rfl, rfl⟩ | ⟨g, cap, cur, rfl, _, _, hnc, _⟩
    · simp [Builtin.append_, run_underlying (P := Tryz.prog) Tryz.underlying105, sizeOf, typeInfo, hi, Builtin.lenOf, Builtin.firstCells]
    · simp [Builtin.append_, run_underlying (P := Tryz.prog) Tryz.underlying105, sizeOf, typeInfo, hi, Builtin.lenOf, Builtin.firstCells, hnc, storeCells]
end Cd

end Go.Proofs.YtepnofklmdofmaaGreatDoor
end
