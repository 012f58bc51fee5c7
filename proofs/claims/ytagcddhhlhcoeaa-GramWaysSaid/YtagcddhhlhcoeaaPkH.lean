/-
  Three places, two ways there and one back: what the net's lists come to.
-/
import Derived.Test.YtagcddhhlhcoeaaPkG
namespace Go.Proofs.Ytagcddhhlhcoeaa
open Go.RowKit

namespace Gm
/-- Three places. -/
structure Three (x y z : Int) (t : ByteArray) : Prop where
  px : plc x = true
  py : plc y = true
  pz : plc z = true
  xy : x ≠ y
  xz : x ≠ z
  yz : y ≠ z
  t : t.size ≤ 16384
section
variable {x y z : Int} {t : ByteArray}
theorem Three.cut (h : Three x y z t) : cutC x y = 0 ∧ cutL x y [] = [(x, y)] ∧ healL x y [(x, y)] = [] := by
  have hc : cutC x y = 0 := by unfold cutC; rw [if_pos ⟨h.px, h.py⟩]
  refine ⟨hc, ?_, ?_⟩
  · unfold cutL; rw [if_pos ⟨hc, rfl⟩]; rfl
  · unfold healL; rw [if_pos hc]; simp
theorem Three.send1 (h : Three x y z t) : sendC x t [y, z] 0 = 0 := by
  unfold sendC
  rw [if_neg (by simp [h.px, h.py, h.pz]), if_neg (by have := h.t; omega), if_neg (by simp)]
theorem Three.send1L (h : Three x y z t) : sendM x t [y, z] 0 [] = 2 ∧ sendL x t [y, z] 0 [] = [⟨1, x, y, t⟩, ⟨2, x, z, t⟩] := by
  have hc : sendC x t [y, z] ([] : List Msg).length = 0 := h.send1
  unfold sendM sendL
  rw [if_pos hc, if_pos hc]
  exact ⟨rfl, rfl⟩
theorem Three.send2L (h : Three x y z t) : sendM y t [x] 2 [⟨1, x, y, t⟩, ⟨2, x, z, t⟩] = 3 ∧ sendL y t [x] 2 [⟨1, x, y, t⟩, ⟨2, x, z, t⟩] = [⟨1, x, y, t⟩, ⟨2, x, z, t⟩, ⟨3, y, x, t⟩] := by
  have hc : sendC y t [x] [(⟨1, x, y, t⟩ : Msg), ⟨2, x, z, t⟩].length = 0 := by
    unfold sendC
    rw [if_neg (by simp [h.px, h.py]), if_neg (by have := h.t; omega), if_neg (by simp)]
  unfold sendM sendL
  rw [if_pos hc, if_pos hc]
  exact ⟨rfl, rfl⟩
theorem Three.stop (h : Three x y z t) : (ids [⟨1, x, y, t⟩, ⟨2, x, z, t⟩, ⟨3, y, x, t⟩]).filter (fun i => !stopF [(x, y)] [⟨1, x, y, t⟩, ⟨2, x, z, t⟩, ⟨3, y, x, t⟩] i) = [2, 3] := by
  have e1 : isCut x y [(x, y)] = true := isCut_iff.2 (by simp)
  have e2 : isCut x z [(x, y)] = false := by
    rw [Bool.eq_false_iff, ne_eq, isCut_iff]
    simp
    exact fun e => h.yz e.symm
  have e3 : isCut y x [(x, y)] = false := by
    rw [Bool.eq_false_iff, ne_eq, isCut_iff]
    simp
    exact fun e _ => h.xy e.symm
  have s1 : stopF [(x, y)] [⟨1, x, y, t⟩, ⟨2, x, z, t⟩, ⟨3, y, x, t⟩] 1 = isCut x y [(x, y)] := rfl
  have s2 : stopF [(x, y)] [⟨1, x, y, t⟩, ⟨2, x, z, t⟩, ⟨3, y, x, t⟩] 2 = isCut x z [(x, y)] := rfl
  have s3 : stopF [(x, y)] [⟨1, x, y, t⟩, ⟨2, x, z, t⟩, ⟨3, y, x, t⟩] 3 = isCut y x [(x, y)] := rfl
  show List.filter _ [1, 2, 3] = _
  simp [s1, s2, s3, e1, e2, e3]
theorem Three.take1 (_ : Three x y z t) : takeE 1 [(x, y)] [⟨1, x, y, t⟩, ⟨2, x, z, t⟩, ⟨3, y, x, t⟩] = .returned (.tuple #[.agg #[.int .u64 0, .int .i64 0, .int .i64 0, .string ⟨#[]⟩], .int .i64 90]) ∧ takeL 1 [(x, y)] [⟨1, x, y, t⟩, ⟨2, x, z, t⟩, ⟨3, y, x, t⟩] = [⟨1, x, y, t⟩, ⟨2, x, z, t⟩, ⟨3, y, x, t⟩] := by
  have e1 : isCut x y [(x, y)] = true := isCut_iff.2 (by simp)
  have hf : findM 1 [⟨1, x, y, t⟩, ⟨2, x, z, t⟩, ⟨3, y, x, t⟩] = some ⟨1, x, y, t⟩ := rfl
  unfold takeE takeL
  rw [hf]
  simp only [e1]
  exact ⟨rfl, rfl⟩
theorem Three.take2 (_ : Three x y z t) : takeE 1 [] [⟨1, x, y, t⟩, ⟨2, x, z, t⟩, ⟨3, y, x, t⟩] = .returned (.tuple #[.agg #[.int .u64 1, .int .i64 x, .int .i64 y, .string t], .int .i64 0]) := rfl
end
end Gm
end Go.Proofs.Ytagcddhhlhcoeaa
