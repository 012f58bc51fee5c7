/-
  The keys of gram's maps.
-/
import Derived.Test.YtfhengihdlojmaaGmE
import Derived.Test.YtfhengihdlojmaaPgMap
namespace Go.Proofs.Ytfhengihdlojmaa
open Go.RowKit

namespace Gm
/-! The keys that are asked for here. -/
theorem key64 : Maps.Keyed Try.prog 28 := Maps.int_keyed Try.underlying28
theorem isKey64 {a : Int} (h0 : 0 ≤ a) (h1 : a < 18446744073709551616) : IsKey 28 (.int .u64 a) :=
  ⟨_, Maps.keyOf_int_mk Try.underlying28 (by simp [Lit.wf, IntKind.min, IntKind.max, IntKind.bits, IntKind.signed]; omega)⟩
def wayV (x : Wy) : Value := .agg #[.int .i64 x.1, .int .i64 x.2]
theorem wideWay : (match Try.prog.underlying 69 with | some (.array _ _) | some (.struct _) => true | _ => false) = true := by kernel_rfl
theorem kTypeWay : Try.prog.keyTypeAt 2 69 = true := by kernel_rfl
theorem tiledWay : Try.prog.tiled 2 69 = true := by kernel_rfl
theorem lawWay : WideMaps.KeyLaw Try.prog 69 := by
  have h2 : (2 : Nat) + 1 ≤ 10000 := by decide
  exact deep_law h2 kTypeWay tiledWay (by kernel_rfl)
theorem keyWay : Maps.Keyed Try.prog 69 := Maps.Keyed.of_law lawWay
theorem kTypeWayAll : Try.prog.keyType 69 = true := by kernel_rfl
theorem cellsWay : Try.prog.cellsOf 69 = 2 := by kernel_rfl
theorem cellsInt : Try.prog.cellsOf 3 = 1 := by kernel_rfl
theorem sizeTypes : ∃ m, Try.prog.types.size = m + 1 := ⟨_, rfl⟩
theorem isKeyWay (x : Wy) (h1 : (Lit.int .i64 x.1).wf = true) (h2 : (Lit.int .i64 x.2).wf = true) : IsKey 69 (wayV x) := by
  refine ⟨.string (keyBytes [.int .i64 x.1, .int .i64 x.2]), ?_⟩
  obtain ⟨m, hm⟩ := sizeTypes
  unfold keyOf wayV
  simp only [Try.underlying69]
  rw [if_pos (by simp [kTypeWayAll, Value.formed, Try.underlying69, cellsWay]), hm]
  unfold Program.keyLits
  simp [Try.underlying69, Value.cells, cellsWay, cellsInt, Program.keyLits, Try.underlying3, h1, h2]
end Gm
end Go.Proofs.Ytfhengihdlojmaa
