/-
  Contracts of what wire calls in the library: strings.Builder's WriteString, strings.Clone, slices.Contains at []uint64.
-/
import Derived.Test.YtndgafjnifkghaaDoorChecked
import Derived.Test.YtndgafjnifkghaaDoorOpen
import Derived.Test.YtndgafjnifkghaaDoorShelf
import Derived.Test.YtndgafjnifkghaaDoorNumZ
import Derived.Test.YtndgafjnifkghaaDoorWireM
import Derived.Lib.Builder
import Derived.Lib.AppendStr
import Derived.Laws.Externs
import Derived.BigCall
namespace Go.Proofs.YtndgafjnifkghaaDoor
open Go.RowKit

/-! ### strings.Builder -/
theorem byte_info : (Tryd.prog.info? 5).map (fun i => (i.zero, i.size, i.bytes)) = some (some (.int .u8 0), 1, 1) := by kernel_rfl

theorem grown_of {w w' : World} (hb : Below w.heap.size w w') (row : Option Nat) : w.grownBy w' row := ⟨hb.os, hb.tape, hb.output, hb.size, fun k hk _ => hb.block k hk⟩

/-- A builder stays what it is where new blocks are laid. -/
theorem bld_keep {T e : TypeId} {B b : Nat} {bs : List Value} {w w' : World} (h : Lib.IsBuilder T e B b bs w) (hb : Below w.heap.size w w') : Lib.IsBuilder T e B b bs w' := by
  have key : ∀ p, Lib.BuilderAt T e B b p bs w → Lib.BuilderAt T e B b p bs w' := by
    rintro p ⟨hB, v, hbk, hown, hne⟩
    have hlt : b < w.heap.size := Lib.BuilderAt.lt ⟨hB, v, hbk, hown, hne⟩
    exact ⟨hB, v, (hb.block b hlt).trans hbk, hown.kept (grown_of hb none) (by cases v.ownBlock <;> simp), hne⟩
  rcases h with h | h
  · exact .inl (key _ h)
  · exact .inr (key _ h)

theorem mk_size (l : List UInt8) : (⟨l.toArray⟩ : ByteArray).size = l.length := rfl

/-- What slices.Index comes to, as far as slices.Contains asks. -/
def Found (x : Nat) (xs : List Nat) (w : World) (e : Ending) (w' : World) : Prop := ∃ i : Int, e = .returned (.int .i64 i) ∧ ((0 ≤ i ∧ x ∈ xs) ∨ (i = -1 ∧ x ∉ xs)) ∧ w = w'

end Go.Proofs.YtndgafjnifkghaaDoor
