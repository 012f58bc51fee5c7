/-
  Contracts of wire's Reader.
-/
import Derived.Test.YtndgafjnifkghaaDoorWireB
import Derived.Test.YtndgafjnifkghaaDoorNumR
import Derived.BigQuiet
namespace Go.Proofs.YtndgafjnifkghaaDoor
open Go.RowKit

namespace Wire
section
variable {w w' : World} {B : Nat} {s : ByteArray} {e : Nat}
end

theorem grown_trans {a b c : World} {row : Option Nat} (h : a.grownBy b row) (k : b.grownBy c row) : a.grownBy c row :=
  ⟨k.os.trans h.os, k.tape.trans h.tape, k.output.trans h.output, Nat.le_trans h.size k.size, fun i hi hne => (k.block i (by have := h.size; omega) hne).trans (h.block i hi hne)⟩
theorem grown_refl (w : World) (row : Option Nat) : w.grownBy w row := ⟨rfl, rfl, rfl, Nat.le_refl _, fun _ _ _ => rfl⟩
theorem grown_set (w : World) (B i : Nat) (u : Value) : w.grownBy (w.setCell ⟨B, i, none⟩ u) (some B) :=
  ⟨rfl, rfl, rfl, by simp [World.setCell], fun k _ hne => Below.heap_setCell _ _ _ _ (by intro h; exact hne (by rw [h]))⟩
theorem grown_drew (w : World) (row : Option Nat) : w.grownBy w.drew row := ⟨rfl, rfl, rfl, Nat.le_refl _, fun _ _ _ => rfl⟩

end Wire

end Go.Proofs.YtndgafjnifkghaaDoor
