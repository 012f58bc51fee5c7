/-
  Contracts of wire's Reader.
  The contract of wire's next, by which each call takes a number.
  Contracts of the closures that tell a number's fault: Uint's, Int's, Count's, Tag's.
  Contracts of the Reader's calls: Uint, Int, Count, Text, Tag, Bool, End.
-/
import Derived.Test.YtepnofklmdofmaaGreatDoorLowWireW
import Derived.Test.YtepnofklmdofmaaGreatDoorLowNum
import Derived.BigQuiet
section
namespace Go.Proofs.YtepnofklmdofmaaGreatDoor
open Go.RowKit

namespace Wire
section
variable {w w' : World} {B : Nat} {s : ByteArray} {e : Nat}
end

theorem grown_trans {a b c : World} {row : Option Nat} (h : a.grownBy b row) (k : b.grownBy c row) : a.grownBy c row :=
  ⟨k.os.trans h.os, k.tape.trans h.tape, k.output.trans h.output, Nat.le_trans h.size k.size, fun i hi hne => (k.block i (by have := h.size; omega) hne).trans (h.block i hi hne)⟩
theorem grown_refl (w : World) (row : Option Nat) : w.grownBy w row := ⟨rfl, rfl, rfl, Nat.le_refl _, fun _ _ _ => rfl⟩
theorem grown_set (w : World) (B i : Nat) (u : Value) : w.grownBy (w.setCell ⟨B, i, none⟩ u) (some B) :=
  ⟨rfl, rfl, rfl, by simp [World.setCell], fun k _ hne => Below.heap_setCell _ _ _ _ (by intro h; exact hne (by rw [h]))⟩
theorem grown_drew (w : World) (row : Option Nat) : w.grownBy w.drew row := ⟨rfl, rfl, rfl, Nat.le_refl _, fun _ _ _ => rfl⟩

end Wire

end Go.Proofs.YtepnofklmdofmaaGreatDoor
end

section
namespace Go.Proofs.YtepnofklmdofmaaGreatDoor
open Go.RowKit

theorem zag0 : Num.zag 0 = 0 := by decide
theorem retV {k : IntKind} {a b : Nat} (h : a = b) : Ending.returned (.int k (a : Int)) = .returned (.int k (b : Int)) := by rw [h]

end Go.Proofs.YtepnofklmdofmaaGreatDoor
end

section
namespace Go.Proofs.YtepnofklmdofmaaGreatDoor
open Go.RowKit

namespace Wire
theorem wU_yes {m x b : Nat} (h : m < x) : wU m x b = 9 := by unfold wU; rw [if_pos h]
theorem wU_no {m x b : Nat} (h : ¬ m < x) : wU m x b = 0 := by unfold wU; rw [if_neg h]
theorem wI_yes {l h : Int} {x b : Nat} (c : Num.zag x < l ∨ h < Num.zag x) : wI l h x b = 9 := by unfold wI; rw [if_pos c]
theorem wI_no {l h : Int} {x b : Nat} (c : ¬ (Num.zag x < l ∨ h < Num.zag x)) : wI l h x b = 0 := by unfold wI; rw [if_neg c]
theorem wT_yes {xs : List Nat} {x b : Nat} (c : isOf x xs = true) : wT xs x b = 0 := by unfold wT; rw [c]; rfl
theorem wT_no {xs : List Nat} {x b : Nat} (c : isOf x xs = false) : wT xs x b = 8 := by unfold wT; rw [c]; rfl
theorem wC_long {m : Int} {x b : Nat} (c : m < 0 ∨ m < x) : wC m x b = 4 := by unfold wC; rw [if_pos c]
theorem wC_short {m : Int} {x b : Nat} (c : ¬ (m < 0 ∨ m < x)) (h : b < x) : wC m x b = 10 := by unfold wC; rw [if_neg c, if_pos h]
theorem wC_ok {m : Int} {x b : Nat} (c : ¬ (m < 0 ∨ m < x)) (h : ¬ b < x) : wC m x b = 0 := by unfold wC; rw [if_neg c, if_neg h]
end Wire

theorem retE {a : Int} {b : Nat} (h : b = a) : Ending.returned (.int .i64 a) = .returned (.int .i64 (b : Int)) := by rw [h]

end Go.Proofs.YtepnofklmdofmaaGreatDoor
end

section
namespace Go.Proofs.YtepnofklmdofmaaGreatDoor
open Go.RowKit

theorem app1 (a b c : Value) : #[a, b] ++ #[c] = #[a, b, c] := rfl
theorem app2 (a b c d : Value) : #[a, b] ++ #[c, d] = #[a, b, c, d] := rfl

namespace Wire
theorem grown_trans' {B : Nat} {a b c d : World} (h : a.grownBy b (some B)) (k : b.grownBy c (some B)) (l : Below c.heap.size c d) : a.grownBy d (some B) := grown_trans (grown_trans h k) (grown_of l _)
end Wire

namespace Wire
/-- A text taken from the front: the text, what is left, the fault. -/
def text (m : Int) (s : ByteArray) (f : Nat) : ByteArray × ByteArray × Nat :=
  ((step (wC m) s f).2.1.extract 0 (step (wC m) s f).1, (step (wC m) s f).2.1.extract (step (wC m) s f).1 (step (wC m) s f).2.1.size, (step (wC m) s f).2.2)
theorem extract00 (s : ByteArray) : s.extract 0 0 = ⟨#[]⟩ := by
  apply ByteArray.ext
  apply Array.ext'
  rw [Lib.extract_data]; simp
theorem extract_all (s : ByteArray) : s.extract 0 s.size = s := by
  apply ByteArray.ext
  apply Array.ext'
  rw [Lib.extract_data, Nat.sub_zero, List.drop_zero, List.take_of_length_le (by simp)]
end Wire

theorem lies_new (w : World) (cs : Array Value) (T : TypeId) (xs : List Value) (h : cs.toList = xs) :
    Lies (w.alloc (.cells cs T)) (w.alloc (.cells cs T)).heap.size (some ⟨w.heap.size, 0, none⟩) xs := fun _ => by
  refine ⟨_, rfl, by simp, fun j u hu => ?_⟩
  have e : (⟨w.heap.size, 0, none⟩ : Addr).add j = ⟨w.heap.size, j, none⟩ := by unfold Addr.add; split <;> simp_all
  rw [e, World.cell?_alloc_at _ _ _ _ rfl, ← hu, ← h]
  simp

end Go.Proofs.YtepnofklmdofmaaGreatDoor
end
