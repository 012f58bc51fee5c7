/-
  Contracts of the Reader's calls: Uint, Int, Count, Text, Tag, Bool, End.
-/
import Derived.Test.YtndgafjnifkghaaDoorWireC
namespace Go.Proofs.YtndgafjnifkghaaDoor
open Go.RowKit

theorem app1 (a b c : Value) : #[a, b] ++ #[c] = #[a, b, c] := rfl
theorem app2 (a b c d : Value) : #[a, b] ++ #[c, d] = #[a, b, c, d] := rfl

namespace Wire
theorem grown_trans' {B : Nat} {a b c d : World} (h : a.grownBy b (some B)) (k : b.grownBy c (some B)) (l : Below c.heap.size c d) : a.grownBy d (some B) := grown_trans (grown_trans h k) (grown_of l _)
end Wire

namespace Wire
/-- A text taken from the front: the text, what is left, the fault. -/
def text (m : Int) (s : ByteArray) (f : Nat) : ByteArray × ByteArray × Nat :=
  ((step (wC m) s f).2.1.extract 0 (step (wC m) s f).1, (step (wC m) s f).2.1.extract (step (wC m) s f).1 (step (wC m) s f).2.1.size, (step (wC m) s f).2.2)
theorem extract00 (s : ByteArray) : s.extract 0 0 = ⟨#[]⟩ := by
  apply ByteArray.ext
  apply Array.ext'
  rw [Lib.extract_data]; simp
theorem extract_all (s : ByteArray) : s.extract 0 s.size = s := by
  apply ByteArray.ext
  apply Array.ext'
  rw [Lib.extract_data, Nat.sub_zero, List.drop_zero, List.take_of_length_le (by simp)]
end Wire

theorem lies_new (w : World) (cs : Array Value) (T : TypeId) (xs : List Value) (h : cs.toList = xs) :
    Lies (w.alloc (.cells cs T)) (w.alloc (.cells cs T)).heap.size (some ⟨w.heap.size, 0, none⟩) xs := fun _ => by
  refine ⟨_, rfl, by simp, fun j u hu => ?_⟩
  have e : (⟨w.heap.size, 0, none⟩ : Addr).add j = ⟨w.heap.size, j, none⟩ := by unfold Addr.add; split <;> simp_all
  rw [e, World.cell?_alloc_at _ _ _ _ rfl, ← hu, ← h]
  simp

end Go.Proofs.YtndgafjnifkghaaDoor
