/-
  Contracts of wire's Reader.
-/
import Derived.Test.YtndgafjnifkghaaWireB
import Derived.Test.YtndgafjnifkghaaNumR
import Derived.BigQuiet
namespace Go.Proofs.Ytndgafjnifkghaa
open Go.RowKit

namespace Wire
/-- A reader at block B that New made: the bytes that are left, the fault. -/
def RD (B : Nat) (s : ByteArray) (e : Nat) (w : World) : Prop := w.heap[B]? = some (.cells #[.bool true, .string s, .int .i64 (e : Int)] 89 (0, 0))

section
variable {w w' : World} {B : Nat} {s : ByteArray} {e : Nat}
theorem RD.lt (h : RD B s e w) : B < w.heap.size := by
  rcases Nat.lt_or_ge B w.heap.size with hlt | hge
  · exact hlt
  · unfold RD at h; rw [Array.getElem?_eq_none hge] at h; cases h
theorem RD.c0 (h : RD B s e w) : w.cell? ⟨B, 0, none⟩ = some (.bool true) := by rw [Lib.cell_of_heap h]; rfl
theorem RD.c1 (h : RD B s e w) : w.cell? ⟨B, 1, none⟩ = some (.string s) := by rw [Lib.cell_of_heap h]; rfl
theorem RD.c2 (h : RD B s e w) : w.cell? ⟨B, 2, none⟩ = some (.int .i64 (e : Int)) := by rw [Lib.cell_of_heap h]; rfl
theorem RD.f (h : RD B s e w) (i : Nat) : w.frozen? ⟨B, i, none⟩ = false := Lib.frozen_of_heap h i
theorem RD.set1 (h : RD B s e w) (t : ByteArray) : RD B t e (w.setCell ⟨B, 1, none⟩ (.string t)) := by
  unfold RD at h ⊢
  simp [World.setCell, Array.getElem?_modify, h]
theorem RD.set2 (h : RD B s e w) (g : Nat) : RD B s g (w.setCell ⟨B, 2, none⟩ (.int .i64 (g : Int))) := by
  unfold RD at h ⊢
  simp [World.setCell, Array.getElem?_modify, h]
theorem RD.alloc (h : RD B s e w) (o : Obj) : RD B s e (w.alloc o) := (Below.heap_alloc w o B h.lt).trans h
theorem RD.drew (h : RD B s e w) : RD B s e w.drew := h
theorem RD.below (h : RD B s e w) (hb : Below w.heap.size w w') : RD B s e w' := (hb.block B h.lt).trans h
theorem RD.grown {C : Nat} (h : RD B s e w) (hb : w.grownBy w' (some C)) (hne : B ≠ C) : RD B s e w' := (hb.block B h.lt (by simpa using hne)).trans h
end

theorem grown_trans {a b c : World} {row : Option Nat} (h : a.grownBy b row) (k : b.grownBy c row) : a.grownBy c row :=
  ⟨k.os.trans h.os, k.tape.trans h.tape, k.output.trans h.output, Nat.le_trans h.size k.size, fun i hi hne => (k.block i (by have := h.size; omega) hne).trans (h.block i hi hne)⟩
theorem grown_refl (w : World) (row : Option Nat) : w.grownBy w row := ⟨rfl, rfl, rfl, Nat.le_refl _, fun _ _ _ => rfl⟩
theorem grown_set (w : World) (B i : Nat) (u : Value) : w.grownBy (w.setCell ⟨B, i, none⟩ u) (some B) :=
  ⟨rfl, rfl, rfl, by simp [World.setCell], fun k _ hne => Below.heap_setCell _ _ _ _ (by intro h; exact hne (by rw [h]))⟩
theorem grown_drew (w : World) (row : Option Nat) : w.grownBy w.drew row := ⟨rfl, rfl, rfl, Nat.le_refl _, fun _ _ _ => rfl⟩

/-- Behind a call: what is left, the fault; and nothing else of what was there has turned. -/
def After (B : Nat) (s : ByteArray) (e : Nat) (w w' : World) : Prop := RD B s e w' ∧ w.grownBy w' (some B)
end Wire

set_option maxHeartbeats 400000 in
theorem ris_any (B : Nat) (s : ByteArray) (f : Nat) (w : World) (h : Wire.RD B s f w) :
    Calls Try.prog 55 #[.pointer (some ⟨B, 0, none⟩)] w fun e w' => e = .returned (.bool true) ∧ w = w' := by
  have c0 := h.c0
  have H := Lib.hid h
  clear h
  go_enter Try.func55, Try.ntmps55
  go_wp2
  go_ret
  exact ⟨rfl, rfl⟩

set_option maxHeartbeats 400000 in
theorem err_any (B : Nat) (s : ByteArray) (f : Nat) (w : World) (h : Wire.RD B s f w) :
    Calls Try.prog 30 #[.pointer (some ⟨B, 0, none⟩)] w fun e w' => e = .returned (.int .i64 (f : Int)) ∧ w = w' := by
  have c2 := h.c2
  have H := Lib.hid h
  clear h
  go_enter Try.func30, Try.ntmps30
  go_wp2_with fail
  refine (ris_any B s f _ H.out).mono ?_
  rintro e w' ⟨rfl, rfl⟩
  go_wp2_with fail
  go_ret
  exact ⟨rfl, rfl⟩

set_option maxHeartbeats 400000 in
theorem rleft_any (B : Nat) (s : ByteArray) (f : Nat) (w : World) (h : Wire.RD B s f w) :
    Calls Try.prog 58 #[.pointer (some ⟨B, 0, none⟩)] w fun e w' => e = .returned (.int .i64 (s.size : Int)) ∧ w = w' := by
  have c1 := h.c1
  have H := Lib.hid h
  clear h
  go_enter Try.func58, Try.ntmps58
  go_wp2_with fail
  refine (ris_any B s f _ H.out).mono ?_
  rintro e w' ⟨rfl, rfl⟩
  go_wp2_with fail
  go_ret
  exact ⟨rfl, rfl⟩

set_option maxHeartbeats 400000 in
theorem when_yes (k : Int) (w : World) :
    Calls Try.prog 54 #[.bool true, .int .i64 k] w fun e w' => e = .returned (.int .i64 k) ∧ w = w' := by
  go_enter Try.func54, Try.ntmps54
  go_wp2
  go_ret
  exact ⟨rfl, rfl⟩

set_option maxHeartbeats 400000 in
theorem when_no (k : Int) (w : World) :
    Calls Try.prog 54 #[.bool false, .int .i64 k] w fun e w' => e = .returned (.int .i64 0) ∧ w = w' := by
  go_enter Try.func54, Try.ntmps54
  go_wp2
  go_ret
  exact ⟨rfl, rfl⟩

set_option maxHeartbeats 400000 in
theorem fail_any (B : Nat) (s : ByteArray) (f : Nat) (w : World) (h : Wire.RD B s f w) (g : Nat) :
    Calls Try.prog 59 #[.pointer (some ⟨B, 0, none⟩), .int .i64 (g : Int)] w fun e w' => e = .returned (.tuple #[]) ∧ Wire.After B s g w w' := by
  have c2 := h.c2
  have f2 := h.f 2
  have H := Lib.hid h
  clear h
  go_enter Try.func59, Try.ntmps59
  go_wp2
  go_end0
  exact ⟨rfl, H.out.set2 g, Wire.grown_set _ _ _ _⟩

set_option maxHeartbeats 400000 in
theorem take_any (B : Nat) (s : ByteArray) (f : Nat) (w : World) (h : Wire.RD B s f w) (n : Nat) (hn : n ≤ s.size) :
    Calls Try.prog 77 #[.pointer (some ⟨B, 0, none⟩), .int .i64 (n : Int)] w fun e w' => e = .returned (.string (s.extract 0 n)) ∧ Wire.After B (s.extract n s.size) f w w' := by
  have c1 := h.c1
  have f1 := h.f 1
  have H := Lib.hid h
  clear h
  go_enter Try.func77, Try.ntmps77
  go_wp2
  go_ret
  exact ⟨rfl, H.out.set1 _, Wire.grown_set _ _ _ _⟩

set_option maxHeartbeats 400000 in
theorem new_any (s : ByteArray) (w : World) :
    Calls Try.prog 28 #[.string s] w fun e w' => e = .returned (.pointer (some ⟨w.heap.size, 0, none⟩)) ∧ Wire.RD w.heap.size s 0 w' ∧ Below w.heap.size w w' := by
  go_enter Try.func28, Try.ntmps28
  go_wp2
  go_ret
  exact ⟨rfl, heap_alloc_new w _, (Below.refl _ _).alloc (Nat.le_refl _) _⟩
end Go.Proofs.Ytndgafjnifkghaa
