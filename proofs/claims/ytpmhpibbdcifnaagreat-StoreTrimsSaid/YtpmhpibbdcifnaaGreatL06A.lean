/-
  The contract of layer 6's 'alive': it is true.
-/
import Derived.Test.YtpmhpibbdcifnaaGreatLowPbE
import Derived.Test.YtpmhpibbdcifnaaGreatLowBkT
namespace Go.Proofs.YtpmhpibbdcifnaaGreat
open Go.RowKit
attribute [local go_sem ↓] Go.wp_at_zero Go.wp_at_succ

namespace Book
def ab : List ByteArray := [⟨#[97]⟩, ⟨#[98]⟩]
def cc : List ByteArray := [⟨#[99]⟩]
def zz : List ByteArray := [Sec.zB 600]
theorem raw_small {x : List UInt8} (h : x.length = 1) : (Frame.raw 1 x).length ≤ 17 := by
  have := Lib.uvarint_length64 (x := x.length) (by omega)
  rw [Frame.raw_length]
  omega
theorem ab_len : (frb ab).length ≤ 34 := by
  have e : frb ab = Frame.raw 1 [97] ++ (Frame.raw 1 [98] ++ []) := rfl
  have h1 := raw_small (x := [97]) rfl
  have h2 := raw_small (x := [98]) rfl
  rw [e, List.append_nil, List.length_append]
  omega
theorem cc_len : (frb cc).length ≤ 17 := by
  have e : frb cc = Frame.raw 1 [99] ++ [] := rfl
  have h1 := raw_small (x := [99]) rfl
  rw [e, List.append_nil]
  exact h1
theorem zz_len : 600 ≤ (frb zz).length := by
  have e : frb zz = Frame.raw 1 (List.replicate 600 0) ++ [] := rfl
  rw [e, List.append_nil, Frame.raw_length, List.length_replicate]
  omega
theorem ab_max : ∀ x ∈ ab, x.size ≤ maxLen := fun x hx => by
  unfold ab at hx
  rcases List.mem_cons.1 hx with rfl | hx
  · show (1 : Nat) ≤ maxLen; unfold maxLen; omega
  · rw [List.mem_singleton.1 hx]; show (1 : Nat) ≤ maxLen; unfold maxLen; omega
theorem cc_max : ∀ x ∈ cc, x.size ≤ maxLen := fun x hx => by
  rw [List.mem_singleton.1 hx]; show (1 : Nat) ≤ maxLen; unfold maxLen; omega
theorem zz_max : ∀ x ∈ zz, x.size ≤ maxLen := fun x hx => by
  rw [List.mem_singleton.1 hx, Sec.zB_size]; unfold maxLen; omega
theorem ab_long : long ab = false := rfl
theorem cc_long : long cc = false := rfl
theorem zz_long : long zz = false := by
  unfold long zz
  simp [Sec.zB_size]
theorem ab_frs : frb ab = frs [[97], [98]] := rfl
theorem one_lies (w : World) (x : ByteArray) : Lies (w.alloc (.cells #[.string x] 9)) (w.alloc (.cells #[.string x] 9)).heap.size (some ⟨w.heap.size, 0, none⟩) (tcells [x]) :=
  lies_one _ _ _ (cell_of_row _ _ 0 _ _ _ (heap_alloc_new w (.cells #[.string x] 9))) (by simp)
theorem two_lies (w : World) (x y : ByteArray) : Lies (w.alloc (.cells #[.string x, .string y] 9)) (w.alloc (.cells #[.string x, .string y] 9)).heap.size (some ⟨w.heap.size, 0, none⟩) (tcells [x, y]) :=
  lies_two _ _ _ _ (cell_of_row _ _ 0 _ _ _ (heap_alloc_new w (.cells #[.string x, .string y] 9))) (cell_of_row _ _ 1 _ _ _ (heap_alloc_new w (.cells #[.string x, .string y] 9))) (by simp)
end Book

end Go.Proofs.YtpmhpibbdcifnaaGreat
