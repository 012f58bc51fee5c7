/-
  The contract of layer 1's 'alive': it is true.
-/
import Derived.Test.YtjnnopbgbigahaaNumRefR
namespace Go.Proofs.Ytjnnopbgbigahaa
open Go.RowKit

theorem Num.rd_a : Num.rd (⟨#[172, 2, 120]⟩ : ByteArray).data.toList = (300, 2, 0) := by decide +kernel
theorem Num.rd_b : Num.rd (⟨#[128]⟩ : ByteArray).data.toList = (0, 0, 10) := by decide +kernel
theorem Num.rd_c : Num.rd (⟨#[128, 0]⟩ : ByteArray).data.toList = (0, 0, 8) := by decide +kernel
theorem Num.rd_d : Num.rd (⟨#[1]⟩ : ByteArray).data.toList = (1, 1, 0) := by decide +kernel
theorem Num.uv_300 : Lib.uvarint (300 : Int).toNat = [172, 2] := by
  show Lib.uvarint 300 = _
  rw [Lib.uvarint_big (by omega), Lib.uvarint_small (by omega)]; rfl
theorem Num.uv_127 : Lib.uvarint (Lib.zigzag (-64)) = [127] := by
  show Lib.uvarint 127 = _
  rw [Lib.uvarint_small (by omega)]; rfl
theorem Num.uv_128 : (Lib.uvarint (128 : Int).toNat).length = 2 := by
  show (Lib.uvarint 128).length = _
  rw [Lib.uvarint_big (by omega), Lib.uvarint_small (by omega)]; rfl

set_option maxRecDepth 20000 in
set_option maxHeartbeats 1000000 in
theorem alive_any (w : World) :
    Calls Try.prog 16 #[] w fun e w' => e = .returned (.bool true) ∧ Below w.heap.size w w' := by
  go_enter Try.func16, Try.ntmps16
  go_wp2_with fail
  refine (read_any _ _ (by decide)).mono ?_
  rintro e w' ⟨rfl, rfl⟩
  rw [Num.rd_a]
  go_wp2_with fail
  refine (read_any _ _ (by decide)).mono ?_
  rintro e w' ⟨rfl, rfl⟩
  rw [Num.rd_b]
  go_wp2_with fail
  refine (read_any _ _ (by decide)).mono ?_
  rintro e w' ⟨rfl, rfl⟩
  rw [Num.rd_c]
  go_wp2_with fail
  refine (readint_any _ _ (by decide)).mono ?_
  rintro e w' ⟨rfl, rfl⟩
  rw [Num.rd_d]
  go_wp2_with fail
  refine (uint_any _ _ (by omega) (by omega)).mono ?_
  rintro e w1 ⟨rfl, hb1⟩
  rw [Num.uv_300]
  go_wp2_with fail
  refine (int_any _ _ (by omega) (by omega)).mono ?_
  rintro e w2 ⟨rfl, hb2⟩
  rw [Num.uv_127]
  go_wp2_with fail
  refine (size_any _ _ (by omega) (by omega)).mono ?_
  rintro e w' ⟨rfl, rfl⟩
  rw [Num.uv_128]
  go_wp2_with fail
  refine (zig_any _ _ (by omega) (by omega)).mono ?_
  rintro e w' ⟨rfl, rfl⟩
  rw [show Lib.zigzag (-2) = 3 from rfl]
  go_wp2_with fail
  refine (zag_any _ _ (by omega) (by omega)).mono ?_
  rintro e w' ⟨rfl, rfl⟩
  rw [show Num.zag (3 : Int).toNat = -2 from rfl]
  go_wp2_with fail
  go_ret
  exact ⟨rfl, hb1.trans (hb2.mono hb1.size)⟩
end Go.Proofs.Ytjnnopbgbigahaa
