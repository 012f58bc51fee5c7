/-
  Contracts of sum.Bytes, sum.Is and of layer 2's alive.
-/
import Derived.Test.YtnalpmiinoohoaaSumO
namespace Go.Proofs.Ytnalpmiinoohoaa
open Go.RowKit

namespace Crc
/-- The four bytes of a sum, the lowest first. -/
def four (a : Nat) : ByteArray := ⟨#[UInt8.ofNat (a % 256), UInt8.ofNat (a / 256 % 256), UInt8.ofNat (a / 65536 % 256), UInt8.ofNat (a / 16777216)]⟩
theorem four_nums (a : Nat) (_h : a < 4294967296) : strOfNums [(a : Int) % 256, (a : Int) / 256 % 256, (a : Int) / 65536 % 256, (a : Int) / 16777216] = four a := by
  have e1 : ((a : Int) % 256).toNat = a % 256 := by omega
  have e2 : ((a : Int) / 256 % 256).toNat = a / 256 % 256 := by omega
  have e3 : ((a : Int) / 65536 % 256).toNat = a / 65536 % 256 := by omega
  have e4 : ((a : Int) / 16777216).toNat = a / 16777216 := by omega
  unfold strOfNums four
  simp [e1, e2, e3, e4]
end Crc

theorem four_conv (x y z t : Int) (w : World) :
    (convert 44 9 (.slice (some ⟨w.heap.size, 0, none⟩) 4 4)).run Try.prog (w.alloc (.cells #[.int .u8 x, .int .u8 y, .int .u8 z, .int .u8 t] 5)) =
      .ok (.string (strOfNums [x, y, z, t])) (w.alloc (.cells #[.int .u8 x, .int .u8 y, .int .u8 z, .int .u8 t] 5)) :=
  run_convert_bytes_arg (P := Try.prog) _ 44 5 Try.underlying44 Try.underlying5 w.heap.size 0 4 4 [x, y, z, t] rfl
    (fun i hi => by
      rw [World.cell?_alloc_at _ _ _ _ rfl]
      have : i = 0 ∨ i = 1 ∨ i = 2 ∨ i = 3 := by omega
      rcases this with rfl | rfl | rfl | rfl <;> rfl) 9 Try.underlying9

set_option maxRecDepth 20000 in
set_option maxHeartbeats 1000000 in
theorem bytes_any (a : Nat) (w : World) (ha : a < 4294967296) :
    Calls Try.prog 20 #[.int .u32 a] w fun e w' => e = .returned (.string (Crc.four a)) ∧ Below w.heap.size w w' := by
  go_enter Try.func20, Try.ntmps20
  have hc := four_conv ((a : Int) % 256) ((a : Int) / 256 % 256) ((a : Int) / 65536 % 256) ((a : Int) / 16777216) w
  go_wp2
  rw [Crc.four_nums a ha]
  go_ret
  exact ⟨rfl, (Below.refl _ _).alloc (Nat.le_refl _) _⟩

set_option maxHeartbeats 400000 in
theorem is_any (s b : ByteArray) (w : World) (hs : s.size ≤ maxLen) :
    Calls Try.prog 27 #[.string s, .string b] w fun e w' => e = .returned (.bool (b.toList == (Crc.four (Crc.on 0 s.data.toList)).toList)) ∧ Below w.heap.size w w' := by
  have hl := Crc.on_lt s.data.toList (a := 0) (by omega)
  go_enter Try.func27, Try.ntmps27
  go_wp2_with fail
  refine (of_any s _ hs).mono ?_
  rintro e w1 ⟨rfl, hb1⟩
  go_wp2_with fail
  refine (bytes_any _ _ hl).mono ?_
  rintro e w2 ⟨rfl, hb2⟩
  go_wp2_with fail
  go_ret
  exact ⟨rfl, hb1.trans (hb2.mono hb1.size)⟩
end Go.Proofs.Ytnalpmiinoohoaa
