/-
  Contracts of sum.Bytes, sum.Is and of layer 2's alive.
-/
import Derived.Test.YtnpblfcmlcoenaaSumO
namespace Go.Proofs.Ytnpblfcmlcoenaa
open Go.RowKit

namespace Crc
/-- The four bytes of a sum, the lowest first. -/
def four (a : Nat) : ByteArray := ⟨#[UInt8.ofNat (a % 256), UInt8.ofNat (a / 256 % 256), UInt8.ofNat (a / 65536 % 256), UInt8.ofNat (a / 16777216)]⟩
theorem four_nums (a : Nat) (_h : a < 4294967296) : strOfNums [(a : Int) % 256, (a : Int) / 256 % 256, (a : Int) / 65536 % 256, (a : Int) / 16777216] = four a := by
  have e1 : ((a : Int) % 256).toNat = a % 256 := by omega
  have e2 : ((a : Int) / 256 % 256).toNat = a / 256 % 256 := by omega
  have e3 : ((a : Int) / 65536 % 256).toNat = a / 65536 % 256 := by omega
  have e4 : ((a : Int) / 16777216).toNat = a / 16777216 := by omega
  unfold strOfNums four
  simp [e1, e2, e3, e4]
end Crc

theorem four_conv (x y z t : Int) (w : World) :
    (convert 33 9 (.slice (some ⟨w.heap.size, 0, none⟩) 4 4)).run Try.prog (w.alloc (.cells #[.int .u8 x, .int .u8 y, .int .u8 z, .int .u8 t] 5)) =
      .ok (.string (strOfNums [x, y, z, t])) (w.alloc (.cells #[.int .u8 x, .int .u8 y, .int .u8 z, .int .u8 t] 5)) :=
  run_convert_bytes_arg (P := Try.prog) _ 33 5 Try.underlying33 Try.underlying5 w.heap.size 0 4 4 [x, y, z, t] rfl
    (fun i hi => by
      rw [World.cell?_alloc_at _ _ _ _ rfl]
      have : i = 0 ∨ i = 1 ∨ i = 2 ∨ i = 3 := by omega
      rcases this with rfl | rfl | rfl | rfl <;> rfl) 9 Try.underlying9

set_option maxRecDepth 20000 in
set_option maxHeartbeats 1000000 in
theorem bytes_any (a : Nat) (w : World) (ha : a < 4294967296) :
    Calls Try.prog 12 #[.int .u32 a] w fun e w' => e = .returned (.string (Crc.four a)) ∧ Below w.heap.size w w' := by
  go_enter Try.func12, Try.ntmps12
  have hc := four_conv ((a : Int) % 256) ((a : Int) / 256 % 256) ((a : Int) / 65536 % 256) ((a : Int) / 16777216) w
  go_wp2
  rw [Crc.four_nums a ha]
  go_ret
  exact ⟨rfl, (Below.refl _ _).alloc (Nat.le_refl _) _⟩

set_option maxHeartbeats 400000 in
theorem is_any (s b : ByteArray) (w : World) (hs : s.size ≤ maxLen) :
    Calls Try.prog 14 #[.string s, .string b] w fun e w' => e = .returned (.bool (b.toList == (Crc.four (Crc.on 0 s.data.toList)).toList)) ∧ Below w.heap.size w w' := by
  have hl := Crc.on_lt s.data.toList (a := 0) (by omega)
  go_enter Try.func14, Try.ntmps14
  go_wp2_with fail
  refine (of_any s _ hs).mono ?_
  rintro e w1 ⟨rfl, hb1⟩
  go_wp2_with fail
  refine (bytes_any _ _ hl).mono ?_
  rintro e w2 ⟨rfl, hb2⟩
  go_wp2_with fail
  go_ret
  exact ⟨rfl, hb1.trans (hb2.mono hb1.size)⟩

theorem Crc.s5 : Crc.on 0 (⟨#[49, 50, 51, 52, 53]⟩ : ByteArray).data.toList = 416359221 := by decide +kernel
theorem Crc.s4 : Crc.on 0 (⟨#[54, 55, 56, 57]⟩ : ByteArray).data.toList = 3263061426 := by decide +kernel
theorem Crc.s0 : Crc.on 0 (⟨#[]⟩ : ByteArray).data.toList = 0 := by decide +kernel
theorem Crc.s9 : Crc.on 0 (⟨#[49, 50, 51, 52, 53, 54, 55, 56, 57]⟩ : ByteArray).data.toList = 3808858755 := by decide +kernel
theorem Crc.s54 : Crc.on 416359221 (⟨#[54, 55, 56, 57]⟩ : ByteArray).data.toList = 3808858755 := by decide +kernel
theorem Crc.j4 : Crc.join 416359221 3263061426 4 = 3808858755 := by decide +kernel
theorem Crc.f4 : Crc.four 16909060 = ⟨#[4, 3, 2, 1]⟩ := by decide +kernel
theorem Crc.f9 : ((⟨#[131, 146, 6, 227]⟩ : ByteArray).toList == (Crc.four 3808858755).toList) = true := by decide +kernel
theorem Crc.f8 : ((⟨#[131, 146, 6]⟩ : ByteArray).toList == (Crc.four 3808858755).toList) = false := by decide +kernel

set_option maxRecDepth 20000 in
set_option maxHeartbeats 1000000 in
theorem alive_any (w : World) :
    Calls Try.prog 7 #[] w fun e w' => e = .returned (.bool true) ∧ Below w.heap.size w w' := by
  go_enter Try.func7, Try.ntmps7
  go_wp2_with fail
  refine (of_any _ _ (by decide)).mono ?_
  rintro e w1 ⟨rfl, hb1⟩
  rw [Crc.s5]
  go_wp2_with fail
  refine (of_any _ _ (by decide)).mono ?_
  rintro e w2 ⟨rfl, hb2⟩
  rw [Crc.s4]
  go_wp2_with fail
  refine (of_any _ _ (by decide)).mono ?_
  rintro e w3 ⟨rfl, hb3⟩
  rw [Crc.s0]
  go_wp2_with fail
  refine (of_any _ _ (by decide)).mono ?_
  rintro e w4 ⟨rfl, hb4⟩
  rw [Crc.s9]
  go_wp2_with fail
  refine (on_any 416359221 _ _ (by omega) (by decide)).mono ?_
  rintro e w5 ⟨rfl, hb5⟩
  rw [Crc.s54]
  go_wp2_with fail
  refine (join_any 416359221 3263061426 4 _ (by omega) (by omega) (by omega)).mono ?_
  rintro e w' ⟨rfl, rfl⟩
  rw [Crc.j4]
  go_wp2_with fail
  refine (join_neg _ _ _ _ (by omega)).mono ?_
  rintro e w' ⟨rfl, rfl⟩
  go_wp2_with fail
  refine (bytes_any 16909060 _ (by omega)).mono ?_
  rintro e w6 ⟨rfl, hb6⟩
  rw [Crc.f4]
  go_wp2_with fail
  refine (is_any _ _ _ (by decide)).mono ?_
  rintro e w7 ⟨rfl, hb7⟩
  rw [Crc.s9, Crc.f9]
  go_wp2_with fail
  refine (is_any _ _ _ (by decide)).mono ?_
  rintro e w8 ⟨rfl, hb8⟩
  rw [Crc.s9, Crc.f8]
  go_wp2_with fail
  go_ret
  have s1 := hb1.size
  have s2 := hb2.size
  have s3 := hb3.size
  have s4 := hb4.size
  have s5 := hb5.size
  have s6 := hb6.size
  have s7 := hb7.size
  exact ⟨rfl, (((((((hb1.trans (hb2.mono (by omega))).trans (hb3.mono (by omega))).trans (hb4.mono (by omega))).trans (hb5.mono (by omega))).trans (hb6.mono (by omega))).trans (hb7.mono (by omega))).trans (hb8.mono (by omega)))⟩
end Go.Proofs.Ytnpblfcmlcoenaa
