/-
  Contracts of the functions of num that only compute (Zig, Zag, Size, ends, bits.Len64), and of the document's Zig and Zag.
-/
import Derived.Test.YtfhengihdlojmaaChecked
import Derived.Test.YtfhengihdlojmaaNumMath
import Derived.WalkKit
import Derived.WalkSpells
import Derived.WalkLawsBesides
import Derived.Lib.Hide
import Derived.Lib.Strings
import Derived.Lib.Slices
import Derived.Lib.Small
import Derived.Lib.Walk
namespace Go.Proofs.Ytfhengihdlojmaa
open Go.RowKit

/-- An integer answer, by its number. -/
theorem retI {k : IntKind} {m n : Int} (h : m = n) : Ending.returned (.int k m) = .returned (.int k n) := by subst h; rfl

namespace Num

theorem zig_bits (x : Int) (h0 : -9223372036854775808 ≤ x) (h1 : x ≤ 9223372036854775807) :
    bits BinOp.xor IntKind.u64 (IntKind.u64.wrap (wrap64 (x * 2))) (IntKind.u64.wrap (x / 9223372036854775808)) = (Lib.zigzag x : Nat) := by
  by_cases hx : 0 ≤ x
  · have e1 : IntKind.u64.wrap (wrap64 (x * 2)) = (((2 * x).toNat : Nat) : Int) := by
      rw [IntKind.wrap_u64]; unfold wrap64; omega
    have e2 : IntKind.u64.wrap (x / 9223372036854775808) = ((0 : Nat) : Int) := by
      rw [IntKind.wrap_u64]; omega
    rw [e1, e2, bits_xor_u64_nat _ _ (by omega) (by omega), Nat.xor_zero]
    unfold Lib.zigzag
    rw [if_pos hx]
  · have e1 : IntKind.u64.wrap (wrap64 (x * 2)) = (((2 * x + 18446744073709551616).toNat : Nat) : Int) := by
      rw [IntKind.wrap_u64]; unfold wrap64; omega
    have e2 : IntKind.u64.wrap (x / 9223372036854775808) = ((2 ^ 64 - 1 : Nat) : Int) := by
      rw [IntKind.wrap_u64]; omega
    rw [e1, e2, bits_xor_u64_nat _ _ (by omega) (by decide), Nat.xor_comm, Lib.xor_ones64 _ (by omega)]
    unfold Lib.zigzag
    rw [if_neg hx]
    omega

theorem zag_bits (u : Int) (h0 : 0 ≤ u) (h1 : u ≤ 18446744073709551615) :
    bits BinOp.xor IntKind.i64 (u / 2) (wrap64 (-wrap64 (bits BinOp.and IntKind.u64 u 1))) = zag u.toNat := by
  rw [Lib.u64_and1 u h0 (by omega)]
  unfold zag
  have e : u / 2 = ((u.toNat / 2 : Nat) : Int) := by omega
  by_cases hp : u.toNat % 2 = 0
  · rw [if_pos hp]
    have e1 : wrap64 (-wrap64 (u % 2)) = 0 := by unfold wrap64; omega
    rw [e1, e]
    show IntKind.i64.wrap ((BitVec.ofInt 64 ((u.toNat / 2 : Nat) : Int) ^^^ BitVec.ofInt 64 0).toNat : Int) = _
    have h2 : (BitVec.ofInt 64 ((u.toNat / 2 : Nat) : Int)).toNat = u.toNat / 2 := by
      rw [BitVec.ofInt_natCast, BitVec.toNat_ofNat]; exact Nat.mod_eq_of_lt (by omega)
    have h3 : (BitVec.ofInt 64 0).toNat = 0 := by decide
    rw [BitVec.toNat_xor, h2, h3, Nat.xor_zero]
    exact IntWalk.i64_in _ (by omega)
  · rw [if_neg hp]
    have e1 : wrap64 (-wrap64 (u % 2)) = -1 := by unfold wrap64; omega
    rw [e1, xor_comm_bits, e]
    exact Lib.i64_not _ (by omega)

end Num

theorem Num.len_fin (y a : Int) (n : Nat) (h0 : 0 ≤ y) (h1 : y ≤ 255) (ha : 0 ≤ a) (hb : a ≤ 56) (hn : (Lib.bitLen n : Int) = a + Lib.bitLen y.toNat) : wrap64 (a + wrap64 (Lib.len8 y)) = Lib.bitLen n := by
  have e := Lib.len8_eq ⟨y.toNat, by omega⟩
  have l := Lib.bitLen_le8 ⟨y.toNat, by omega⟩
  simp only [Int.toNat_of_nonneg h0] at e
  simp only at l
  rw [e]
  unfold wrap64
  omega

theorem Num.len_fin0 (y : Int) (n : Nat) (h0 : 0 ≤ y) (h1 : y ≤ 255) (hn : (Lib.bitLen n : Int) = Lib.bitLen y.toNat) : wrap64 (wrap64 (Lib.len8 y)) = Lib.bitLen n := by
  have e := Lib.len8_eq ⟨y.toNat, by omega⟩
  have l := Lib.bitLen_le8 ⟨y.toNat, by omega⟩
  simp only [Int.toNat_of_nonneg h0] at e
  simp only at l
  rw [e]
  unfold wrap64
  omega

set_option maxRecDepth 100000 in
set_option maxHeartbeats 2000000 in
/-- bits.Len64: how many bits a number takes. -/
theorem len64_any (x : Int) (w : World) (h0 : 0 ≤ x) (h1 : x ≤ 18446744073709551615) :
    Calls Try.prog 57 #[.int .u64 x] w fun e w' => e = .returned (.int .i64 (Lib.bitLen x.toNat)) ∧ w = w' := by
  by_cases c32 : x < 4294967296
  · by_cases c16 : x < 65536
    · by_cases c8 : x < 256
      · have hi := fun w => Lib.run_index_len8tab (P := Try.prog) w 9 .u8 (x) Try.underlying9 (by omega) (by omega)
        go_enter Try.func57, Try.ntmps57
        go_wp2
        go_ret
        exact ⟨retI (Num.len_fin0 _ _ (by omega) (by omega) rfl), rfl⟩
      · have hi := fun w => Lib.run_index_len8tab (P := Try.prog) w 9 .u8 (x / 256) Try.underlying9 (by omega) (by omega)
        have HB : Hid ((Lib.bitLen x.toNat : Int) = 8 + Lib.bitLen (x / 256).toNat) := by
          have s := Lib.bitLen_shift8 x.toNat (by omega) (by omega)
          have e : (x / 256).toNat = x.toNat / 256 := by omega
          show (_ : Int) = _
          rw [e, s]; omega
        go_enter Try.func57, Try.ntmps57
        go_wp2
        go_ret
        exact ⟨retI (Num.len_fin _ _ _ (by omega) (by omega) (by omega) (by omega) HB.out), rfl⟩
    · by_cases c8 : x / 65536 < 256
      · have hi := fun w => Lib.run_index_len8tab (P := Try.prog) w 9 .u8 (x / 65536) Try.underlying9 (by omega) (by omega)
        have HB : Hid ((Lib.bitLen x.toNat : Int) = 16 + Lib.bitLen (x / 65536).toNat) := by
          have s := Lib.bitLen_shift16 x.toNat (by omega) (by omega)
          have e : (x / 65536).toNat = x.toNat / 65536 := by omega
          show (_ : Int) = _
          rw [e, s]; omega
        go_enter Try.func57, Try.ntmps57
        go_wp2
        go_ret
        exact ⟨retI (Num.len_fin _ _ _ (by omega) (by omega) (by omega) (by omega) HB.out), rfl⟩
      · have hi := fun w => Lib.run_index_len8tab (P := Try.prog) w 9 .u8 (x / 65536 / 256) Try.underlying9 (by omega) (by omega)
        have HB : Hid ((Lib.bitLen x.toNat : Int) = 24 + Lib.bitLen (x / 65536 / 256).toNat) := by
          have s := Lib.bitLen_shift24 x.toNat (by omega) (by omega)
          have e : (x / 65536 / 256).toNat = x.toNat / 16777216 := by omega
          show (_ : Int) = _
          rw [e, s]; omega
        go_enter Try.func57, Try.ntmps57
        go_wp2
        go_ret
        exact ⟨retI (Num.len_fin _ _ _ (by omega) (by omega) (by omega) (by omega) HB.out), rfl⟩
  · by_cases c16 : x / 4294967296 < 65536
    · by_cases c8 : x / 4294967296 < 256
      · have hi := fun w => Lib.run_index_len8tab (P := Try.prog) w 9 .u8 (x / 4294967296) Try.underlying9 (by omega) (by omega)
        have HB : Hid ((Lib.bitLen x.toNat : Int) = 32 + Lib.bitLen (x / 4294967296).toNat) := by
          have s := Lib.bitLen_shift32 x.toNat (by omega) (by omega)
          have e : (x / 4294967296).toNat = x.toNat / 4294967296 := by omega
          show (_ : Int) = _
          rw [e, s]; omega
        go_enter Try.func57, Try.ntmps57
        go_wp2
        go_ret
        exact ⟨retI (Num.len_fin _ _ _ (by omega) (by omega) (by omega) (by omega) HB.out), rfl⟩
      · have hi := fun w => Lib.run_index_len8tab (P := Try.prog) w 9 .u8 (x / 4294967296 / 256) Try.underlying9 (by omega) (by omega)
        have HB : Hid ((Lib.bitLen x.toNat : Int) = 40 + Lib.bitLen (x / 4294967296 / 256).toNat) := by
          have s := Lib.bitLen_shift40 x.toNat (by omega) (by omega)
          have e : (x / 4294967296 / 256).toNat = x.toNat / 1099511627776 := by omega
          show (_ : Int) = _
          rw [e, s]; omega
        go_enter Try.func57, Try.ntmps57
        go_wp2
        go_ret
        exact ⟨retI (Num.len_fin _ _ _ (by omega) (by omega) (by omega) (by omega) HB.out), rfl⟩
    · by_cases c8 : x / 4294967296 / 65536 < 256
      · have hi := fun w => Lib.run_index_len8tab (P := Try.prog) w 9 .u8 (x / 4294967296 / 65536) Try.underlying9 (by omega) (by omega)
        have HB : Hid ((Lib.bitLen x.toNat : Int) = 48 + Lib.bitLen (x / 4294967296 / 65536).toNat) := by
          have s := Lib.bitLen_shift48 x.toNat (by omega) (by omega)
          have e : (x / 4294967296 / 65536).toNat = x.toNat / 281474976710656 := by omega
          show (_ : Int) = _
          rw [e, s]; omega
        go_enter Try.func57, Try.ntmps57
        go_wp2
        go_ret
        exact ⟨retI (Num.len_fin _ _ _ (by omega) (by omega) (by omega) (by omega) HB.out), rfl⟩
      · have hi := fun w => Lib.run_index_len8tab (P := Try.prog) w 9 .u8 (x / 4294967296 / 65536 / 256) Try.underlying9 (by omega) (by omega)
        have HB : Hid ((Lib.bitLen x.toNat : Int) = 56 + Lib.bitLen (x / 4294967296 / 65536 / 256).toNat) := by
          have s := Lib.bitLen_shift56 x.toNat (by omega) (by omega)
          have e : (x / 4294967296 / 65536 / 256).toNat = x.toNat / 72057594037927936 := by omega
          show (_ : Int) = _
          rw [e, s]; omega
        go_enter Try.func57, Try.ntmps57
        go_wp2
        go_ret
        exact ⟨retI (Num.len_fin _ _ _ (by omega) (by omega) (by omega) (by omega) HB.out), rfl⟩

theorem retB {a b : Bool} (h : a = b) : Ending.returned (.bool a) = .returned (.bool b) := by rw [h]

end Go.Proofs.Ytfhengihdlojmaa
