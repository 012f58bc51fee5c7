/-
  Contracts of the functions of num that only compute (Zig, Zag, Size, ends, bits.Len64), and of the document's Zig and Zag.
  Contracts of num.Uint and num.Int: a number's bytes.
  Contracts of num.Read and num.ReadInt: the number at the front of bytes.
-/
import Derived.Test.YtepnofklmdofmaaGreatDoorChecked
import Derived.Test.YtepnofklmdofmaaGreatDoorNumMath
import Derived.WalkKit
import Derived.WalkSpells
import Derived.WalkLawsBesides
import Derived.Lib.Hide
import Derived.Lib.Strings
import Derived.Lib.Slices
import Derived.Lib.Small
import Derived.Lib.Walk
section
namespace Go.Proofs.YtepnofklmdofmaaGreatDoor
open Go.RowKit

/-- An integer answer, by its number. -/
theorem retI {k : IntKind} {m n : Int} (h : m = n) : Ending.returned (.int k m) = .returned (.int k n) := by subst h; rfl

namespace Num

theorem zig_bits (x : Int) (h0 : -9223372036854775808 ≤ x) (h1 : x ≤ 9223372036854775807) :
    bits BinOp.xor IntKind.u64 (IntKind.u64.wrap (wrap64 (x * 2))) (IntKind.u64.wrap (x / 9223372036854775808)) = (Lib.zigzag x : Nat) := by
  by_cases hx : 0 ≤ x
  · have e1 : IntKind.u64.wrap (wrap64 (x * 2)) = (((2 * x).toNat : Nat) : Int) := by
      rw [IntKind.wrap_u64]; unfold wrap64; omega
    have e2 : IntKind.u64.wrap (x / 9223372036854775808) = ((0 : Nat) : Int) := by
      rw [IntKind.wrap_u64]; omega
    rw [e1, e2, bits_xor_u64_nat _ _ (by omega) (by omega), Nat.xor_zero]
    unfold Lib.zigzag
    rw [if_pos hx]
  · have e1 : IntKind.u64.wrap (wrap64 (x * 2)) = (((2 * x + 18446744073709551616).toNat : Nat) : Int) := by
      rw [IntKind.wrap_u64]; unfold wrap64; omega
    have e2 : IntKind.u64.wrap (x / 9223372036854775808) = ((2 ^ 64 - 1 : Nat) : Int) := by
      rw [IntKind.wrap_u64]; omega
    rw [e1, e2, bits_xor_u64_nat _ _ (by omega) (by decide), Nat.xor_comm, Lib.xor_ones64 _ (by omega)]
    unfold Lib.zigzag
    rw [if_neg hx]
    omega

theorem zag_bits (u : Int) (h0 : 0 ≤ u) (h1 : u ≤ 18446744073709551615) :
    bits BinOp.xor IntKind.i64 (u / 2) (wrap64 (-wrap64 (bits BinOp.and IntKind.u64 u 1))) = zag u.toNat := by
  rw [Lib.u64_and1 u h0 (by omega)]
  unfold zag
  have e : u / 2 = ((u.toNat / 2 : Nat) : Int) := by omega
  by_cases hp : u.toNat % 2 = 0
  · rw [if_pos hp]
    have e1 : wrap64 (-wrap64 (u % 2)) = 0 := by unfold wrap64; omega
    rw [e1, e]
    show IntKind.i64.wrap ((BitVec.ofInt 64 ((u.toNat / 2 : Nat) : Int) ^^^ BitVec.ofInt 64 0).toNat : Int) = _
    have h2 : (BitVec.ofInt 64 ((u.toNat / 2 : Nat) : Int)).toNat = u.toNat / 2 := by
      rw [BitVec.ofInt_natCast, BitVec.toNat_ofNat]; exact Nat.mod_eq_of_lt (by omega)
    have h3 : (BitVec.ofInt 64 0).toNat = 0 := by decide
    rw [BitVec.toNat_xor, h2, h3, Nat.xor_zero]
    exact IntWalk.i64_in _ (by omega)
  · rw [if_neg hp]
    have e1 : wrap64 (-wrap64 (u % 2)) = -1 := by unfold wrap64; omega
    rw [e1, xor_comm_bits, e]
    exact Lib.i64_not _ (by omega)

end Num

theorem Num.len_fin (y a : Int) (n : Nat) (h0 : 0 ≤ y) (h1 : y ≤ 255) (ha : 0 ≤ a) (hb : a ≤ 56) (hn : (Lib.bitLen n : Int) = a + Lib.bitLen y.toNat) : wrap64 (a + wrap64 (Lib.len8 y)) = Lib.bitLen n := by
  have e := Lib.len8_eq ⟨y.toNat, by omega⟩
  have l := Lib.bitLen_le8 ⟨y.toNat, by omega⟩
  simp only [Int.toNat_of_nonneg h0] at e
  simp only at l
  rw [e]
  unfold wrap64
  omega

theorem Num.len_fin0 (y : Int) (n : Nat) (h0 : 0 ≤ y) (h1 : y ≤ 255) (hn : (Lib.bitLen n : Int) = Lib.bitLen y.toNat) : wrap64 (wrap64 (Lib.len8 y)) = Lib.bitLen n := by
  have e := Lib.len8_eq ⟨y.toNat, by omega⟩
  have l := Lib.bitLen_le8 ⟨y.toNat, by omega⟩
  simp only [Int.toNat_of_nonneg h0] at e
  simp only at l
  rw [e]
  unfold wrap64
  omega

set_option maxRecDepth 100000 in
set_option maxHeartbeats 2000000 in
/-- bits.Len64: how many bits a number takes. -/
theorem len64_any (x : Int) (w : World) (h0 : 0 ≤ x) (h1 : x ≤ 18446744073709551615) :
    Calls Tryz.prog 125 #[.int .u64 x] w fun e w' => e = .returned (.int .i64 (Lib.bitLen x.toNat)) ∧ w = w' := by
  by_cases c32 : x < 4294967296
  · by_cases c16 : x < 65536
    · by_cases c8 : x < 256
      · have hi := fun w => Lib.run_index_len8tab (P := Tryz.prog) w 9 .u8 (x) Tryz.underlying9 (by omega) (by omega)
        go_enter Tryz.func125, Tryz.ntmps125
        go_wp2
        go_ret
        exact ⟨retI (Num.len_fin0 _ _ (by omega) (by omega) rfl), rfl⟩
      · have hi := fun w => Lib.run_index_len8tab (P := Tryz.prog) w 9 .u8 (x / 256) Tryz.underlying9 (by omega) (by omega)
        have HB : Hid ((Lib.bitLen x.toNat : Int) = 8 + Lib.bitLen (x / 256).toNat) := by
          have s := Lib.bitLen_shift8 x.toNat (by omega) (by omega)
          have e : (x / 256).toNat = x.toNat / 256 := by omega
          show (_ : Int) = _
          rw [e, s]; omega
        go_enter Tryz.func125, Tryz.ntmps125
        go_wp2
        go_ret
        exact ⟨retI (Num.len_fin _ _ _ (by omega) (by omega) (by omega) (by omega) HB.out), rfl⟩
    · by_cases c8 : x / 65536 < 256
      · have hi := fun w => Lib.run_index_len8tab (P := Tryz.prog) w 9 .u8 (x / 65536) Tryz.underlying9 (by omega) (by omega)
        have HB : Hid ((Lib.bitLen x.toNat : Int) = 16 + Lib.bitLen (x / 65536).toNat) := by
          have s := Lib.bitLen_shift16 x.toNat (by omega) (by omega)
          have e : (x / 65536).toNat = x.toNat / 65536 := by omega
          show (_ : Int) = _
          rw [e, s]; omega
        go_enter Tryz.func125, Tryz.ntmps125
        go_wp2
        go_ret
        exact ⟨retI (Num.len_fin _ _ _ (by omega) (by omega) (by omega) (by omega) HB.out), rfl⟩
      · have hi := fun w => Lib.run_index_len8tab (P := Tryz.prog) w 9 .u8 (x / 65536 / 256) Tryz.underlying9 (by omega) (by omega)
        have HB : Hid ((Lib.bitLen x.toNat : Int) = 24 + Lib.bitLen (x / 65536 / 256).toNat) := by
          have s := Lib.bitLen_shift24 x.toNat (by omega) (by omega)
          have e : (x / 65536 / 256).toNat = x.toNat / 16777216 := by omega
          show (_ : Int) = _
          rw [e, s]; omega
        go_enter Tryz.func125, Tryz.ntmps125
        go_wp2
        go_ret
        exact ⟨retI (Num.len_fin _ _ _ (by omega) (by omega) (by omega) (by omega) HB.out), rfl⟩
  · by_cases c16 : x / 4294967296 < 65536
    · by_cases c8 : x / 4294967296 < 256
      · have hi := fun w => Lib.run_index_len8tab (P := Tryz.prog) w 9 .u8 (x / 4294967296) Tryz.underlying9 (by omega) (by omega)
        have HB : Hid ((Lib.bitLen x.toNat : Int) = 32 + Lib.bitLen (x / 4294967296).toNat) := by
          have s := Lib.bitLen_shift32 x.toNat (by omega) (by omega)
          have e : (x / 4294967296).toNat = x.toNat / 4294967296 := by omega
          show (_ : Int) = _
          rw [e, s]; omega
        go_enter Tryz.func125, Tryz.ntmps125
        go_wp2
        go_ret
        exact ⟨retI (Num.len_fin _ _ _ (by omega) (by omega) (by omega) (by omega) HB.out), rfl⟩
      · have hi := fun w => Lib.run_index_len8tab (P := Tryz.prog) w 9 .u8 (x / 4294967296 / 256) Tryz.underlying9 (by omega) (by omega)
        have HB : Hid ((Lib.bitLen x.toNat : Int) = 40 + Lib.bitLen (x / 4294967296 / 256).toNat) := by
          have s := Lib.bitLen_shift40 x.toNat (by omega) (by omega)
          have e : (x / 4294967296 / 256).toNat = x.toNat / 1099511627776 := by omega
          show (_ : Int) = _
          rw [e, s]; omega
        go_enter Tryz.func125, Tryz.ntmps125
        go_wp2
        go_ret
        exact ⟨retI (Num.len_fin _ _ _ (by omega) (by omega) (by omega) (by omega) HB.out), rfl⟩
    · by_cases c8 : x / 4294967296 / 65536 < 256
      · have hi := fun w => Lib.run_index_len8tab (P := Tryz.prog) w 9 .u8 (x / 4294967296 / 65536) Tryz.underlying9 (by omega) (by omega)
        have HB : Hid ((Lib.bitLen x.toNat : Int) = 48 + Lib.bitLen (x / 4294967296 / 65536).toNat) := by
          have s := Lib.bitLen_shift48 x.toNat (by omega) (by omega)
          have e : (x / 4294967296 / 65536).toNat = x.toNat / 281474976710656 := by omega
          show (_ : Int) = _
          rw [e, s]; omega
        go_enter Tryz.func125, Tryz.ntmps125
        go_wp2
        go_ret
        exact ⟨retI (Num.len_fin _ _ _ (by omega) (by omega) (by omega) (by omega) HB.out), rfl⟩
      · have hi := fun w => Lib.run_index_len8tab (P := Tryz.prog) w 9 .u8 (x / 4294967296 / 65536 / 256) Tryz.underlying9 (by omega) (by omega)
        have HB : Hid ((Lib.bitLen x.toNat : Int) = 56 + Lib.bitLen (x / 4294967296 / 65536 / 256).toNat) := by
          have s := Lib.bitLen_shift56 x.toNat (by omega) (by omega)
          have e : (x / 4294967296 / 65536 / 256).toNat = x.toNat / 72057594037927936 := by omega
          show (_ : Int) = _
          rw [e, s]; omega
        go_enter Tryz.func125, Tryz.ntmps125
        go_wp2
        go_ret
        exact ⟨retI (Num.len_fin _ _ _ (by omega) (by omega) (by omega) (by omega) HB.out), rfl⟩

theorem retB {a b : Bool} (h : a = b) : Ending.returned (.bool a) = .returned (.bool b) := by rw [h]

end Go.Proofs.YtepnofklmdofmaaGreatDoor
end

section
namespace Go.Proofs.YtepnofklmdofmaaGreatDoor
open Go.RowKit

/-- A buffer of ten bytes at the head of block B, the first k of which are those of l. -/
def Num.Buf (B k : Nat) (l : List UInt8) (w : World) : Prop :=
  (∀ j, j < k → w.cell? ⟨B, j, none⟩ = some (.int .u8 ((l[j]?.getD 0).toNat : Int))) ∧ (∀ j, j < 10 → ∃ v, w.cell? ⟨B, j, none⟩ = some v ∧ w.frozen? ⟨B, j, none⟩ = false)

theorem Num.Buf.set {B k : Nat} {l : List UInt8} {w : World} (h : Num.Buf B k l w) (hk : k < 10) (v : Int) (hv : v = ((l[k]?.getD 0).toNat : Int)) :
    Num.Buf B (k + 1) l (w.setCell ⟨B, k, none⟩ (.int .u8 v)) := by
  refine ⟨fun j hj => ?_, fun j hj => ?_⟩
  · by_cases e : j = k
    · subst e
      obtain ⟨u, hu, _⟩ := h.2 j hk
      rw [World.cell?_setCell_same _ _ _ hu, hv]
    · rw [World.cell?_setCell_other _ _ _ _ (by intro hh; injection hh with _ h2 _; exact e h2.symm)]
      exact h.1 j (by omega)
  · obtain ⟨u, hu, hf⟩ := h.2 j hj
    obtain ⟨v', hv'⟩ := cell?_setCell_some (p := ⟨B, k, none⟩) (x := .int .u8 v) hu
    exact ⟨v', hv', by rw [World.frozen?_setCell]; exact hf⟩

/-- A list of bytes, as the numbers that its cells hold. -/
def Num.nums (l : List UInt8) : List Int := l.map fun b => (b.toNat : Int)

theorem Num.strOf_nums (l : List UInt8) : strOfNums (Num.nums l) = ⟨l.toArray⟩ := by
  unfold strOfNums Num.nums
  rw [List.map_map]
  have : ((fun n : Int => UInt8.ofNat n.toNat) ∘ fun b : UInt8 => (b.toNat : Int)) = id := by
    funext b
    simp
  rw [this, List.map_id]

theorem Num.Buf.conv {B k : Nat} {l : List UInt8} {w : World} (h : Num.Buf B k l w) (hk : l.length = k) :
    (convert 193 9 (.slice (some ⟨B, 0, none⟩) k 10)).run Tryz.prog w = .ok (.string ⟨l.toArray⟩) w := by
  have := run_convert_bytes_arg (P := Tryz.prog) w 193 5 Tryz.underlying193 Tryz.underlying5 B 0 k 10 (Num.nums l) (by simpa [Num.nums] using hk)
    (fun i hi => by
      rw [Nat.zero_add, h.1 i hi]
      simp [Num.nums, List.getD, List.getElem?_eq_getElem (show i < l.length by omega)]) 9 Tryz.underlying9
  rw [Num.strOf_nums] at this
  exact this

end Go.Proofs.YtepnofklmdofmaaGreatDoor
end

section
namespace Go.Proofs.YtepnofklmdofmaaGreatDoor
open Go.RowKit

theorem Num.byte_at (s : ByteArray) (k : Nat) (h : k < s.size) : s.data.toList[k]?.getD 0 = s[k] := by
  have h' : k < s.data.toList.length := by simpa using h
  rw [List.getElem?_eq_getElem h', Option.getD_some]
  rfl

theorem retI3 {k1 k2 k3 : IntKind} {a b c a' b' c' : Int} (h1 : a = a') (h2 : b = b') (h3 : c = c') :
    Ending.returned (.tuple #[.int k1 a, .int k2 b, .int k3 c]) = .returned (.tuple #[.int k1 a', .int k2 b', .int k3 c']) := by rw [h1, h2, h3]

/-- The last byte of a number, laid on top of those ahead of it. -/
theorem Num.step_last (s : ByteArray) (k : Nat) (x : Int) (es : k < s.size) (hc : s[k].toNat < 128) (hx : x = (Num.lev (s.data.toList.take k) : Nat)) (hr : Num.rd s.data.toList = (Num.lev (s.data.toList.take (k + 1)), k + 1, 0)) :
    bits BinOp.or IntKind.u64 x (IntKind.u64.wrap ((s[k].toNat : Int) * 2 ^ (7 * k))) = ((Num.lev (s.data.toList.take (k + 1)) : Nat) : Int) := by
  have hb := (Num.rd_bound s.data.toList).2.2.1
  rw [hr] at hb
  simp only [] at hb
  have hl := Num.lev_take_succ s.data.toList k (by simpa using es)
  rw [Num.byte_at s k es, Nat.mod_eq_of_lt hc] at hl
  have hlt := Num.lev_take_lt s.data.toList k
  have e : s[k].toNat * 128 ^ k = 128 ^ k * s[k].toNat := Nat.mul_comm _ _
  rw [hx, Num.or_add _ _ k hlt (by omega) (by omega), hl]

/-- A byte that is not the last one, laid on top of those ahead of it. -/
theorem Num.step_more (s : ByteArray) (k : Nat) (x : Int) (es : k < s.size) (hc : 128 ≤ s[k].toNat) (hk : k ≤ 9) (hx0 : 0 ≤ x) (hx1 : x ≤ 18446744073709551615) (hx : k ≤ 9 → x = (Num.lev (s.data.toList.take k) : Nat)) :
    0 ≤ bits BinOp.or IntKind.u64 x (IntKind.u64.wrap (((s[k].toNat : Int) - 128) % 256 * 2 ^ (7 * k))) ∧
    bits BinOp.or IntKind.u64 x (IntKind.u64.wrap (((s[k].toNat : Int) - 128) % 256 * 2 ^ (7 * k))) ≤ 18446744073709551615 ∧
    (k + 1 ≤ 9 → bits BinOp.or IntKind.u64 x (IntKind.u64.wrap (((s[k].toNat : Int) - 128) % 256 * 2 ^ (7 * k))) = ((Num.lev (s.data.toList.take (k + 1)) : Nat) : Int)) := by
  have hb : s[k].toNat < 256 := UInt8.toNat_lt _
  obtain ⟨m, hm⟩ : ∃ m : Nat, IntKind.u64.wrap (((s[k].toNat : Int) - 128) % 256 * 2 ^ (7 * k)) = (m : Int) ∧ m < 18446744073709551616 := by
    rw [IntKind.wrap_u64]
    exact ⟨((((s[k].toNat : Int) - 128) % 256 * 2 ^ (7 * k)) % 18446744073709551616).toNat, by omega, by omega⟩
  obtain ⟨y, rfl⟩ := Int.eq_ofNat_of_zero_le hx0
  have hr := Num.or_range y m (by omega) hm.2
  rw [← hm.1] at hr
  refine ⟨hr.1, hr.2, fun h9 => ?_⟩
  have hl := Num.lev_take_succ s.data.toList k (by simpa using es)
  rw [Num.byte_at s k es] at hl
  have e : ((s[k].toNat : Int) - 128) % 256 = ((s[k].toNat % 128 : Nat) : Int) := by omega
  have hlt := Num.lev_take_lt s.data.toList k
  have h8 : (128 : Nat) ^ k ≤ 128 ^ 8 := Nat.pow_le_pow_right (by decide) (by omega)
  have h8' : (128 : Nat) ^ 8 = 72057594037927936 := by decide
  rw [h8'] at h8
  have hm2 : s[k].toNat % 128 * 128 ^ k ≤ 127 * 128 ^ k := Nat.mul_le_mul_right _ (by omega)
  rw [hx (by omega), e, Num.or_add _ _ k hlt (by omega) (by omega), hl]

end Go.Proofs.YtepnofklmdofmaaGreatDoor
end
