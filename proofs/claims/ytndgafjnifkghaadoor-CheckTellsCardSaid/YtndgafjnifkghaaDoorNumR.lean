/-
  Contracts of num.Read and num.ReadInt: the number at the front of bytes.
-/
import Derived.Test.YtndgafjnifkghaaDoorNumZ
namespace Go.Proofs.YtndgafjnifkghaaDoor
open Go.RowKit

theorem Num.byte_at (s : ByteArray) (k : Nat) (h : k < s.size) : s.data.toList[k]?.getD 0 = s[k] := by
  have h' : k < s.data.toList.length := by simpa using h
  rw [List.getElem?_eq_getElem h', Option.getD_some]
  rfl

theorem retI3 {k1 k2 k3 : IntKind} {a b c a' b' c' : Int} (h1 : a = a') (h2 : b = b') (h3 : c = c') :
    Ending.returned (.tuple #[.int k1 a, .int k2 b, .int k3 c]) = .returned (.tuple #[.int k1 a', .int k2 b', .int k3 c']) := by rw [h1, h2, h3]

/-- The last byte of a number, laid on top of those ahead of it. -/
theorem Num.step_last (s : ByteArray) (k : Nat) (x : Int) (es : k < s.size) (hc : s[k].toNat < 128) (hx : x = (Num.lev (s.data.toList.take k) : Nat)) (hr : Num.rd s.data.toList = (Num.lev (s.data.toList.take (k + 1)), k + 1, 0)) :
    bits BinOp.or IntKind.u64 x (IntKind.u64.wrap ((s[k].toNat : Int) * 2 ^ (7 * k))) = ((Num.lev (s.data.toList.take (k + 1)) : Nat) : Int) := by
  have hb := (Num.rd_bound s.data.toList).2.2.1
  rw [hr] at hb
  simp only [] at hb
  have hl := Num.lev_take_succ s.data.toList k (by simpa using es)
  rw [Num.byte_at s k es, Nat.mod_eq_of_lt hc] at hl
  have hlt := Num.lev_take_lt s.data.toList k
  have e : s[k].toNat * 128 ^ k = 128 ^ k * s[k].toNat := Nat.mul_comm _ _
  rw [hx, Num.or_add _ _ k hlt (by omega) (by omega), hl]

/-- A byte that is not the last one, laid on top of those ahead of it. -/
theorem Num.step_more (s : ByteArray) (k : Nat) (x : Int) (es : k < s.size) (hc : 128 ≤ s[k].toNat) (hk : k ≤ 9) (hx0 : 0 ≤ x) (hx1 : x ≤ 18446744073709551615) (hx : k ≤ 9 → x = (Num.lev (s.data.toList.take k) : Nat)) :
    0 ≤ bits BinOp.or IntKind.u64 x (IntKind.u64.wrap (((s[k].toNat : Int) - 128) % 256 * 2 ^ (7 * k))) ∧
    bits BinOp.or IntKind.u64 x (IntKind.u64.wrap (((s[k].toNat : Int) - 128) % 256 * 2 ^ (7 * k))) ≤ 18446744073709551615 ∧
    (k + 1 ≤ 9 → bits BinOp.or IntKind.u64 x (IntKind.u64.wrap (((s[k].toNat : Int) - 128) % 256 * 2 ^ (7 * k))) = ((Num.lev (s.data.toList.take (k + 1)) : Nat) : Int)) := by
  have hb : s[k].toNat < 256 := UInt8.toNat_lt _
  obtain ⟨m, hm⟩ : ∃ m : Nat, IntKind.u64.wrap (((s[k].toNat : Int) - 128) % 256 * 2 ^ (7 * k)) = (m : Int) ∧ m < 18446744073709551616 := by
    rw [IntKind.wrap_u64]
    exact ⟨((((s[k].toNat : Int) - 128) % 256 * 2 ^ (7 * k)) % 18446744073709551616).toNat, by omega, by omega⟩
  obtain ⟨y, rfl⟩ := Int.eq_ofNat_of_zero_le hx0
  have hr := Num.or_range y m (by omega) hm.2
  rw [← hm.1] at hr
  refine ⟨hr.1, hr.2, fun h9 => ?_⟩
  have hl := Num.lev_take_succ s.data.toList k (by simpa using es)
  rw [Num.byte_at s k es] at hl
  have e : ((s[k].toNat : Int) - 128) % 256 = ((s[k].toNat % 128 : Nat) : Int) := by omega
  have hlt := Num.lev_take_lt s.data.toList k
  have h8 : (128 : Nat) ^ k ≤ 128 ^ 8 := Nat.pow_le_pow_right (by decide) (by omega)
  have h8' : (128 : Nat) ^ 8 = 72057594037927936 := by decide
  rw [h8'] at h8
  have hm2 : s[k].toNat % 128 * 128 ^ k ≤ 127 * 128 ^ k := Nat.mul_le_mul_right _ (by omega)
  rw [hx (by omega), e, Num.or_add _ _ k hlt (by omega) (by omega), hl]

end Go.Proofs.YtndgafjnifkghaaDoor
