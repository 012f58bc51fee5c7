/-
  Contracts of the functions of num that only compute (Zig, Zag, Size, ends, bits.Len64), and of the document's Zig and Zag.
  Contracts of num.Uint and num.Int: a number's bytes.
  Contracts of num.Read and num.ReadInt: the number at the front of bytes.
-/
import Derived.Test.YtkigoidklonhcaaGreatDoorChecked
import Derived.Test.YtkigoidklonhcaaGreatDoorNumMath
import Derived.WalkKit
import Derived.WalkSpells
import Derived.WalkLawsBesides
import Derived.Lib.Hide
import Derived.Lib.Strings
import Derived.Lib.Slices
import Derived.Lib.Small
import Derived.Lib.Walk
section
namespace Go.Proofs.YtkigoidklonhcaaGreatDoor
open Go.RowKit

/-- An integer answer, by its number. -/
theorem retI {k : IntKind} {m n : Int} (h : m = n) : Ending.returned (.int k m) = .returned (.int k n) := by subst h; rfl

namespace Num

theorem zig_bits (x : Int) (h0 : -9223372036854775808 ≤ x) (h1 : x ≤ 9223372036854775807) :
    bits BinOp.xor IntKind.u64 (IntKind.u64.wrap (wrap64 (x * 2))) (IntKind.u64.wrap (x / 9223372036854775808)) = (Lib.zigzag x : Nat) := by
  by_cases hx : 0 ≤ x
  · have e1 : IntKind.u64.wrap (wrap64 (x * 2)) = (((2 * x).toNat : Nat) : Int) := by
      rw [IntKind.wrap_u64]; unfold wrap64; omega
    have e2 : IntKind.u64.wrap (x / 9223372036854775808) = ((0 : Nat) : Int) := by
      rw [IntKind.wrap_u64]; omega
    rw [e1, e2, bits_xor_u64_nat _ _ (by omega) (by omega), Nat.xor_zero]
    unfold Lib.zigzag
    rw [if_pos hx]
  · have e1 : IntKind.u64.wrap (wrap64 (x * 2)) = (((2 * x + 18446744073709551616).toNat : Nat) : Int) := by
      rw [IntKind.wrap_u64]; unfold wrap64; omega
    have e2 : IntKind.u64.wrap (x / 9223372036854775808) = ((2 ^ 64 - 1 : Nat) : Int) := by
      rw [IntKind.wrap_u64]; omega
    rw [e1, e2, bits_xor_u64_nat _ _ (by omega) (by decide), Nat.xor_comm, Lib.xor_ones64 _ (by omega)]
    unfold Lib.zigzag
    rw [if_neg hx]
    omega

theorem zag_bits (u : Int) (h0 : 0 ≤ u) (h1 : u ≤ 18446744073709551615) :
    bits BinOp.xor IntKind.i64 (u / 2) (wrap64 (-wrap64 (bits BinOp.and IntKind.u64 u 1))) = zag u.toNat := by
  rw [Lib.u64_and1 u h0 (by omega)]
  unfold zag
  have e : u / 2 = ((u.toNat / 2 : Nat) : Int) := by omega
  by_cases hp : u.toNat % 2 = 0
  · rw [if_pos hp]
    have e1 : wrap64 (-wrap64 (u % 2)) = 0 := by unfold wrap64; omega
    rw [e1, e]
    show IntKind.i64.wrap ((BitVec.ofInt 64 ((u.toNat / 2 : Nat) : Int) ^^^ BitVec.ofInt 64 0).toNat : Int) = _
    have h2 : (BitVec.ofInt 64 ((u.toNat / 2 : Nat) : Int)).toNat = u.toNat / 2 := by
      rw [BitVec.ofInt_natCast, BitVec.toNat_ofNat]; exact Nat.mod_eq_of_lt (by omega)
    have h3 : (BitVec.ofInt 64 0).toNat = 0 := by decide
    rw [BitVec.toNat_xor, h2, h3, Nat.xor_zero]
    exact IntWalk.i64_in _ (by omega)
  · rw [if_neg hp]
    have e1 : wrap64 (-wrap64 (u % 2)) = -1 := by unfold wrap64; omega
    rw [e1, xor_comm_bits, e]
    exact Lib.i64_not _ (by omega)

end Num

set_option maxHeartbeats 400000 in
theorem zig_any (x : Int) (w : World) (h0 : -9223372036854775808 ≤ x) (h1 : x ≤ 9223372036854775807) :
    Calls Tryz.prog 86 #[.int .i64 x] w fun e w' => e = .returned (.int .u64 (Lib.zigzag x : Nat)) ∧ w = w' := by
  go_enter Tryz.func86, Tryz.ntmps86
  go_wp2
  go_ret
  exact ⟨retI (Num.zig_bits x h0 h1), rfl⟩

set_option maxHeartbeats 400000 in
theorem zag_any (u : Int) (w : World) (h0 : 0 ≤ u) (h1 : u ≤ 18446744073709551615) :
    Calls Tryz.prog 91 #[.int .u64 u] w fun e w' => e = .returned (.int .i64 (Num.zag u.toNat)) ∧ w = w' := by
  go_enter Tryz.func91, Tryz.ntmps91
  go_wp2
  go_ret
  exact ⟨retI (Num.zag_bits u h0 h1), rfl⟩



theorem Num.len_fin (y a : Int) (n : Nat) (h0 : 0 ≤ y) (h1 : y ≤ 255) (ha : 0 ≤ a) (hb : a ≤ 56) (hn : (Lib.bitLen n : Int) = a + Lib.bitLen y.toNat) : wrap64 (a + wrap64 (Lib.len8 y)) = Lib.bitLen n := by
  have e := Lib.len8_eq ⟨y.toNat, by omega⟩
  have l := Lib.bitLen_le8 ⟨y.toNat, by omega⟩
  simp only [Int.toNat_of_nonneg h0] at e
  simp only at l
  rw [e]
  unfold wrap64
  omega

theorem Num.len_fin0 (y : Int) (n : Nat) (h0 : 0 ≤ y) (h1 : y ≤ 255) (hn : (Lib.bitLen n : Int) = Lib.bitLen y.toNat) : wrap64 (wrap64 (Lib.len8 y)) = Lib.bitLen n := by
  have e := Lib.len8_eq ⟨y.toNat, by omega⟩
  have l := Lib.bitLen_le8 ⟨y.toNat, by omega⟩
  simp only [Int.toNat_of_nonneg h0] at e
  simp only at l
  rw [e]
  unfold wrap64
  omega



theorem retB {a b : Bool} (h : a = b) : Ending.returned (.bool a) = .returned (.bool b) := by rw [h]

set_option maxHeartbeats 400000 in
theorem ends_any (c k : Int) (w : World) (h0 : 0 ≤ c) (h1 : c ≤ 255) (h2 : 0 ≤ k) (h3 : k ≤ 9) :
    Calls Tryz.prog 69 #[.int .u8 c, .int .i64 k] w fun e w' => e = .returned (.bool (Num.endsB c.toNat k.toNat)) ∧ w = w' := by
  by_cases hk : k = 0
  · have HT : Hid (true = Num.endsB c.toNat k.toNat) := ((Num.endsB_iff _ _).2 (.inl (by omega))).symm
    subst hk
    go_enter Tryz.func69, Tryz.ntmps69
    go_wp2
    go_ret
    exact ⟨retB HT.out, rfl⟩
  · have hkb : (k == 0) = false := by simpa using hk
    by_cases hc : c = 0
    · have HT : Hid (false = Num.endsB c.toNat k.toNat) := by
        refine Eq.symm ?_
        rw [Bool.eq_false_iff]; intro h; rw [Num.endsB_iff] at h; omega
      subst hc
      go_enter Tryz.func69, Tryz.ntmps69
      go_wp2
      go_ret
      exact ⟨retB HT.out, rfl⟩
    · have hcb : (c != 0) = true := by simpa using hc
      by_cases hk9 : k < 9
      · have HT : Hid (true = Num.endsB c.toNat k.toNat) := ((Num.endsB_iff _ _).2 (.inr ⟨by omega, .inl (by omega)⟩)).symm
        clear hk hc
        go_enter Tryz.func69, Tryz.ntmps69
        go_wp2
        go_ret
        exact ⟨retB HT.out, rfl⟩
      · have HT : Hid ((c == 1) = Num.endsB c.toNat k.toNat) := by
          show (c == 1) = _
          rw [Bool.eq_iff_iff, Num.endsB_iff]
          simp
          omega
        clear hk hc
        go_enter Tryz.func69, Tryz.ntmps69
        go_wp2
        go_ret
        exact ⟨retB HT.out, rfl⟩

/-- The same, its answer by a name. -/
theorem ends_is (c k : Int) (b : Bool) (w : World) (h0 : 0 ≤ c) (h1 : c ≤ 255) (h2 : 0 ≤ k) (h3 : k ≤ 9) (h : Num.endsB c.toNat k.toNat = b) :
    Calls Tryz.prog 69 #[.int .u8 c, .int .i64 k] w fun e w' => e = .returned (.bool b) ∧ w = w' :=
  (ends_any c k w h0 h1 h2 h3).mono fun _ _ ⟨he, hw⟩ => ⟨by rw [he, h], hw⟩
end Go.Proofs.YtkigoidklonhcaaGreatDoor
end

section
namespace Go.Proofs.YtkigoidklonhcaaGreatDoor
open Go.RowKit

/-- A buffer of ten bytes at the head of block B, the first k of which are those of l. -/
def Num.Buf (B k : Nat) (l : List UInt8) (w : World) : Prop :=
  (∀ j, j < k → w.cell? ⟨B, j, none⟩ = some (.int .u8 ((l[j]?.getD 0).toNat : Int))) ∧ (∀ j, j < 10 → ∃ v, w.cell? ⟨B, j, none⟩ = some v ∧ w.frozen? ⟨B, j, none⟩ = false)

theorem Num.Buf.set {B k : Nat} {l : List UInt8} {w : World} (h : Num.Buf B k l w) (hk : k < 10) (v : Int) (hv : v = ((l[k]?.getD 0).toNat : Int)) :
    Num.Buf B (k + 1) l (w.setCell ⟨B, k, none⟩ (.int .u8 v)) := by
  refine ⟨fun j hj => ?_, fun j hj => ?_⟩
  · by_cases e : j = k
    · subst e
      obtain ⟨u, hu, _⟩ := h.2 j hk
      rw [World.cell?_setCell_same _ _ _ hu, hv]
    · rw [World.cell?_setCell_other _ _ _ _ (by intro hh; injection hh with _ h2 _; exact e h2.symm)]
      exact h.1 j (by omega)
  · obtain ⟨u, hu, hf⟩ := h.2 j hj
    obtain ⟨v', hv'⟩ := cell?_setCell_some (p := ⟨B, k, none⟩) (x := .int .u8 v) hu
    exact ⟨v', hv', by rw [World.frozen?_setCell]; exact hf⟩

/-- A list of bytes, as the numbers that its cells hold. -/
def Num.nums (l : List UInt8) : List Int := l.map fun b => (b.toNat : Int)

theorem Num.strOf_nums (l : List UInt8) : strOfNums (Num.nums l) = ⟨l.toArray⟩ := by
  unfold strOfNums Num.nums
  rw [List.map_map]
  have : ((fun n : Int => UInt8.ofNat n.toNat) ∘ fun b : UInt8 => (b.toNat : Int)) = id := by
    funext b
    simp
  rw [this, List.map_id]

theorem Num.Buf.conv {B k : Nat} {l : List UInt8} {w : World} (h : Num.Buf B k l w) (hk : l.length = k) :
    (convert 86 9 (.slice (some ⟨B, 0, none⟩) k 10)).run Tryz.prog w = .ok (.string ⟨l.toArray⟩) w := by
  have := run_convert_bytes_arg (P := Tryz.prog) w 86 5 Tryz.underlying86 Tryz.underlying5 B 0 k 10 (Num.nums l) (by simpa [Num.nums] using hk)
    (fun i hi => by
      rw [Nat.zero_add, h.1 i hi]
      simp [Num.nums, List.getD, List.getElem?_eq_getElem (show i < l.length by omega)]) 9 Tryz.underlying9
  rw [Num.strOf_nums] at this
  exact this

theorem Num.arr10 : Tryz.prog.arrayLen 150 = 10 := by kernel_rfl
theorem Num.arrE : Tryz.prog.elem 150 = 5 := by kernel_rfl

theorem Num.slice10 (B k : Nat) (hk : k ≤ 9) (w : World) :
    (Instr.sliceAt 150 (.pointer (some ⟨B, 0, none⟩)) none (some (.int .i64 ((k : Int) + 1))) none).run Tryz.prog w = .ok (.slice (some ⟨B, 0, none⟩) (k + 1) 10) w := by
  rw [run_sliceAt_array_h w 150 ⟨B, 0, none⟩ (by rw [Num.arr10, Num.arrE]; exact Tryz.underlying150) .i64 ((k : Int) + 1) (by omega) (by rw [Num.arr10]; omega), Num.arr10, Num.arrE, Tryz.sizeOf5]
  have e : ((k : Int) + 1).toNat = k + 1 := by omega
  simp [Result.andThen, slicedAt, e, Addr.add]

set_option maxRecDepth 20000 in
set_option maxHeartbeats 400000 in
/-- num.Uint: the number's bytes. -/
theorem uint_any (x : Int) (w : World) (h0 : 0 ≤ x) (h1 : x ≤ 18446744073709551615) :
    Calls Tryz.prog 64 #[.int .u64 x] w fun e w' => e = .returned (.string ⟨(Lib.uvarint x.toNat).toArray⟩) ∧ Below w.heap.size w w' := by
  obtain ⟨n, rfl⟩ := Int.eq_ofNat_of_zero_le h0
  rw [Int.toNat_natCast]
  have hlen := Lib.uvarint_length64 (x := n) (by omega)
  clear h0
  go_enter Tryz.func64, Tryz.ntmps64
  go_wp2
  go_loopw [0, 4] (fun X i wr => ∃ (k y : Nat), X = .int .u64 y ∧ i = .int .i64 k ∧ (y : Int) ≤ 18446744073709551615 ∧ (Lib.uvarint n).drop k = Lib.uvarint y ∧ Num.Buf w.heap.size k (Lib.uvarint n) wr ∧ Below w.heap.size w wr)
    (fun X _ _ => (intOf X).toNat)
  case atStart =>
    refine ⟨0, n, rfl, rfl, by omega, rfl, ⟨fun j hj => by omega, fun j hj => ?_⟩, (Below.refl _ _).alloc (Nat.le_refl _) _⟩
    have : j = 0 ∨ j = 1 ∨ j = 2 ∨ j = 3 ∨ j = 4 ∨ j = 5 ∨ j = 6 ∨ j = 7 ∨ j = 8 ∨ j = 9 := by omega
    rcases this with rfl | rfl | rfl | rfl | rfl | rfl | rfl | rfl | rfl | rfl <;> exact ⟨.int .u8 0, by simp [go_sem], by simp [go_sem]⟩
  case round =>
    obtain ⟨k, y, rfl, rfl, hy, hd, hbuf, hbel⟩ := hrel
    have HD := Lib.hid hd
    have HB := Lib.hid hbuf
    clear hd hbuf
    clear h1
    have hl : k + (Lib.uvarint y).length = (Lib.uvarint n).length := by
      have h := congrArg List.length HD.out
      have hp := Lib.uvarint_pos y
      simp at h
      omega
    have HG : Hid ((Lib.uvarint n)[k]?.getD 0 = (Lib.uvarint y)[0]?.getD 0) := by
      show _ = _
      rw [← HD.out]; simp
    by_cases hlt : y < 128
    · rw [Lib.uvarint_small hlt] at hl
      have hk : k ≤ 9 := by simp at hl; omega
      have HK := Lib.hid hl
      clear hl hlen
      obtain ⟨v, hc, hf⟩ := HB.out.2 k (by omega)
      have hb' := HB.out.set (by omega : k < 10) (y : Int) (by rw [HG.out, Lib.uvarint_small hlt]; simp; omega)
      have hconv := hb'.conv HK.out.symm
      have hsl := Num.slice10 w.heap.size k hk
      clear hb'
      go_wp2
      go_ret
      exact ⟨rfl, hbel.setCell (Nat.le_refl _) _⟩
    · have hge : 128 ≤ y := by omega
      have hk : k ≤ 8 := by
        have hp := Lib.uvarint_pos (y / 128)
        rw [Lib.uvarint_big hge, List.length_cons] at hl
        omega
      clear hl hlen
      obtain ⟨v, hc, hf⟩ := HB.out.2 k (by omega)
      have hor : bits BinOp.or IntKind.u8 ((y : Int) % 256) 128 = ((((Lib.uvarint n)[k]?.getD 0).toNat : Nat) : Int) := by
        rw [Lib.u8_or128_any _ (by omega) (by omega), HG.out, Lib.uvarint_big hge]
        have := Num.u8_small (y % 128 + 128) (by omega)
        simp only [List.getElem?_cons_zero, Option.getD_some, this]
        omega
      have HO := Lib.hid hor
      clear hor
      go_wp2
      go_roundw
      case rel =>
        refine ⟨k + 1, y / 128, by go_num, by go_num, by omega, ?_, HB.out.set (by omega) _ HO.out, hbel.setCell (Nat.le_refl _) _⟩
        rw [← List.drop_drop, HD.out, Lib.uvarint_big hge]
        rfl
      case measure => simp [intOf]; omega

set_option maxHeartbeats 400000 in
/-- num.Int: the bytes of the number as which a whole one stands. -/
theorem int_any (x : Int) (w : World) (h0 : -9223372036854775808 ≤ x) (h1 : x ≤ 9223372036854775807) :
    Calls Tryz.prog 81 #[.int .i64 x] w fun e w' => e = .returned (.string ⟨(Lib.uvarint (Lib.zigzag x)).toArray⟩) ∧ Below w.heap.size w w' := by
  have hz := Lib.zigzag_lt h0 h1
  go_enter Tryz.func81, Tryz.ntmps81
  go_wp2_with fail
  refine (zig_any x _ h0 h1).mono ?_
  rintro e w' ⟨rfl, rfl⟩
  go_wp2_with fail
  refine (uint_any _ _ (by omega) (by omega)).mono ?_
  rintro e w' ⟨rfl, hb⟩
  rw [Int.toNat_natCast]
  go_wp2_with fail
  go_ret
  exact ⟨rfl, hb⟩
end Go.Proofs.YtkigoidklonhcaaGreatDoor
end

section
namespace Go.Proofs.YtkigoidklonhcaaGreatDoor
open Go.RowKit

theorem Num.byte_at (s : ByteArray) (k : Nat) (h : k < s.size) : s.data.toList[k]?.getD 0 = s[k] := by
  have h' : k < s.data.toList.length := by simpa using h
  rw [List.getElem?_eq_getElem h', Option.getD_some]
  rfl

theorem retI3 {k1 k2 k3 : IntKind} {a b c a' b' c' : Int} (h1 : a = a') (h2 : b = b') (h3 : c = c') :
    Ending.returned (.tuple #[.int k1 a, .int k2 b, .int k3 c]) = .returned (.tuple #[.int k1 a', .int k2 b', .int k3 c']) := by rw [h1, h2, h3]

/-- The last byte of a number, laid on top of those ahead of it. -/
theorem Num.step_last (s : ByteArray) (k : Nat) (x : Int) (es : k < s.size) (hc : s[k].toNat < 128) (hx : x = (Num.lev (s.data.toList.take k) : Nat)) (hr : Num.rd s.data.toList = (Num.lev (s.data.toList.take (k + 1)), k + 1, 0)) :
    bits BinOp.or IntKind.u64 x (IntKind.u64.wrap ((s[k].toNat : Int) * 2 ^ (7 * k))) = ((Num.lev (s.data.toList.take (k + 1)) : Nat) : Int) := by
  have hb := (Num.rd_bound s.data.toList).2.2.1
  rw [hr] at hb
  simp only [] at hb
  have hl := Num.lev_take_succ s.data.toList k (by simpa using es)
  rw [Num.byte_at s k es, Nat.mod_eq_of_lt hc] at hl
  have hlt := Num.lev_take_lt s.data.toList k
  have e : s[k].toNat * 128 ^ k = 128 ^ k * s[k].toNat := Nat.mul_comm _ _
  rw [hx, Num.or_add _ _ k hlt (by omega) (by omega), hl]

/-- A byte that is not the last one, laid on top of those ahead of it. -/
theorem Num.step_more (s : ByteArray) (k : Nat) (x : Int) (es : k < s.size) (hc : 128 ≤ s[k].toNat) (hk : k ≤ 9) (hx0 : 0 ≤ x) (hx1 : x ≤ 18446744073709551615) (hx : k ≤ 9 → x = (Num.lev (s.data.toList.take k) : Nat)) :
    0 ≤ bits BinOp.or IntKind.u64 x (IntKind.u64.wrap (((s[k].toNat : Int) - 128) % 256 * 2 ^ (7 * k))) ∧
    bits BinOp.or IntKind.u64 x (IntKind.u64.wrap (((s[k].toNat : Int) - 128) % 256 * 2 ^ (7 * k))) ≤ 18446744073709551615 ∧
    (k + 1 ≤ 9 → bits BinOp.or IntKind.u64 x (IntKind.u64.wrap (((s[k].toNat : Int) - 128) % 256 * 2 ^ (7 * k))) = ((Num.lev (s.data.toList.take (k + 1)) : Nat) : Int)) := by
  have hb : s[k].toNat < 256 := UInt8.toNat_lt _
  obtain ⟨m, hm⟩ : ∃ m : Nat, IntKind.u64.wrap (((s[k].toNat : Int) - 128) % 256 * 2 ^ (7 * k)) = (m : Int) ∧ m < 18446744073709551616 := by
    rw [IntKind.wrap_u64]
    exact ⟨((((s[k].toNat : Int) - 128) % 256 * 2 ^ (7 * k)) % 18446744073709551616).toNat, by omega, by omega⟩
  obtain ⟨y, rfl⟩ := Int.eq_ofNat_of_zero_le hx0
  have hr := Num.or_range y m (by omega) hm.2
  rw [← hm.1] at hr
  refine ⟨hr.1, hr.2, fun h9 => ?_⟩
  have hl := Num.lev_take_succ s.data.toList k (by simpa using es)
  rw [Num.byte_at s k es] at hl
  have e : ((s[k].toNat : Int) - 128) % 256 = ((s[k].toNat % 128 : Nat) : Int) := by omega
  have hlt := Num.lev_take_lt s.data.toList k
  have h8 : (128 : Nat) ^ k ≤ 128 ^ 8 := Nat.pow_le_pow_right (by decide) (by omega)
  have h8' : (128 : Nat) ^ 8 = 72057594037927936 := by decide
  rw [h8'] at h8
  have hm2 : s[k].toNat % 128 * 128 ^ k ≤ 127 * 128 ^ k := Nat.mul_le_mul_right _ (by omega)
  rw [hx (by omega), e, Num.or_add _ _ k hlt (by omega) (by omega), hl]

set_option maxRecDepth 20000 in
set_option maxHeartbeats 400000 in
theorem read_any (s : ByteArray) (w : World) (hs : s.size ≤ maxLen) :
    Calls Tryz.prog 43 #[.string s] w fun e w' => e = .returned (.tuple #[.int .u64 (Num.rd s.data.toList).1, .int .i64 (Num.rd s.data.toList).2.1, .int .i64 (Num.rd s.data.toList).2.2]) ∧ w = w' := by
  unfold maxLen at hs
  go_enter Tryz.func43, Tryz.ntmps43
  go_wp2
  go_step3
  go_wp2
  go_step3
  go_wp2
  go_loop [2, 3] (fun X i => ∃ (k : Nat) (x : Int), X = .int .u64 x ∧ i = .int .i64 k ∧ k ≤ s.size ∧ k ≤ 10 ∧ 0 ≤ x ∧ x ≤ 18446744073709551615 ∧ (k ≤ 9 → x = Num.lev (s.data.toList.take k)) ∧ ∀ j, j < k → 128 ≤ (s.data.toList[j]?.getD 0).toNat)
    (fun _ i => 10 - (intOf i).toNat)
  case atStart => exact ⟨0, 0, rfl, rfl, by omega, by omega, by omega, by omega, fun _ => rfl, fun j hj => by omega⟩
  case round =>
    obtain ⟨k, x, rfl, rfl, hk, hk10, hx0, hx1, hx, hall⟩ := hrel
    have HX := Lib.hid hx
    have HA := Lib.hid hall
    clear hx hall
    by_cases e10 : k = 10
    · have HR : Hid (Num.rd s.data.toList = (0, 0, 8)) := by
        have h1 := Num.cnt_ge HA.out (by simpa using hk) hk10
        have h2 := Num.cnt_le10 s.data.toList
        show _ = _
        unfold Num.rd
        rw [if_pos (by omega)]
      subst e10
      go_wp2_with fail
      go_ret3
      exact ⟨by rw [HR.out]; rfl, rfl⟩
    · by_cases es : k < s.size
      · by_cases hc : s[k].toNat < 128
        · have hcI : ((s[k].toNat : Nat) : Int) < 128 := by omega
          have hlt : (k : Int) < s.size := by omega
          have hne : ((k : Int) == 10) = false := by simp; omega
          have hne2 : ((k : Int) == (s.size : Int)) = false := by simp; omega
          have HC : Hid (Num.cnt s.data.toList = k) := Num.cnt_at HA.out (by simpa using es) (by rw [Num.byte_at s k es]; exact hc) (by omega)
          go_wp2_with fail
          cases he : Num.endsB s[k].toNat k
          · have HE := Lib.hid he
            clear he
            refine (ends_is _ _ false _ (by omega) (by omega) (by omega) (by omega) (by simpa using HE.out)).mono ?_
            rintro e w' ⟨rfl, rfl⟩
            go_wp2_with fail
            rw [Exit.noGoto_ret]
            go_ret3
            have hr : Num.rd s.data.toList = (0, 0, 8) := by
              have h3 : s.data.toList.length = s.size := by simp
              unfold Num.rd
              rw [HC.out, if_neg e10, if_neg (by omega), Num.byte_at s k es, HE.out]
              rfl
            exact ⟨by rw [hr]; rfl, rfl⟩
          · have HE := Lib.hid he
            clear he
            refine (ends_is _ _ true _ (by omega) (by omega) (by omega) (by omega) (by simpa using HE.out)).mono ?_
            rintro e w' ⟨rfl, rfl⟩
            go_wp2_with fail
            rw [Exit.noGoto_ret]
            go_ret3
            have hr : Num.rd s.data.toList = (Num.lev (s.data.toList.take (k + 1)), k + 1, 0) := by
              have h3 : s.data.toList.length = s.size := by simp
              unfold Num.rd
              rw [HC.out, if_neg e10, if_neg (by omega), Num.byte_at s k es, HE.out]
              rfl
            refine ⟨?_, rfl⟩
            rw [hr]
            exact retI3 (Num.step_last s k x es hc (HX.out (by omega)) hr) (by simp) rfl
        · have hcI : 128 ≤ ((s[k].toNat : Nat) : Int) := by omega
          have hlt : (k : Int) < s.size := by omega
          have hne : ((k : Int) == 10) = false := by simp; omega
          have hne2 : ((k : Int) == (s.size : Int)) = false := by simp; omega
          go_wp2_with fail
          have hst := Num.step_more s k x es (by omega) (by omega) hx0 hx1 (fun h => HX.out h)
          refine ⟨⟨k + 1, _, rfl, by go_num, by omega, by omega, hst.1, hst.2.1, hst.2.2, ?_⟩, by simp [intOf]; omega⟩
          intro j hj
          by_cases e : j = k
          · rw [e, Num.byte_at s k es]; omega
          · exact HA.out j (by omega)
      · have hks : k = s.size := by omega
        have HR : Hid (Num.rd s.data.toList = (0, 0, 10)) := by
          have h1 := Num.cnt_ge HA.out (by simpa using hk) hk10
          have h2 := Num.cnt_le s.data.toList
          have h3 : s.data.toList.length = s.size := by simp
          show _ = _
          unfold Num.rd
          rw [if_neg (by omega), if_pos (by omega)]
        have hne : ((k : Int) == 10) = false := by simp; omega
        have hne2 : ((k : Int) == (s.size : Int)) = true := by simp; omega
        clear hks
        go_wp2_with fail
        go_ret3
        exact ⟨by rw [HR.out]; rfl, rfl⟩

set_option maxHeartbeats 400000 in
theorem readint_any (s : ByteArray) (w : World) (hs : s.size ≤ maxLen) :
    Calls Tryz.prog 88 #[.string s] w fun e w' => e = .returned (.tuple #[.int .i64 (Num.zag (Num.rd s.data.toList).1), .int .i64 (Num.rd s.data.toList).2.1, .int .i64 (Num.rd s.data.toList).2.2]) ∧ w = w' := by
  have hb := (Num.rd_bound s.data.toList).2.2.1
  have hb2 : (((Num.rd s.data.toList).1 : Nat) : Int) ≤ 18446744073709551615 := by omega
  clear hb
  generalize hR : Num.rd s.data.toList = R at *
  have HR := Lib.hid hR
  clear hR
  go_enter Tryz.func88, Tryz.ntmps88
  go_wp2_with fail
  refine (read_any s _ hs).mono ?_
  rintro e w' ⟨rfl, rfl⟩
  rw [HR.out]
  go_wp2_with fail
  refine (zag_any _ _ (by omega) hb2).mono ?_
  rintro e w' ⟨rfl, rfl⟩
  go_wp2_with fail
  go_ret3
  exact ⟨rfl, rfl⟩
end Go.Proofs.YtkigoidklonhcaaGreatDoor
end
