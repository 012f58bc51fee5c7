/-
  Contracts of num.Uint and num.Int: a number's bytes.
-/
import Derived.Test.YtndgafjnifkghaaNumZ
namespace Go.Proofs.Ytndgafjnifkghaa
open Go.RowKit

/-- A buffer of ten bytes at the head of block B, the first k of which are those of l. -/
def Num.Buf (B k : Nat) (l : List UInt8) (w : World) : Prop :=
  (∀ j, j < k → w.cell? ⟨B, j, none⟩ = some (.int .u8 ((l[j]?.getD 0).toNat : Int))) ∧ (∀ j, j < 10 → ∃ v, w.cell? ⟨B, j, none⟩ = some v ∧ w.frozen? ⟨B, j, none⟩ = false)

theorem Num.Buf.set {B k : Nat} {l : List UInt8} {w : World} (h : Num.Buf B k l w) (hk : k < 10) (v : Int) (hv : v = ((l[k]?.getD 0).toNat : Int)) :
    Num.Buf B (k + 1) l (w.setCell ⟨B, k, none⟩ (.int .u8 v)) := by
  refine ⟨fun j hj => ?_, fun j hj => ?_⟩
  · by_cases e : j = k
    · subst e
      obtain ⟨u, hu, _⟩ := h.2 j hk
      rw [World.cell?_setCell_same _ _ _ hu, hv]
    · rw [World.cell?_setCell_other _ _ _ _ (by intro hh; injection hh with _ h2 _; exact e h2.symm)]
      exact h.1 j (by omega)
  · obtain ⟨u, hu, hf⟩ := h.2 j hj
    obtain ⟨v', hv'⟩ := cell?_setCell_some (p := ⟨B, k, none⟩) (x := .int .u8 v) hu
    exact ⟨v', hv', by rw [World.frozen?_setCell]; exact hf⟩

/-- A list of bytes, as the numbers that its cells hold. -/
def Num.nums (l : List UInt8) : List Int := l.map fun b => (b.toNat : Int)

theorem Num.strOf_nums (l : List UInt8) : strOfNums (Num.nums l) = ⟨l.toArray⟩ := by
  unfold strOfNums Num.nums
  rw [List.map_map]
  have : ((fun n : Int => UInt8.ofNat n.toNat) ∘ fun b : UInt8 => (b.toNat : Int)) = id := by
    funext b
    simp
  rw [this, List.map_id]

theorem Num.Buf.conv {B k : Nat} {l : List UInt8} {w : World} (h : Num.Buf B k l w) (hk : l.length = k) :
    (convert 45 9 (.slice (some ⟨B, 0, none⟩) k 10)).run Try.prog w = .ok (.string ⟨l.toArray⟩) w := by
  have := run_convert_bytes_arg (P := Try.prog) w 45 5 Try.underlying45 Try.underlying5 B 0 k 10 (Num.nums l) (by simpa [Num.nums] using hk)
    (fun i hi => by
      rw [Nat.zero_add, h.1 i hi]
      simp [Num.nums, List.getD, List.getElem?_eq_getElem (show i < l.length by omega)]) 9 Try.underlying9
  rw [Num.strOf_nums] at this
  exact this

theorem Num.arr10 : Try.prog.arrayLen 130 = 10 := by kernel_rfl
theorem Num.arrE : Try.prog.elem 130 = 5 := by kernel_rfl

theorem Num.slice10 (B k : Nat) (hk : k ≤ 9) (w : World) :
    (Instr.sliceAt 130 (.pointer (some ⟨B, 0, none⟩)) none (some (.int .i64 ((k : Int) + 1))) none).run Try.prog w = .ok (.slice (some ⟨B, 0, none⟩) (k + 1) 10) w := by
  rw [run_sliceAt_array_h w 130 ⟨B, 0, none⟩ (by rw [Num.arr10, Num.arrE]; exact Try.underlying130) .i64 ((k : Int) + 1) (by omega) (by rw [Num.arr10]; omega), Num.arr10, Num.arrE, Try.sizeOf5]
  have e : ((k : Int) + 1).toNat = k + 1 := by omega
  simp [Result.andThen, slicedAt, e, Addr.add]

set_option maxRecDepth 20000 in
set_option maxHeartbeats 400000 in
/-- num.Uint: the number's bytes. -/
theorem uint_any (x : Int) (w : World) (h0 : 0 ≤ x) (h1 : x ≤ 18446744073709551615) :
    Calls Try.prog 71 #[.int .u64 x] w fun e w' => e = .returned (.string ⟨(Lib.uvarint x.toNat).toArray⟩) ∧ Below w.heap.size w w' := by
  obtain ⟨n, rfl⟩ := Int.eq_ofNat_of_zero_le h0
  rw [Int.toNat_natCast]
  have hlen := Lib.uvarint_length64 (x := n) (by omega)
  clear h0
  go_enter Try.func71, Try.ntmps71
  go_wp2
  go_loopw [0, 4] (fun X i wr => ∃ (k y : Nat), X = .int .u64 y ∧ i = .int .i64 k ∧ (y : Int) ≤ 18446744073709551615 ∧ (Lib.uvarint n).drop k = Lib.uvarint y ∧ Num.Buf w.heap.size k (Lib.uvarint n) wr ∧ Below w.heap.size w wr)
    (fun X _ _ => (intOf X).toNat)
  case atStart =>
    refine ⟨0, n, rfl, rfl, by omega, rfl, ⟨fun j hj => by omega, fun j hj => ?_⟩, (Below.refl _ _).alloc (Nat.le_refl _) _⟩
    have : j = 0 ∨ j = 1 ∨ j = 2 ∨ j = 3 ∨ j = 4 ∨ j = 5 ∨ j = 6 ∨ j = 7 ∨ j = 8 ∨ j = 9 := by omega
    rcases this with rfl | rfl | rfl | rfl | rfl | rfl | rfl | rfl | rfl | rfl <;> exact ⟨.int .u8 0, by simp [go_sem], by simp [go_sem]⟩
  case round =>
    obtain ⟨k, y, rfl, rfl, hy, hd, hbuf, hbel⟩ := hrel
    have HD := Lib.hid hd
    have HB := Lib.hid hbuf
    clear hd hbuf
    clear h1
    have hl : k + (Lib.uvarint y).length = (Lib.uvarint n).length := by
      have h := congrArg List.length HD.out
      have hp := Lib.uvarint_pos y
      simp at h
      omega
    have HG : Hid ((Lib.uvarint n)[k]?.getD 0 = (Lib.uvarint y)[0]?.getD 0) := by
      show _ = _
      rw [← HD.out]; simp
    by_cases hlt : y < 128
    · rw [Lib.uvarint_small hlt] at hl
      have hk : k ≤ 9 := by simp at hl; omega
      have HK := Lib.hid hl
      clear hl hlen
      obtain ⟨v, hc, hf⟩ := HB.out.2 k (by omega)
      have hb' := HB.out.set (by omega : k < 10) (y : Int) (by rw [HG.out, Lib.uvarint_small hlt]; simp; omega)
      have hconv := hb'.conv HK.out.symm
      have hsl := Num.slice10 w.heap.size k hk
      clear hb'
      go_wp2
      go_ret
      exact ⟨rfl, hbel.setCell (Nat.le_refl _) _⟩
    · have hge : 128 ≤ y := by omega
      have hk : k ≤ 8 := by
        have hp := Lib.uvarint_pos (y / 128)
        rw [Lib.uvarint_big hge, List.length_cons] at hl
        omega
      clear hl hlen
      obtain ⟨v, hc, hf⟩ := HB.out.2 k (by omega)
      have hor : bits BinOp.or IntKind.u8 ((y : Int) % 256) 128 = ((((Lib.uvarint n)[k]?.getD 0).toNat : Nat) : Int) := by
        rw [Lib.u8_or128_any _ (by omega) (by omega), HG.out, Lib.uvarint_big hge]
        have := Num.u8_small (y % 128 + 128) (by omega)
        simp only [List.getElem?_cons_zero, Option.getD_some, this]
        omega
      have HO := Lib.hid hor
      clear hor
      go_wp2
      go_roundw
      case rel =>
        refine ⟨k + 1, y / 128, by go_num, by go_num, by omega, ?_, HB.out.set (by omega) _ HO.out, hbel.setCell (Nat.le_refl _) _⟩
        rw [← List.drop_drop, HD.out, Lib.uvarint_big hge]
        rfl
      case measure => simp [intOf]; omega

set_option maxHeartbeats 400000 in
/-- num.Int: the bytes of the number as which a whole one stands. -/
theorem int_any (x : Int) (w : World) (h0 : -9223372036854775808 ≤ x) (h1 : x ≤ 9223372036854775807) :
    Calls Try.prog 89 #[.int .i64 x] w fun e w' => e = .returned (.string ⟨(Lib.uvarint (Lib.zigzag x)).toArray⟩) ∧ Below w.heap.size w w' := by
  have hz := Lib.zigzag_lt h0 h1
  go_enter Try.func89, Try.ntmps89
  go_wp2_with fail
  refine (zig_any x _ h0 h1).mono ?_
  rintro e w' ⟨rfl, rfl⟩
  go_wp2_with fail
  refine (uint_any _ _ (by omega) (by omega)).mono ?_
  rintro e w' ⟨rfl, hb⟩
  rw [Int.toNat_natCast]
  go_wp2_with fail
  go_ret
  exact ⟨rfl, hb⟩
end Go.Proofs.Ytndgafjnifkghaa
