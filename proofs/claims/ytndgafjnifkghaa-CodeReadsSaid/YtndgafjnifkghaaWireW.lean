/-
  Contracts of wire's writers: Uints, Ints, Texts, Bools: the bytes of all, one behind the other. (Made by wip/tools/wirerow.py.)
-/
import Derived.Test.YtndgafjnifkghaaWireB
import Derived.Test.YtndgafjnifkghaaNumU
import Derived.ShutString
namespace Go.Proofs.Ytndgafjnifkghaa
open Go.RowKit

theorem retS {a b : List UInt8} (h : a = b) : Ending.returned (.string ⟨a.toArray⟩) = .returned (.string ⟨b.toArray⟩) := by rw [h]

theorem cat_mk (l : List UInt8) (s : ByteArray) : (⟨l.toArray⟩ : ByteArray) ++ s = ⟨(l ++ s.data.toList).toArray⟩ := by
  apply ByteArray.ext
  simp

theorem uv0 : Lib.uvarint (0 : Int).toNat = [0] := by
  show Lib.uvarint 0 = _
  rw [Lib.uvarint_small (by omega)]; rfl
theorem uv1 : Lib.uvarint (1 : Int).toNat = [1] := by
  show Lib.uvarint 1 = _
  rw [Lib.uvarint_small (by omega)]; rfl

/-- A truth's byte. -/
def bitB (x : Bool) : List UInt8 := [if x then 1 else 0]
theorem bitB_len (x : Bool) : (bitB x).length ≤ 10 := by unfold bitB; simp

/-! ### Uints -/

/-- The bytes of all of them, one behind the other. -/
def uBytes (xs : List Nat) : List UInt8 := xs.flatMap fun x => Lib.uvarint x
theorem uBytes_snoc (xs : List Nat) (k : Nat) (h : k < xs.length) : uBytes (xs.take (k + 1)) = uBytes (xs.take k) ++ Lib.uvarint xs[k] := by
  unfold uBytes
  rw [List.take_succ_eq_append_getElem h, List.flatMap_append]
  simp

set_option maxRecDepth 20000 in
set_option maxHeartbeats 2000000 in
theorem row_u (xs : List Nat) (A : Option Addr) (c : Nat) (w : World) (hl : Lies w w.heap.size A (u64s xs)) (hn : xs.length ≤ 300) (hx : ∀ x ∈ xs, x < 18446744073709551616) :
    Calls Try.prog 70 #[.func (.func 71) #[] #[], .slice A xs.length c] w fun e w' => e = .returned (.string ⟨(uBytes xs).toArray⟩) ∧ Below w.heap.size w w' := by
  have hfresh := Lib.fresh_isBuilder 75 5 w
  have HL := Lib.hid hl
  have HA := Lib.hid hx
  have HF := Lib.hid hfresh
  clear hl hx hfresh
  go_enter Try.func70, Try.ntmps70
  go_wp2_with fail
  go_loopw [10] (fun i wr => ∃ k : Nat, k ≤ xs.length ∧ i = .int .i64 k ∧ Lib.IsBuilder 75 5 w.heap.size w.heap.size (Lib.byteCells (uBytes (xs.take k))) wr ∧ (uBytes (xs.take k)).length ≤ 10 * k ∧ Below w.heap.size w wr)
    (fun i _ => xs.length - (intOf i).toNat)
  case atStart => exact ⟨0, Nat.zero_le _, rfl, HF.out, by simp [uBytes], (Below.refl _ _).alloc (Nat.le_refl _) _⟩
  case round =>
    obtain ⟨k, hk, rfl, hbl, hlen, hbel⟩ := hrel
    have HB := Lib.hid hbl
    clear hbl
    by_cases hlt : k < xs.length
    · obtain ⟨ad, rfl, hb, hc⟩ := (HL.out.below hbel).at_ (u64s_at hlt)
      clear hb
      have HX := Lib.hid (HA.out xs[k] (List.getElem_mem hlt))
      have HS := Lib.hid (uBytes_snoc xs k hlt)
      have hp := Lib.uvarint_length64 (x := xs[k]) HX.out
      have hbs := hbel.size
      go_wp2_with fail
      refine (uint_any _ _ (by omega) (by have := HX.out; omega)).mono ?_
      rintro e w1 ⟨rfl, hb1⟩
      rw [Int.toNat_natCast]
      have h1 := hb1.size
      have hB1 : Lib.IsBuilder 75 5 w.heap.size w.heap.size (Lib.byteCells (uBytes (xs.take k))) w1 := bld_keep HB.out hb1
      have HB1 := Lib.hid hB1
      clear hB1
      go_wp2_with fail
      refine (write_any w.heap.size w.heap.size _ _ _ HB1.out (by rw [Lib.byteCells_length, mk_size]; omega) (by omega)).mono ?_
      rintro e w2 ⟨rfl, hB2, hb2⟩
      have HB2 := Lib.hid hB2
      clear hB2
      go_wp2_with fail
      go_roundw
      case rel =>
        refine ⟨k + 1, by omega, by go_num, ?_, by rw [HS.out, List.length_append]; omega, (hbel.trans (hb1.mono hbs)).trans hb2⟩
        rw [HS.out, Lib.byteCells_append]
        have := HB2.out
        rw [Lib.strCells_eq] at this
        exact .inr this
      case measure => simp [intOf]; omega
    · have hall : xs.take k = xs := List.take_of_length_le (by omega)
      have HT := Lib.hid hall
      clear hall
      have hbs := hbel.size
      have hB1 := HB.out
      rw [HT.out] at hB1
      have HB1 := Lib.hid hB1
      clear hB1
      go_wp2_with fail
      refine (Sh.Builder_String_any w.heap.size w.heap.size _ _ HB1.out hbs).mono ?_
      rintro e w1 ⟨rfl, hb1⟩
      go_wp2_with fail
      go_ret
      exact ⟨rfl, hbel.trans hb1⟩

set_option maxHeartbeats 400000 in
theorem uints_any (xs : List Nat) (A : Option Addr) (c : Nat) (w : World) (hl : Lies w w.heap.size A (u64s xs)) (hn : xs.length ≤ 300) (hx : ∀ x ∈ xs, x < 18446744073709551616) :
    Calls Try.prog 45 #[.slice A xs.length c] w fun e w' => e = .returned (.string ⟨(uBytes xs).toArray⟩) ∧ Below w.heap.size w w' := by
  have HL := Lib.hid hl
  have HA := Lib.hid hx
  clear hl hx
  go_enter Try.func45, Try.ntmps45
  go_wp2_with fail
  refine (row_u xs A c _ HL.out hn HA.out).mono ?_
  rintro e w1 ⟨rfl, hb1⟩
  go_wp2_with fail
  go_ret
  exact ⟨rfl, hb1⟩


/-! ### Ints -/

/-- The bytes of all of them, one behind the other. -/
def iBytes (xs : List Int) : List UInt8 := xs.flatMap fun x => Lib.uvarint (Lib.zigzag x)
theorem iBytes_snoc (xs : List Int) (k : Nat) (h : k < xs.length) : iBytes (xs.take (k + 1)) = iBytes (xs.take k) ++ Lib.uvarint (Lib.zigzag xs[k]) := by
  unfold iBytes
  rw [List.take_succ_eq_append_getElem h, List.flatMap_append]
  simp

set_option maxRecDepth 20000 in
set_option maxHeartbeats 2000000 in
theorem row_i (xs : List Int) (A : Option Addr) (c : Nat) (w : World) (hl : Lies w w.heap.size A (icells xs)) (hn : xs.length ≤ 300) (hx : ∀ x ∈ xs, -9223372036854775808 ≤ x ∧ x ≤ 9223372036854775807) :
    Calls Try.prog 88 #[.func (.func 89) #[] #[], .slice A xs.length c] w fun e w' => e = .returned (.string ⟨(iBytes xs).toArray⟩) ∧ Below w.heap.size w w' := by
  have hfresh := Lib.fresh_isBuilder 75 5 w
  have HL := Lib.hid hl
  have HA := Lib.hid hx
  have HF := Lib.hid hfresh
  clear hl hx hfresh
  go_enter Try.func88, Try.ntmps88
  go_wp2_with fail
  go_loopw [10] (fun i wr => ∃ k : Nat, k ≤ xs.length ∧ i = .int .i64 k ∧ Lib.IsBuilder 75 5 w.heap.size w.heap.size (Lib.byteCells (iBytes (xs.take k))) wr ∧ (iBytes (xs.take k)).length ≤ 10 * k ∧ Below w.heap.size w wr)
    (fun i _ => xs.length - (intOf i).toNat)
  case atStart => exact ⟨0, Nat.zero_le _, rfl, HF.out, by simp [iBytes], (Below.refl _ _).alloc (Nat.le_refl _) _⟩
  case round =>
    obtain ⟨k, hk, rfl, hbl, hlen, hbel⟩ := hrel
    have HB := Lib.hid hbl
    clear hbl
    by_cases hlt : k < xs.length
    · obtain ⟨ad, rfl, hb, hc⟩ := (HL.out.below hbel).at_ (icells_at hlt)
      clear hb
      have HX := Lib.hid (HA.out xs[k] (List.getElem_mem hlt))
      have HS := Lib.hid (iBytes_snoc xs k hlt)
      have hp := Lib.uvarint_length64 (Lib.zigzag_lt HX.out.1 HX.out.2)
      have hbs := hbel.size
      go_wp2_with fail
      refine (int_any _ _ (by have := HX.out; omega) (by have := HX.out; omega)).mono ?_
      rintro e w1 ⟨rfl, hb1⟩
      have h1 := hb1.size
      have hB1 : Lib.IsBuilder 75 5 w.heap.size w.heap.size (Lib.byteCells (iBytes (xs.take k))) w1 := bld_keep HB.out hb1
      have HB1 := Lib.hid hB1
      clear hB1
      go_wp2_with fail
      refine (write_any w.heap.size w.heap.size _ _ _ HB1.out (by rw [Lib.byteCells_length, mk_size]; omega) (by omega)).mono ?_
      rintro e w2 ⟨rfl, hB2, hb2⟩
      have HB2 := Lib.hid hB2
      clear hB2
      go_wp2_with fail
      go_roundw
      case rel =>
        refine ⟨k + 1, by omega, by go_num, ?_, by rw [HS.out, List.length_append]; omega, (hbel.trans (hb1.mono hbs)).trans hb2⟩
        rw [HS.out, Lib.byteCells_append]
        have := HB2.out
        rw [Lib.strCells_eq] at this
        exact .inr this
      case measure => simp [intOf]; omega
    · have hall : xs.take k = xs := List.take_of_length_le (by omega)
      have HT := Lib.hid hall
      clear hall
      have hbs := hbel.size
      have hB1 := HB.out
      rw [HT.out] at hB1
      have HB1 := Lib.hid hB1
      clear hB1
      go_wp2_with fail
      refine (Sh.Builder_String_any w.heap.size w.heap.size _ _ HB1.out hbs).mono ?_
      rintro e w1 ⟨rfl, hb1⟩
      go_wp2_with fail
      go_ret
      exact ⟨rfl, hbel.trans hb1⟩

set_option maxHeartbeats 400000 in
theorem ints_any (xs : List Int) (A : Option Addr) (c : Nat) (w : World) (hl : Lies w w.heap.size A (icells xs)) (hn : xs.length ≤ 300) (hx : ∀ x ∈ xs, -9223372036854775808 ≤ x ∧ x ≤ 9223372036854775807) :
    Calls Try.prog 74 #[.slice A xs.length c] w fun e w' => e = .returned (.string ⟨(iBytes xs).toArray⟩) ∧ Below w.heap.size w w' := by
  have HL := Lib.hid hl
  have HA := Lib.hid hx
  clear hl hx
  go_enter Try.func74, Try.ntmps74
  go_wp2_with fail
  refine (row_i xs A c _ HL.out hn HA.out).mono ?_
  rintro e w1 ⟨rfl, hb1⟩
  go_wp2_with fail
  go_ret
  exact ⟨rfl, hb1⟩


/-! ### Texts -/

theorem text_len (x : ByteArray) (h : x.size ≤ 4096) : (Lib.uvarint x.size ++ x.data.toList).length ≤ 4106 := by
  have := Lib.uvarint_length64 (x := x.size) (by omega)
  have h3 : x.data.toList.length = x.size := by simp
  rw [List.length_append]
  omega
theorem text_len_big (x : ByteArray) (h : x.size ≤ 1048576) : (Lib.uvarint x.size ++ x.data.toList).length ≤ 1048586 := by
  have := Lib.uvarint_length64 (x := x.size) (by omega)
  have h3 : x.data.toList.length = x.size := by simp
  rw [List.length_append]
  omega

/-- The bytes of all of them, one behind the other. -/
def tBytes (xs : List ByteArray) : List UInt8 := xs.flatMap fun x => (Lib.uvarint x.size ++ x.data.toList)
theorem tBytes_snoc (xs : List ByteArray) (k : Nat) (h : k < xs.length) : tBytes (xs.take (k + 1)) = tBytes (xs.take k) ++ (Lib.uvarint (xs[k]).size ++ (xs[k]).data.toList) := by
  unfold tBytes
  rw [List.take_succ_eq_append_getElem h, List.flatMap_append]
  simp

/-! ### Bools -/

/-- The bytes of all of them, one behind the other. -/
def bBytes (xs : List Bool) : List UInt8 := xs.flatMap fun x => bitB x
theorem bBytes_snoc (xs : List Bool) (k : Nat) (h : k < xs.length) : bBytes (xs.take (k + 1)) = bBytes (xs.take k) ++ bitB xs[k] := by
  unfold bBytes
  rw [List.take_succ_eq_append_getElem h, List.flatMap_append]
  simp

end Go.Proofs.Ytndgafjnifkghaa
