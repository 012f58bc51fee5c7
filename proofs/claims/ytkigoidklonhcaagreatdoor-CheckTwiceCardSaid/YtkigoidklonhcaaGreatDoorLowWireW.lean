/-
  Contracts of what wire calls in the library: strings.Builder's WriteString, strings.Clone, slices.Contains at []uint64.
  Contracts of wire's writers: Uints, Ints, Texts, Bools: the bytes of all, one behind the other. (Made by wip/tools/wirerow.py.)
-/
import Derived.Test.YtkigoidklonhcaaGreatDoorChecked
import Derived.Test.YtkigoidklonhcaaGreatDoorLowOpen
import Derived.Test.YtkigoidklonhcaaGreatDoorLowNum
import Derived.Test.YtkigoidklonhcaaGreatDoorWireM
import Derived.Lib.Builder
import Derived.Lib.AppendStr
import Derived.Laws.Externs
import Derived.BigCall
import Derived.ShutString
section
namespace Go.Proofs.YtkigoidklonhcaaGreatDoor
open Go.RowKit

/-! ### strings.Builder -/
theorem bld_size : (Tryz.prog.info? 88).map (·.size) = some 2 := by kernel_rfl
theorem bld_lies : liesAt Tryz.prog Tryz.prog.depth 88 (2 / Tryz.prog.cellsOf 88) 0 88 1 = true := by kernel_rfl
theorem byte_info : (Tryz.prog.info? 5).map (fun i => (i.zero, i.size, i.bytes)) = some (some (.int .u8 0), 1, 1) := by kernel_rfl

set_option maxHeartbeats 1000000 in
set_option maxRecDepth 100000 in
theorem copy_used (b : Nat) (w : World) (h0 : w.cell? ⟨b, 0, none⟩ = some (.pointer (some ⟨b, 0, none⟩))) :
    Calls Tryz.prog 62 #[.pointer (some ⟨b, 0, none⟩)] w fun e w' => e = .returned (.tuple #[]) ∧ w = w' := by
  obtain ⟨j, hj, _⟩ := Option.map_eq_some_iff.1 bld_size
  go_enter Tryz.func62, Tryz.ntmps62
  go_wp2
  rw [Lib.run_neq_ptr_same w _ Tryz.underlying85 hj]
  go_wp2
  go_end0
  exact ⟨rfl, rfl⟩

set_option maxHeartbeats 1000000 in
set_option maxRecDepth 100000 in
theorem copy_fresh (b : Nat) (w : World) (h0 : w.cell? ⟨b, 0, none⟩ = some (.pointer none)) (hsh : w.shape? b = some (88, 2)) (hfz : w.frozen? ⟨b, 0, none⟩ = false) :
    Calls Tryz.prog 62 #[.pointer (some ⟨b, 0, none⟩)] w fun e w' => e = .returned (.tuple #[]) ∧ w' = w.setCell ⟨b, 0, none⟩ (.pointer (some ⟨b, 0, none⟩)) := by
  obtain ⟨j, hj, hjs⟩ := Option.map_eq_some_iff.1 bld_size
  go_enter Tryz.func62, Tryz.ntmps62
  go_wp2
  rw [Lib.run_to_unsafe w ⟨b, 0, none⟩ Tryz.underlying85 Tryz.underlying68 hj (by rw [hjs]; decide) hsh (Nat.zero_lt_succ 1)]
  simp only [Result.andThen]
  rw [Oper.upon_value]
  go_wp2
  rw [run_callFunc_extern Tryz.func79 (by kernel_rfl) (by kernel_rfl) (by kernel_rfl) (e := Extern.AbiNoEscape.same) (by kernel_rfl)]
  rw [Lib.run_noEscape]
  simp only [Result.andThen]
  rw [Oper.upon_value]
  go_wp2
  rw [Lib.run_from_unsafe w ⟨b, 0, none⟩ Tryz.underlying68 Tryz.underlying85 hj hsh bld_lies]
  simp only [Result.andThen]
  rw [Oper.upon_value]
  go_wp2
  go_end0
  exact ⟨rfl, rfl⟩

theorem copy_any (B b : Nat) (bs : List Value) (w : World) (h : Lib.IsBuilder 88 5 B b bs w) :
    Calls Tryz.prog 62 #[.pointer (some ⟨b, 0, none⟩)] w fun e w' => e = .returned (.tuple #[]) ∧ Lib.BuilderAt 88 5 B b (.pointer (some ⟨b, 0, none⟩)) bs w' ∧ Below B w w' := by
  rcases h with h | h
  · refine (copy_fresh b w h.cell0 h.shape h.frozen0).mono ?_
    rintro e w' ⟨rfl, rfl⟩
    exact ⟨rfl, h.used _, (Below.refl B w).setCell (p := ⟨b, 0, none⟩) h.1 _⟩
  · refine (copy_used b w h.cell0).mono ?_
    rintro e w' ⟨rfl, rfl⟩
    exact ⟨rfl, h, Below.refl B _⟩

set_option maxHeartbeats 2000000 in
set_option maxRecDepth 100000 in
theorem write_any (B b : Nat) (bs : List Value) (s : ByteArray) (w : World) (h : Lib.IsBuilder 88 5 B b bs w) (hlen : bs.length + s.size ≤ 140737488355328) (hBw : B ≤ w.heap.size) :
    Calls Tryz.prog 38 #[.pointer (some ⟨b, 0, none⟩), .string s] w fun e w' => e = .returned (.tuple #[.int .i64 s.size, .nilIface]) ∧
      Lib.BuilderAt 88 5 B b (.pointer (some ⟨b, 0, none⟩)) (bs ++ Lib.strCells s) w' ∧ Below B w w' := by
  obtain ⟨i0, hi, hz0, hz1, hz2⟩ := info_parts byte_info
  go_enter Tryz.func38, Tryz.ntmps38
  go_wp2_with fail
  refine (copy_any B b bs _ h).mono ?_
  rintro e w1 ⟨rfl, h1, hb1⟩
  obtain ⟨hB, v, hbk, hown, hne⟩ := h1
  have c0 : w1.cell? ⟨b, 0, none⟩ = some (.pointer (some ⟨b, 0, none⟩)) := by rw [Lib.cell_of_heap hbk]; rfl
  have c1 : w1.cell? ⟨b, 1, none⟩ = some v := by rw [Lib.cell_of_heap hbk]; rfl
  go_wp2_with (at_builtin; refine Lib.wpList_append_own_string _ rfl _ _ 86 9 rfl B 5 i0 Tryz.underlying86 Tryz.underlying9 hi hz0 hz1 hz2 _ _ _ rfl hown s rfl ?c3 ?c4 ?c5 ?_)
  case c3 => unfold maxLen; omega
  case c4 => omega
  case c5 => have := hb1.size; omega
  intro v' w2 hown' hgrow _
  have hlt : b < w1.heap.size := Lib.BuilderAt.lt ⟨hB, v, hbk, hown, hne⟩
  have hb2 : w2.heap[b]? = some (.cells #[.pointer (some ⟨b, 0, none⟩), v] 88 (0, 0)) := by
    rw [hgrow.block b hlt (fun e => hne e.symm)]
    exact hbk
  have d0 : w2.cell? ⟨b, 0, none⟩ = some (.pointer (some ⟨b, 0, none⟩)) := by rw [Lib.cell_of_heap hb2]; rfl
  have d1 : w2.cell? ⟨b, 1, none⟩ = some v := by rw [Lib.cell_of_heap hb2]; rfl
  have f1 : w2.frozen? ⟨b, 1, none⟩ = false := Lib.frozen_of_heap hb2 1
  obtain ⟨ao, n', cap, rfl⟩ : ∃ ao n' cap, v' = .slice ao n' cap := by
    rcases hown'.2 with ⟨hv, _⟩ | ⟨g, cap, cur, hv, _⟩
    · exact ⟨_, _, _, hv⟩
    · exact ⟨_, _, _, hv⟩
  go_wp2
  go_ret2
  refine ⟨rfl, ?_, ?_⟩
  · exact Lib.BuilderAt.put (T := 88) (e := 5) hB hb2 (bs' := bs ++ Lib.strCells s) (by simpa [Lib.strCells_length] using hown') (by decide)
  · exact (hb1.grown hgrow (by have := hb1.size; omega) (fun k hk => (hown.lt k hk).1)).setCell (p := ⟨b, 1, none⟩) hB _

theorem grown_of {w w' : World} (hb : Below w.heap.size w w') (row : Option Nat) : w.grownBy w' row := ⟨hb.os, hb.tape, hb.output, hb.size, fun k hk _ => hb.block k hk⟩

/-- A builder stays what it is where new blocks are laid. -/
theorem bld_keep {T e : TypeId} {B b : Nat} {bs : List Value} {w w' : World} (h : Lib.IsBuilder T e B b bs w) (hb : Below w.heap.size w w') : Lib.IsBuilder T e B b bs w' := by
  have key : ∀ p, Lib.BuilderAt T e B b p bs w → Lib.BuilderAt T e B b p bs w' := by
    rintro p ⟨hB, v, hbk, hown, hne⟩
    have hlt : b < w.heap.size := Lib.BuilderAt.lt ⟨hB, v, hbk, hown, hne⟩
    exact ⟨hB, v, (hb.block b hlt).trans hbk, hown.kept (grown_of hb none) (by cases v.ownBlock <;> simp), hne⟩
  rcases h with h | h
  · exact .inl (key _ h)
  · exact .inr (key _ h)

theorem mk_size (l : List UInt8) : (⟨l.toArray⟩ : ByteArray).size = l.length := rfl

/-- What slices.Index comes to, as far as slices.Contains asks. -/
def Found (x : Nat) (xs : List Nat) (w : World) (e : Ending) (w' : World) : Prop := ∃ i : Int, e = .returned (.int .i64 i) ∧ ((0 ≤ i ∧ x ∈ xs) ∨ (i = -1 ∧ x ∉ xs)) ∧ w = w'

end Go.Proofs.YtkigoidklonhcaaGreatDoor
end

section
namespace Go.Proofs.YtkigoidklonhcaaGreatDoor
open Go.RowKit

theorem retS {a b : List UInt8} (h : a = b) : Ending.returned (.string ⟨a.toArray⟩) = .returned (.string ⟨b.toArray⟩) := by rw [h]

theorem cat_mk (l : List UInt8) (s : ByteArray) : (⟨l.toArray⟩ : ByteArray) ++ s = ⟨(l ++ s.data.toList).toArray⟩ := by
  apply ByteArray.ext
  simp

theorem uv0 : Lib.uvarint (0 : Int).toNat = [0] := by
  show Lib.uvarint 0 = _
  rw [Lib.uvarint_small (by omega)]; rfl
theorem uv1 : Lib.uvarint (1 : Int).toNat = [1] := by
  show Lib.uvarint 1 = _
  rw [Lib.uvarint_small (by omega)]; rfl

/-- A truth's byte. -/
def bitB (x : Bool) : List UInt8 := [if x then 1 else 0]
theorem bitB_len (x : Bool) : (bitB x).length ≤ 10 := by unfold bitB; simp

/-! ### Uints -/

/-- The bytes of all of them, one behind the other. -/
def uBytes (xs : List Nat) : List UInt8 := xs.flatMap fun x => Lib.uvarint x
theorem uBytes_snoc (xs : List Nat) (k : Nat) (h : k < xs.length) : uBytes (xs.take (k + 1)) = uBytes (xs.take k) ++ Lib.uvarint xs[k] := by
  unfold uBytes
  rw [List.take_succ_eq_append_getElem h, List.flatMap_append]
  simp

set_option maxRecDepth 20000 in
set_option maxHeartbeats 2000000 in
theorem row_u (xs : List Nat) (A : Option Addr) (c : Nat) (w : World) (hl : Lies w w.heap.size A (u64s xs)) (hn : xs.length ≤ 300) (hx : ∀ x ∈ xs, x < 18446744073709551616) :
    Calls Tryz.prog 63 #[.func (.func 64) #[] #[], .slice A xs.length c] w fun e w' => e = .returned (.string ⟨(uBytes xs).toArray⟩) ∧ Below w.heap.size w w' := by
  have hfresh := Lib.fresh_isBuilder 88 5 w
  have HL := Lib.hid hl
  have HA := Lib.hid hx
  have HF := Lib.hid hfresh
  clear hl hx hfresh
  go_enter Tryz.func63, Tryz.ntmps63
  go_wp2_with fail
  go_loopw [10] (fun i wr => ∃ k : Nat, k ≤ xs.length ∧ i = .int .i64 k ∧ Lib.IsBuilder 88 5 w.heap.size w.heap.size (Lib.byteCells (uBytes (xs.take k))) wr ∧ (uBytes (xs.take k)).length ≤ 10 * k ∧ Below w.heap.size w wr)
    (fun i _ => xs.length - (intOf i).toNat)
  case atStart => exact ⟨0, Nat.zero_le _, rfl, HF.out, by simp [uBytes], (Below.refl _ _).alloc (Nat.le_refl _) _⟩
  case round =>
    obtain ⟨k, hk, rfl, hbl, hlen, hbel⟩ := hrel
    have HB := Lib.hid hbl
    clear hbl
    by_cases hlt : k < xs.length
    · obtain ⟨ad, rfl, hb, hc⟩ := (HL.out.below hbel).at_ (u64s_at hlt)
      clear hb
      have HX := Lib.hid (HA.out xs[k] (List.getElem_mem hlt))
      have HS := Lib.hid (uBytes_snoc xs k hlt)
      have hp := Lib.uvarint_length64 (x := xs[k]) HX.out
      have hbs := hbel.size
      go_wp2_with fail
      refine (uint_any _ _ (by omega) (by have := HX.out; omega)).mono ?_
      rintro e w1 ⟨rfl, hb1⟩
      rw [Int.toNat_natCast]
      have h1 := hb1.size
      have hB1 : Lib.IsBuilder 88 5 w.heap.size w.heap.size (Lib.byteCells (uBytes (xs.take k))) w1 := bld_keep HB.out hb1
      have HB1 := Lib.hid hB1
      clear hB1
      go_wp2_with fail
      refine (write_any w.heap.size w.heap.size _ _ _ HB1.out (by rw [Lib.byteCells_length, mk_size]; omega) (by omega)).mono ?_
      rintro e w2 ⟨rfl, hB2, hb2⟩
      have HB2 := Lib.hid hB2
      clear hB2
      go_wp2_with fail
      go_roundw
      case rel =>
        refine ⟨k + 1, by omega, by go_num, ?_, by rw [HS.out, List.length_append]; omega, (hbel.trans (hb1.mono hbs)).trans hb2⟩
        rw [HS.out, Lib.byteCells_append]
        have := HB2.out
        rw [Lib.strCells_eq] at this
        exact .inr this
      case measure => simp [intOf]; omega
    · have hall : xs.take k = xs := List.take_of_length_le (by omega)
      have HT := Lib.hid hall
      clear hall
      have hbs := hbel.size
      have hB1 := HB.out
      rw [HT.out] at hB1
      have HB1 := Lib.hid hB1
      clear hB1
      go_wp2_with fail
      refine (Sh.Builder_String_any w.heap.size w.heap.size _ _ HB1.out hbs).mono ?_
      rintro e w1 ⟨rfl, hb1⟩
      go_wp2_with fail
      go_ret
      exact ⟨rfl, hbel.trans hb1⟩

set_option maxHeartbeats 400000 in
theorem uints_any (xs : List Nat) (A : Option Addr) (c : Nat) (w : World) (hl : Lies w w.heap.size A (u64s xs)) (hn : xs.length ≤ 300) (hx : ∀ x ∈ xs, x < 18446744073709551616) :
    Calls Tryz.prog 39 #[.slice A xs.length c] w fun e w' => e = .returned (.string ⟨(uBytes xs).toArray⟩) ∧ Below w.heap.size w w' := by
  have HL := Lib.hid hl
  have HA := Lib.hid hx
  clear hl hx
  go_enter Tryz.func39, Tryz.ntmps39
  go_wp2_with fail
  refine (row_u xs A c _ HL.out hn HA.out).mono ?_
  rintro e w1 ⟨rfl, hb1⟩
  go_wp2_with fail
  go_ret
  exact ⟨rfl, hb1⟩


/-! ### Ints -/

/-- The bytes of all of them, one behind the other. -/
def iBytes (xs : List Int) : List UInt8 := xs.flatMap fun x => Lib.uvarint (Lib.zigzag x)
theorem iBytes_snoc (xs : List Int) (k : Nat) (h : k < xs.length) : iBytes (xs.take (k + 1)) = iBytes (xs.take k) ++ Lib.uvarint (Lib.zigzag xs[k]) := by
  unfold iBytes
  rw [List.take_succ_eq_append_getElem h, List.flatMap_append]
  simp

set_option maxRecDepth 20000 in
set_option maxHeartbeats 2000000 in
theorem row_i (xs : List Int) (A : Option Addr) (c : Nat) (w : World) (hl : Lies w w.heap.size A (icells xs)) (hn : xs.length ≤ 300) (hx : ∀ x ∈ xs, -9223372036854775808 ≤ x ∧ x ≤ 9223372036854775807) :
    Calls Tryz.prog 80 #[.func (.func 81) #[] #[], .slice A xs.length c] w fun e w' => e = .returned (.string ⟨(iBytes xs).toArray⟩) ∧ Below w.heap.size w w' := by
  have hfresh := Lib.fresh_isBuilder 88 5 w
  have HL := Lib.hid hl
  have HA := Lib.hid hx
  have HF := Lib.hid hfresh
  clear hl hx hfresh
  go_enter Tryz.func80, Tryz.ntmps80
  go_wp2_with fail
  go_loopw [10] (fun i wr => ∃ k : Nat, k ≤ xs.length ∧ i = .int .i64 k ∧ Lib.IsBuilder 88 5 w.heap.size w.heap.size (Lib.byteCells (iBytes (xs.take k))) wr ∧ (iBytes (xs.take k)).length ≤ 10 * k ∧ Below w.heap.size w wr)
    (fun i _ => xs.length - (intOf i).toNat)
  case atStart => exact ⟨0, Nat.zero_le _, rfl, HF.out, by simp [iBytes], (Below.refl _ _).alloc (Nat.le_refl _) _⟩
  case round =>
    obtain ⟨k, hk, rfl, hbl, hlen, hbel⟩ := hrel
    have HB := Lib.hid hbl
    clear hbl
    by_cases hlt : k < xs.length
    · obtain ⟨ad, rfl, hb, hc⟩ := (HL.out.below hbel).at_ (icells_at hlt)
      clear hb
      have HX := Lib.hid (HA.out xs[k] (List.getElem_mem hlt))
      have HS := Lib.hid (iBytes_snoc xs k hlt)
      have hp := Lib.uvarint_length64 (Lib.zigzag_lt HX.out.1 HX.out.2)
      have hbs := hbel.size
      go_wp2_with fail
      refine (int_any _ _ (by have := HX.out; omega) (by have := HX.out; omega)).mono ?_
      rintro e w1 ⟨rfl, hb1⟩
      have h1 := hb1.size
      have hB1 : Lib.IsBuilder 88 5 w.heap.size w.heap.size (Lib.byteCells (iBytes (xs.take k))) w1 := bld_keep HB.out hb1
      have HB1 := Lib.hid hB1
      clear hB1
      go_wp2_with fail
      refine (write_any w.heap.size w.heap.size _ _ _ HB1.out (by rw [Lib.byteCells_length, mk_size]; omega) (by omega)).mono ?_
      rintro e w2 ⟨rfl, hB2, hb2⟩
      have HB2 := Lib.hid hB2
      clear hB2
      go_wp2_with fail
      go_roundw
      case rel =>
        refine ⟨k + 1, by omega, by go_num, ?_, by rw [HS.out, List.length_append]; omega, (hbel.trans (hb1.mono hbs)).trans hb2⟩
        rw [HS.out, Lib.byteCells_append]
        have := HB2.out
        rw [Lib.strCells_eq] at this
        exact .inr this
      case measure => simp [intOf]; omega
    · have hall : xs.take k = xs := List.take_of_length_le (by omega)
      have HT := Lib.hid hall
      clear hall
      have hbs := hbel.size
      have hB1 := HB.out
      rw [HT.out] at hB1
      have HB1 := Lib.hid hB1
      clear hB1
      go_wp2_with fail
      refine (Sh.Builder_String_any w.heap.size w.heap.size _ _ HB1.out hbs).mono ?_
      rintro e w1 ⟨rfl, hb1⟩
      go_wp2_with fail
      go_ret
      exact ⟨rfl, hbel.trans hb1⟩

set_option maxHeartbeats 400000 in
theorem ints_any (xs : List Int) (A : Option Addr) (c : Nat) (w : World) (hl : Lies w w.heap.size A (icells xs)) (hn : xs.length ≤ 300) (hx : ∀ x ∈ xs, -9223372036854775808 ≤ x ∧ x ≤ 9223372036854775807) :
    Calls Tryz.prog 67 #[.slice A xs.length c] w fun e w' => e = .returned (.string ⟨(iBytes xs).toArray⟩) ∧ Below w.heap.size w w' := by
  have HL := Lib.hid hl
  have HA := Lib.hid hx
  clear hl hx
  go_enter Tryz.func67, Tryz.ntmps67
  go_wp2_with fail
  refine (row_i xs A c _ HL.out hn HA.out).mono ?_
  rintro e w1 ⟨rfl, hb1⟩
  go_wp2_with fail
  go_ret
  exact ⟨rfl, hb1⟩


/-! ### Texts -/

theorem text_len (x : ByteArray) (h : x.size ≤ 4096) : (Lib.uvarint x.size ++ x.data.toList).length ≤ 4106 := by
  have := Lib.uvarint_length64 (x := x.size) (by omega)
  have h3 : x.data.toList.length = x.size := by simp
  rw [List.length_append]
  omega
theorem text_len_big (x : ByteArray) (h : x.size ≤ 1048576) : (Lib.uvarint x.size ++ x.data.toList).length ≤ 1048586 := by
  have := Lib.uvarint_length64 (x := x.size) (by omega)
  have h3 : x.data.toList.length = x.size := by simp
  rw [List.length_append]
  omega

/-- The bytes of all of them, one behind the other. -/
def tBytes (xs : List ByteArray) : List UInt8 := xs.flatMap fun x => (Lib.uvarint x.size ++ x.data.toList)
theorem tBytes_snoc (xs : List ByteArray) (k : Nat) (h : k < xs.length) : tBytes (xs.take (k + 1)) = tBytes (xs.take k) ++ (Lib.uvarint (xs[k]).size ++ (xs[k]).data.toList) := by
  unfold tBytes
  rw [List.take_succ_eq_append_getElem h, List.flatMap_append]
  simp

/-! ### Bools -/

/-- The bytes of all of them, one behind the other. -/
def bBytes (xs : List Bool) : List UInt8 := xs.flatMap fun x => bitB x
theorem bBytes_snoc (xs : List Bool) (k : Nat) (h : k < xs.length) : bBytes (xs.take (k + 1)) = bBytes (xs.take k) ++ bitB xs[k] := by
  unfold bBytes
  rw [List.take_succ_eq_append_getElem h, List.flatMap_append]
  simp

end Go.Proofs.YtkigoidklonhcaaGreatDoor
end
