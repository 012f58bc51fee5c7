/-
  Contracts of what wire calls in the library: strings.Builder's WriteString, strings.Clone, slices.Contains at []uint64.
  Contracts of wire's writers: Uints, Ints, Texts, Bools: the bytes of all, one behind the other. (Made by wip/tools/wirerow.py.)
-/
import Derived.Test.YtepnofklmdofmaaGreatDoorChecked
import Derived.Test.YtepnofklmdofmaaGreatDoorLowOpen
import Derived.Test.YtepnofklmdofmaaGreatDoorLowNum
import Derived.Test.YtepnofklmdofmaaGreatDoorWireM
import Derived.Lib.Builder
import Derived.Lib.AppendStr
import Derived.Laws.Externs
import Derived.BigCall
import Derived.ShutString
section
namespace Go.Proofs.YtepnofklmdofmaaGreatDoor
open Go.RowKit

/-! ### strings.Builder -/
theorem byte_info : (Tryz.prog.info? 5).map (fun i => (i.zero, i.size, i.bytes)) = some (some (.int .u8 0), 1, 1) := by kernel_rfl

theorem grown_of {w w' : World} (hb : Below w.heap.size w w') (row : Option Nat) : w.grownBy w' row := ⟨hb.os, hb.tape, hb.output, hb.size, fun k hk _ => hb.block k hk⟩

/-- A builder stays what it is where new blocks are laid. -/
theorem bld_keep {T e : TypeId} {B b : Nat} {bs : List Value} {w w' : World} (h : Lib.IsBuilder T e B b bs w) (hb : Below w.heap.size w w') : Lib.IsBuilder T e B b bs w' := by
  have key : ∀ p, Lib.BuilderAt T e B b p bs w → Lib.BuilderAt T e B b p bs w' := by
    rintro p ⟨hB, v, hbk, hown, hne⟩
    have hlt : b < w.heap.size := Lib.BuilderAt.lt ⟨hB, v, hbk, hown, hne⟩
    exact ⟨hB, v, (hb.block b hlt).trans hbk, hown.kept (grown_of hb none) (by cases v.ownBlock <;> simp), hne⟩
  rcases h with h | h
  · exact .inl (key _ h)
  · exact .inr (key _ h)

theorem mk_size (l : List UInt8) : (⟨l.toArray⟩ : ByteArray).size = l.length := rfl

set_option maxHeartbeats 400000 in
theorem clone_any (s : ByteArray) (w : World) (hs : s.size ≤ 281474976710656) :
    Calls Tryz.prog 68 #[.string s] w fun e w' => e = .returned (.string s) ∧ Below w.heap.size w w' := by
  go_enter Tryz.func68, Tryz.ntmps68
  go_wp2_with fail
  refine (Sh.stringslite_Clone s _ hs).mono ?_
  rintro e w1 ⟨rfl, hb1⟩
  go_wp2_with fail
  go_ret
  exact ⟨rfl, hb1⟩

/-- What slices.Index comes to, as far as slices.Contains asks. -/
def Found (x : Nat) (xs : List Nat) (w : World) (e : Ending) (w' : World) : Prop := ∃ i : Int, e = .returned (.int .i64 i) ∧ ((0 ≤ i ∧ x ∈ xs) ∨ (i = -1 ∧ x ∉ xs)) ∧ w = w'

end Go.Proofs.YtepnofklmdofmaaGreatDoor
end

section
namespace Go.Proofs.YtepnofklmdofmaaGreatDoor
open Go.RowKit

theorem retS {a b : List UInt8} (h : a = b) : Ending.returned (.string ⟨a.toArray⟩) = .returned (.string ⟨b.toArray⟩) := by rw [h]

theorem cat_mk (l : List UInt8) (s : ByteArray) : (⟨l.toArray⟩ : ByteArray) ++ s = ⟨(l ++ s.data.toList).toArray⟩ := by
  apply ByteArray.ext
  simp

theorem uv0 : Lib.uvarint (0 : Int).toNat = [0] := by
  show Lib.uvarint 0 = _
  rw [Lib.uvarint_small (by omega)]; rfl
theorem uv1 : Lib.uvarint (1 : Int).toNat = [1] := by
  show Lib.uvarint 1 = _
  rw [Lib.uvarint_small (by omega)]; rfl

/-- A truth's byte. -/
def bitB (x : Bool) : List UInt8 := [if x then 1 else 0]
theorem bitB_len (x : Bool) : (bitB x).length ≤ 10 := by unfold bitB; simp

/-! ### Uints -/

/-- The bytes of all of them, one behind the other. -/
def uBytes (xs : List Nat) : List UInt8 := xs.flatMap fun x => Lib.uvarint x
theorem uBytes_snoc (xs : List Nat) (k : Nat) (h : k < xs.length) : uBytes (xs.take (k + 1)) = uBytes (xs.take k) ++ Lib.uvarint xs[k] := by
  unfold uBytes
  rw [List.take_succ_eq_append_getElem h, List.flatMap_append]
  simp

/-! ### Ints -/

/-- The bytes of all of them, one behind the other. -/
def iBytes (xs : List Int) : List UInt8 := xs.flatMap fun x => Lib.uvarint (Lib.zigzag x)
theorem iBytes_snoc (xs : List Int) (k : Nat) (h : k < xs.length) : iBytes (xs.take (k + 1)) = iBytes (xs.take k) ++ Lib.uvarint (Lib.zigzag xs[k]) := by
  unfold iBytes
  rw [List.take_succ_eq_append_getElem h, List.flatMap_append]
  simp

/-! ### Texts -/

theorem text_len (x : ByteArray) (h : x.size ≤ 4096) : (Lib.uvarint x.size ++ x.data.toList).length ≤ 4106 := by
  have := Lib.uvarint_length64 (x := x.size) (by omega)
  have h3 : x.data.toList.length = x.size := by simp
  rw [List.length_append]
  omega
theorem text_len_big (x : ByteArray) (h : x.size ≤ 1048576) : (Lib.uvarint x.size ++ x.data.toList).length ≤ 1048586 := by
  have := Lib.uvarint_length64 (x := x.size) (by omega)
  have h3 : x.data.toList.length = x.size := by simp
  rw [List.length_append]
  omega

/-- The bytes of all of them, one behind the other. -/
def tBytes (xs : List ByteArray) : List UInt8 := xs.flatMap fun x => (Lib.uvarint x.size ++ x.data.toList)
theorem tBytes_snoc (xs : List ByteArray) (k : Nat) (h : k < xs.length) : tBytes (xs.take (k + 1)) = tBytes (xs.take k) ++ (Lib.uvarint (xs[k]).size ++ (xs[k]).data.toList) := by
  unfold tBytes
  rw [List.take_succ_eq_append_getElem h, List.flatMap_append]
  simp

/-! ### Bools -/

/-- The bytes of all of them, one behind the other. -/
def bBytes (xs : List Bool) : List UInt8 := xs.flatMap fun x => bitB x
theorem bBytes_snoc (xs : List Bool) (k : Nat) (h : k < xs.length) : bBytes (xs.take (k + 1)) = bBytes (xs.take k) ++ bitB xs[k] := by
  unfold bBytes
  rw [List.take_succ_eq_append_getElem h, List.flatMap_append]
  simp

end Go.Proofs.YtepnofklmdofmaaGreatDoor
end
