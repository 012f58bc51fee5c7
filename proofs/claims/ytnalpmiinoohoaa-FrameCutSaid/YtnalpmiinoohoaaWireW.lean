/-
  Contracts of wire's writers: Uints, Ints, Texts, Bools: the bytes of all, one behind the other. (Made by wip/tools/wirerow.py.)
-/
import Derived.Test.YtnalpmiinoohoaaWireB
import Derived.Test.YtnalpmiinoohoaaNumU
import Derived.ShutString
namespace Go.Proofs.Ytnalpmiinoohoaa
open Go.RowKit

theorem retS {a b : List UInt8} (h : a = b) : Ending.returned (.string ⟨a.toArray⟩) = .returned (.string ⟨b.toArray⟩) := by rw [h]

theorem cat_mk (l : List UInt8) (s : ByteArray) : (⟨l.toArray⟩ : ByteArray) ++ s = ⟨(l ++ s.data.toList).toArray⟩ := by
  apply ByteArray.ext
  simp

set_option maxHeartbeats 400000 in
/-- A text's bytes: how many, and these. -/
theorem text_any (s : ByteArray) (w : World) (hs : s.size ≤ 1048576) :
    Calls Try.prog 31 #[.string s] w fun e w' => e = .returned (.string ⟨(Lib.uvarint s.size ++ s.data.toList).toArray⟩) ∧ Below w.heap.size w w' := by
  have hl := Lib.uvarint_length64 (x := s.size) (by omega)
  have hm : (s.size : Int) ≤ 1048576 := by omega
  have HZ := Lib.hid (show (⟨(Lib.uvarint s.size).toArray⟩ : ByteArray).size = (Lib.uvarint s.size).length from rfl)
  go_enter Try.func31, Try.ntmps31
  go_wp2_with fail
  refine (uint_any _ _ (by omega) (by omega)).mono ?_
  rintro e w1 ⟨rfl, hb1⟩
  rw [Int.toNat_natCast]
  go_wp2_with fail
  go_ret
  exact ⟨by rw [cat_mk]; rfl, hb1⟩

theorem uv0 : Lib.uvarint (0 : Int).toNat = [0] := by
  show Lib.uvarint 0 = _
  rw [Lib.uvarint_small (by omega)]; rfl
theorem uv1 : Lib.uvarint (1 : Int).toNat = [1] := by
  show Lib.uvarint 1 = _
  rw [Lib.uvarint_small (by omega)]; rfl

/-- A truth's byte. -/
def bitB (x : Bool) : List UInt8 := [if x then 1 else 0]
theorem bitB_len (x : Bool) : (bitB x).length ≤ 10 := by unfold bitB; simp

/-! ### Uints -/

/-- The bytes of all of them, one behind the other. -/
def uBytes (xs : List Nat) : List UInt8 := xs.flatMap fun x => Lib.uvarint x
theorem uBytes_snoc (xs : List Nat) (k : Nat) (h : k < xs.length) : uBytes (xs.take (k + 1)) = uBytes (xs.take k) ++ Lib.uvarint xs[k] := by
  unfold uBytes
  rw [List.take_succ_eq_append_getElem h, List.flatMap_append]
  simp

/-! ### Ints -/

def icells (xs : List Int) : List Value := xs.map fun x : Int => Value.int .i64 x
theorem icells_at {xs : List Int} {k : Nat} (h : k < xs.length) : (icells xs)[k]? = some (.int .i64 xs[k]) := by
  unfold icells
  rw [List.getElem?_map, List.getElem?_eq_getElem h]
  rfl

/-- The bytes of all of them, one behind the other. -/
def iBytes (xs : List Int) : List UInt8 := xs.flatMap fun x => Lib.uvarint (Lib.zigzag x)
theorem iBytes_snoc (xs : List Int) (k : Nat) (h : k < xs.length) : iBytes (xs.take (k + 1)) = iBytes (xs.take k) ++ Lib.uvarint (Lib.zigzag xs[k]) := by
  unfold iBytes
  rw [List.take_succ_eq_append_getElem h, List.flatMap_append]
  simp

/-! ### Texts -/

theorem text_len (x : ByteArray) (h : x.size ≤ 4096) : (Lib.uvarint x.size ++ x.data.toList).length ≤ 4106 := by
  have := Lib.uvarint_length64 (x := x.size) (by omega)
  have h3 : x.data.toList.length = x.size := by simp
  rw [List.length_append]
  omega
theorem text_len_big (x : ByteArray) (h : x.size ≤ 1048576) : (Lib.uvarint x.size ++ x.data.toList).length ≤ 1048586 := by
  have := Lib.uvarint_length64 (x := x.size) (by omega)
  have h3 : x.data.toList.length = x.size := by simp
  rw [List.length_append]
  omega

def tcells (xs : List ByteArray) : List Value := xs.map fun x : ByteArray => Value.string x
theorem tcells_at {xs : List ByteArray} {k : Nat} (h : k < xs.length) : (tcells xs)[k]? = some (.string xs[k]) := by
  unfold tcells
  rw [List.getElem?_map, List.getElem?_eq_getElem h]
  rfl

/-- The bytes of all of them, one behind the other. -/
def tBytes (xs : List ByteArray) : List UInt8 := xs.flatMap fun x => (Lib.uvarint x.size ++ x.data.toList)
theorem tBytes_snoc (xs : List ByteArray) (k : Nat) (h : k < xs.length) : tBytes (xs.take (k + 1)) = tBytes (xs.take k) ++ (Lib.uvarint (xs[k]).size ++ (xs[k]).data.toList) := by
  unfold tBytes
  rw [List.take_succ_eq_append_getElem h, List.flatMap_append]
  simp

set_option maxRecDepth 20000 in
set_option maxHeartbeats 2000000 in
theorem row_t (xs : List ByteArray) (A : Option Addr) (c : Nat) (w : World) (hl : Lies w w.heap.size A (tcells xs)) (hn : xs.length ≤ 300) (hx : ∀ x ∈ xs, x.size ≤ 1048576) :
    Calls Try.prog 30 #[.func (.func 31) #[] #[], .slice A xs.length c] w fun e w' => e = .returned (.string ⟨(tBytes xs).toArray⟩) ∧ Below w.heap.size w w' := by
  have hfresh := Lib.fresh_isBuilder 73 5 w
  have HL := Lib.hid hl
  have HA := Lib.hid hx
  have HF := Lib.hid hfresh
  clear hl hx hfresh
  go_enter Try.func30, Try.ntmps30
  go_wp2_with fail
  go_loopw [10] (fun i wr => ∃ k : Nat, k ≤ xs.length ∧ i = .int .i64 k ∧ Lib.IsBuilder 73 5 w.heap.size w.heap.size (Lib.byteCells (tBytes (xs.take k))) wr ∧ (tBytes (xs.take k)).length ≤ 1048586 * k ∧ Below w.heap.size w wr)
    (fun i _ => xs.length - (intOf i).toNat)
  case atStart => exact ⟨0, Nat.zero_le _, rfl, HF.out, by simp [tBytes], (Below.refl _ _).alloc (Nat.le_refl _) _⟩
  case round =>
    obtain ⟨k, hk, rfl, hbl, hlen, hbel⟩ := hrel
    have HB := Lib.hid hbl
    clear hbl
    by_cases hlt : k < xs.length
    · obtain ⟨ad, rfl, hb, hc⟩ := (HL.out.below hbel).at_ (tcells_at hlt)
      clear hb
      have HX := Lib.hid (HA.out xs[k] (List.getElem_mem hlt))
      have HS := Lib.hid (tBytes_snoc xs k hlt)
      have hp := text_len_big xs[k] HX.out
      have hbs := hbel.size
      go_wp2_with fail
      refine (text_any _ _ HX.out).mono ?_
      rintro e w1 ⟨rfl, hb1⟩
      have h1 := hb1.size
      have hB1 : Lib.IsBuilder 73 5 w.heap.size w.heap.size (Lib.byteCells (tBytes (xs.take k))) w1 := bld_keep HB.out hb1
      have HB1 := Lib.hid hB1
      clear hB1
      go_wp2_with fail
      refine (write_any w.heap.size w.heap.size _ _ _ HB1.out (by rw [Lib.byteCells_length, mk_size]; omega) (by omega)).mono ?_
      rintro e w2 ⟨rfl, hB2, hb2⟩
      have HB2 := Lib.hid hB2
      clear hB2
      go_wp2_with fail
      go_roundw
      case rel =>
        refine ⟨k + 1, by omega, by go_num, ?_, by rw [HS.out, List.length_append]; omega, (hbel.trans (hb1.mono hbs)).trans hb2⟩
        rw [HS.out, Lib.byteCells_append]
        have := HB2.out
        rw [Lib.strCells_eq] at this
        exact .inr this
      case measure => simp [intOf]; omega
    · have hall : xs.take k = xs := List.take_of_length_le (by omega)
      have HT := Lib.hid hall
      clear hall
      have hbs := hbel.size
      have hB1 := HB.out
      rw [HT.out] at hB1
      have HB1 := Lib.hid hB1
      clear hB1
      go_wp2_with fail
      refine (Sh.Builder_String_any w.heap.size w.heap.size _ _ HB1.out hbs).mono ?_
      rintro e w1 ⟨rfl, hb1⟩
      go_wp2_with fail
      go_ret
      exact ⟨rfl, hbel.trans hb1⟩

set_option maxHeartbeats 400000 in
theorem texts_big (xs : List ByteArray) (A : Option Addr) (c : Nat) (w : World) (hl : Lies w w.heap.size A (tcells xs)) (hn : xs.length ≤ 300) (hx : ∀ x ∈ xs, x.size ≤ 1048576) :
    Calls Try.prog 18 #[.slice A xs.length c] w fun e w' => e = .returned (.string ⟨(tBytes xs).toArray⟩) ∧ Below w.heap.size w w' := by
  have HL := Lib.hid hl
  have HA := Lib.hid hx
  clear hl hx
  go_enter Try.func18, Try.ntmps18
  go_wp2_with fail
  refine (row_t xs A c _ HL.out hn HA.out).mono ?_
  rintro e w1 ⟨rfl, hb1⟩
  go_wp2_with fail
  go_ret
  exact ⟨rfl, hb1⟩

theorem texts_any (xs : List ByteArray) (A : Option Addr) (c : Nat) (w : World) (hl : Lies w w.heap.size A (tcells xs)) (hn : xs.length ≤ 300) (hx : ∀ x ∈ xs, x.size ≤ 4096) :
    Calls Try.prog 18 #[.slice A xs.length c] w fun e w' => e = .returned (.string ⟨(tBytes xs).toArray⟩) ∧ Below w.heap.size w w' :=
  texts_big xs A c w hl hn (fun x h => Nat.le_trans (hx x h) (by decide))


/-! ### Bools -/

def bcells (xs : List Bool) : List Value := xs.map fun x : Bool => Value.bool x
theorem bcells_at {xs : List Bool} {k : Nat} (h : k < xs.length) : (bcells xs)[k]? = some (.bool xs[k]) := by
  unfold bcells
  rw [List.getElem?_map, List.getElem?_eq_getElem h]
  rfl

/-- The bytes of all of them, one behind the other. -/
def bBytes (xs : List Bool) : List UInt8 := xs.flatMap fun x => bitB x
theorem bBytes_snoc (xs : List Bool) (k : Nat) (h : k < xs.length) : bBytes (xs.take (k + 1)) = bBytes (xs.take k) ++ bitB xs[k] := by
  unfold bBytes
  rw [List.take_succ_eq_append_getElem h, List.flatMap_append]
  simp

end Go.Proofs.Ytnalpmiinoohoaa
