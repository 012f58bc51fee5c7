/-
  Contracts of the document's bricks: Uint, Int, Text, Bool.
-/
import Derived.Test.YtdmelkphankfiaaGreatLowWireW
import Derived.Test.YtdmelkphankfiaaGreatLowNumRef
namespace Go.Proofs.YtdmelkphankfiaaGreat
open Go.RowKit

set_option maxHeartbeats 400000 in
theorem fuint_any (x : Int) (w : World) (h0 : 0 ≤ x) (h1 : x ≤ 18446744073709551615) :
    Calls Tryz.prog 94 #[.int .u64 x] w fun e w' => e = .returned (.string ⟨(Lib.uvarint x.toNat).toArray⟩) ∧ Below w.heap.size w w' := by
  go_enter Tryz.func94, Tryz.ntmps94
  go_wp2_with fail
  refine (ruint_any _ _ h0 h1).mono ?_
  rintro e w1 ⟨rfl, hb1⟩
  go_wp2_with fail
  go_ret
  exact ⟨rfl, hb1⟩

set_option maxHeartbeats 400000 in
theorem ftext_any (s : ByteArray) (w : World) (hs : s.size ≤ 1048576) :
    Calls Tryz.prog 80 #[.string s] w fun e w' => e = .returned (.string ⟨(Lib.uvarint s.size ++ s.data.toList).toArray⟩) ∧ Below w.heap.size w w' := by
  have hl := Lib.uvarint_length64 (x := s.size) (by omega)
  have hm : (s.size : Int) ≤ 1048576 := by omega
  have HZ := Lib.hid (show (⟨(Lib.uvarint s.size).toArray⟩ : ByteArray).size = (Lib.uvarint s.size).length from rfl)
  go_enter Tryz.func80, Tryz.ntmps80
  go_wp2_with fail
  refine (fuint_any _ _ (by omega) (by omega)).mono ?_
  rintro e w1 ⟨rfl, hb1⟩
  rw [Int.toNat_natCast]
  go_wp2_with fail
  go_ret
  exact ⟨by rw [cat_mk]; rfl, hb1⟩

theorem mk_append (l m : List UInt8) : (⟨l.toArray⟩ : ByteArray) ++ ⟨m.toArray⟩ = ⟨(l ++ m).toArray⟩ := by
  apply ByteArray.ext
  simp
end Go.Proofs.YtdmelkphankfiaaGreat
