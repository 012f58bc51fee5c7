/-
  Contracts of the document's answers for frames: Raw, Read, Scan.
  Contracts of the document's answers for frames: Read, where the length is told and all bytes are there.
  Contracts of the document's answers for frames: Read.
-/
import Derived.Test.YtpmhpibbdcifnaaGreatLowFrameP
import Derived.Test.YtpmhpibbdcifnaaGreatWireF
import Derived.Test.YtpmhpibbdcifnaaGreatLowSumRef
import Derived.Test.YtpmhpibbdcifnaaGreatLowNumRef
import Derived.BigQuiet
import Derived.Deep.RegionWith
import Derived.Deep.DrawnRows
import Derived.Deep.RegionHeld3
import Derived.Deep.DeepCutAuto
import Derived.WalkSmall
section
namespace Go.Proofs.YtpmhpibbdcifnaaGreat
open Go.RowKit

theorem conv_two (W : World) (b : Nat) (x y : Int) (h : W.cell? ⟨b, 0, none⟩ = some (.int .u8 x)) (h' : W.cell? ⟨b, 1, none⟩ = some (.int .u8 y)) :
    (convert 94 9 (.slice (some ⟨b, 0, none⟩) 2 2)).run Tryz.prog W = .ok (.string ⟨#[UInt8.ofNat x.toNat, UInt8.ofNat y.toNat]⟩) W := by
  have := run_convert_bytes_arg (P := Tryz.prog) W 94 5 Tryz.underlying94 Tryz.underlying5 b 0 2 2 [x, y] rfl
    (fun i hi => by
      have : i = 0 ∨ i = 1 := by omega
      rcases this with rfl | rfl
      · exact h
      · exact h') 9 Tryz.underlying9
  simpa [strOfNums] using this

namespace Frame
theorem hd_bytes (tag : UInt8) (t : ByteArray) : (⟨#[1, tag]⟩ : ByteArray) ++ ⟨(Lib.uvarint t.size ++ t.data.toList).toArray⟩ = ⟨(hd tag t.data.toList).toArray⟩ := by
  have e : t.data.toList.length = t.size := by simp
  unfold hd
  rw [e]
  apply ByteArray.ext
  simp
theorem raw_bytes (tag : UInt8) (t : List UInt8) : (⟨(hd tag t).toArray⟩ : ByteArray) ++ Crc.four (Crc.on 0 (hd tag t)) = ⟨(raw tag t).toArray⟩ := by
  unfold raw Crc.four Crc.fourL
  apply ByteArray.ext
  simp
end Frame

namespace Frame
/-- What Read answers, as a value. -/
def val (r : UInt8 × List UInt8 × Nat × Nat) : Value := .tuple #[.agg #[.int .u8 (r.1.toNat : Int), .string ⟨r.2.1.toArray⟩], .int .i64 (r.2.2.1 : Int), .int .i64 (r.2.2.2 : Int)]
theorem val_bad (e : Nat) : val (bad e) = .tuple #[.agg #[.int .u8 0, .string ⟨#[]⟩], .int .i64 0, .int .i64 (e : Int)] := rfl
theorem two (s : ByteArray) (h : 2 ≤ s.size) : s.data.toList = s[0] :: s[1] :: (s.extract 2 s.size).data.toList := by
  have hl : s.data.toList.length = s.size := by simp
  rw [Lib.extract_data, List.take_of_length_le (by rw [List.length_drop]; omega)]
  have e1 := List.drop_eq_getElem_cons (l := s.data.toList) (i := 1) (by omega)
  have e0 := List.drop_eq_getElem_cons (l := s.data.toList) (i := 0) (by omega)
  exact e0.trans (congrArg (s.data.toList[0] :: ·) e1)
theorem one (s : ByteArray) (h : s.size = 1) : s.data.toList = [s[0]] := by
  have hl : s.data.toList.length = s.size := by simp
  have h1 : s.data.toList.drop 1 = [] := List.drop_of_length_le (by omega)
  have := List.drop_eq_getElem_cons (l := s.data.toList) (i := 0) (by omega)
  rw [List.drop_zero, h1] at this
  exact this
theorem cells2 {w1 : World} {B : Nat} {a b : Value} (h0 : w1.cell? ⟨B, 0, none⟩ = some a) (h1 : w1.cell? ⟨B, 1, none⟩ = some b) (x y : Value) :
    (w1.setCell ⟨B, 0, none⟩ x).cell? ⟨B, 0, none⟩ = some x ∧ ((w1.setCell ⟨B, 0, none⟩ x).setCell ⟨B, 1, none⟩ y).cell? ⟨B, 1, none⟩ = some y := by
  have h1' : (w1.setCell ⟨B, 0, none⟩ x).cell? ⟨B, 1, none⟩ = some b := by
    rw [World.cell?_setCell_other _ _ _ _ (by intro hh; injection hh with _ h2 _; omega)]; exact h1
  exact ⟨World.cell?_setCell_same _ _ _ h0, World.cell?_setCell_same _ _ _ h1'⟩
theorem retV {a b : Value} (h : a = b) : Ending.returned a = .returned b := by rw [h]
end Frame
end Go.Proofs.YtpmhpibbdcifnaaGreat
end

section
namespace Go.Proofs.YtpmhpibbdcifnaaGreat
open Go.RowKit

theorem Frame.val_ok (tag : UInt8) (b : ByteArray) {p : Int} (k : Nat) (h : p = k) : Value.tuple #[.agg #[.int .u8 (tag.toNat : Int), .string b], .int .i64 p, .int .i64 0] = Frame.val (tag, b.data.toList, k, 0) := by
  subst h
  rfl
theorem Frame.keep {base : Nat} {w wx w2 : World} (h : Below base w wx) (hb : Below wx.heap.size wx w2) (hw : base ≤ w.heap.size := by exact Nat.le_refl _) : Below base w w2 :=
  h.trans (hb.mono (Nat.le_trans hw h.size))

end Go.Proofs.YtpmhpibbdcifnaaGreat
end

section
namespace Go.Proofs.YtpmhpibbdcifnaaGreat
open Go.RowKit

end Go.Proofs.YtpmhpibbdcifnaaGreat
end
