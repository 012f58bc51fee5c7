/-
  Contracts of the document's answers for frames: Raw, Read, Scan.
-/
import Derived.Test.YtnalpmiinoohoaaFrameM
import Derived.Test.YtnalpmiinoohoaaWireF
import Derived.Test.YtnalpmiinoohoaaSumRef
import Derived.Test.YtnalpmiinoohoaaNumRefR
import Derived.BigQuiet
import Derived.Deep.RegionWith
import Derived.Deep.DrawnRows
import Derived.Deep.RegionHeld3
import Derived.Deep.DeepCutAuto
import Derived.WalkSmall
namespace Go.Proofs.Ytnalpmiinoohoaa
open Go.RowKit

theorem conv_two (W : World) (b : Nat) (x y : Int) (h : W.cell? ⟨b, 0, none⟩ = some (.int .u8 x)) (h' : W.cell? ⟨b, 1, none⟩ = some (.int .u8 y)) :
    (convert 44 9 (.slice (some ⟨b, 0, none⟩) 2 2)).run Try.prog W = .ok (.string ⟨#[UInt8.ofNat x.toNat, UInt8.ofNat y.toNat]⟩) W := by
  have := run_convert_bytes_arg (P := Try.prog) W 44 5 Try.underlying44 Try.underlying5 b 0 2 2 [x, y] rfl
    (fun i hi => by
      have : i = 0 ∨ i = 1 := by omega
      rcases this with rfl | rfl
      · exact h
      · exact h') 9 Try.underlying9
  simpa [strOfNums] using this

namespace Frame
theorem hd_bytes (tag : UInt8) (t : ByteArray) : (⟨#[1, tag]⟩ : ByteArray) ++ ⟨(Lib.uvarint t.size ++ t.data.toList).toArray⟩ = ⟨(hd tag t.data.toList).toArray⟩ := by
  have e : t.data.toList.length = t.size := by simp
  unfold hd
  rw [e]
  apply ByteArray.ext
  simp
theorem raw_bytes (tag : UInt8) (t : List UInt8) : (⟨(hd tag t).toArray⟩ : ByteArray) ++ Crc.four (Crc.on 0 (hd tag t)) = ⟨(raw tag t).toArray⟩ := by
  unfold raw Crc.four Crc.fourL
  apply ByteArray.ext
  simp
end Frame

set_option maxRecDepth 20000 in
set_option maxHeartbeats 1000000 in
theorem fraw_any (tag : UInt8) (t : ByteArray) (w : World) (ht : t.size ≤ 1000000) :
    Calls Try.prog 10 #[.int .u8 (tag.toNat : Int), .string t] w fun e w' => e = .returned (.string ⟨(Frame.raw tag t.data.toList).toArray⟩) ∧ Below w.heap.size w w' := by
  have hcv := fun b W => conv_two W b 1 (tag.toNat : Int)
  have hlen := Lib.uvarint_length64 (x := t.size) (by omega)
  have HB := Lib.hid (Frame.hd_bytes tag t)
  have HR := Lib.hid (Frame.raw_bytes tag t.data.toList)
  have HL : Hid ((Frame.hd tag t.data.toList).length = 2 + (Lib.uvarint t.size).length + t.size) := by
    show _ = _
    rw [Frame.hd_length]; simp
  have HT := Lib.hid (show UInt8.ofNat ((tag.toNat : Int)).toNat = tag by simp)
  have hlt := Crc.on_lt (a := 0) (Frame.hd tag t.data.toList) (by decide)
  go_enter Try.func10, Try.ntmps10
  go_upto_region 1 with fail
  go_cut [5] (fun v wx => v = .string ⟨(Frame.hd tag t.data.toList).toArray⟩ ∧ Below w.heap.size w wx)
  case first =>
    go_region_with ((go_at_call 22; refine (ftext_any t _ (by omega)).mono ?_; rintro e w1 ⟨rfl, hb⟩; obtain ⟨hcl, hfr⟩ := kept_cells hb))
    all_goals
      go_wp2
      go_meet
      refine ⟨by rw [HB.out], ?_⟩
      first
        | exact ((((Below.refl _ _).drew).alloc (by simp) _)).trans (hb.mono (by simp))
        | exact ((((Below.refl _ _).alloc (Nat.le_refl _) _).drew).trans (hb.mono (by simp)))
        | exact ((Below.refl _ _).drew.trans hb).alloc (by have := hb.size; simpa using this) _
  case rest =>
    obtain ⟨rfl, hbel⟩ := hcut
    have l1 : (Frame.hd tag t.data.toList).length ≤ 1000100 := by have := HL.out; omega
    have l2 : (Crc.four (Crc.on 0 (Frame.hd tag t.data.toList))).size ≤ 4 := Nat.le_refl 4
    clear hcv
    go_wp2_with fail
    refine (rof_any _ _ (by rw [mk_size, HL.out]; omega)).mono ?_
    rintro e w2 ⟨rfl, hb2⟩
    go_wp2_with fail
    refine (rbytes_any _ _ hlt).mono ?_
    rintro e w3 ⟨rfl, hb3⟩
    go_wp2_with fail
    go_ret
    exact ⟨by rw [HR.out]; rfl, (hbel.trans (hb2.mono hbel.size)).trans (hb3.mono (by have := hbel.size; have := hb2.size; omega))⟩

namespace Frame
/-- What Read answers, as a value. -/
def val (r : UInt8 × List UInt8 × Nat × Nat) : Value := .tuple #[.agg #[.int .u8 (r.1.toNat : Int), .string ⟨r.2.1.toArray⟩], .int .i64 (r.2.2.1 : Int), .int .i64 (r.2.2.2 : Int)]
theorem val_bad (e : Nat) : val (bad e) = .tuple #[.agg #[.int .u8 0, .string ⟨#[]⟩], .int .i64 0, .int .i64 (e : Int)] := rfl
theorem two (s : ByteArray) (h : 2 ≤ s.size) : s.data.toList = s[0] :: s[1] :: (s.extract 2 s.size).data.toList := by
  have hl : s.data.toList.length = s.size := by simp
  rw [Lib.extract_data, List.take_of_length_le (by rw [List.length_drop]; omega)]
  have e1 := List.drop_eq_getElem_cons (l := s.data.toList) (i := 1) (by omega)
  have e0 := List.drop_eq_getElem_cons (l := s.data.toList) (i := 0) (by omega)
  exact e0.trans (congrArg (s.data.toList[0] :: ·) e1)
theorem one (s : ByteArray) (h : s.size = 1) : s.data.toList = [s[0]] := by
  have hl : s.data.toList.length = s.size := by simp
  have h1 : s.data.toList.drop 1 = [] := List.drop_of_length_le (by omega)
  have := List.drop_eq_getElem_cons (l := s.data.toList) (i := 0) (by omega)
  rw [List.drop_zero, h1] at this
  exact this
theorem cells2 {w1 : World} {B : Nat} {a b : Value} (h0 : w1.cell? ⟨B, 0, none⟩ = some a) (h1 : w1.cell? ⟨B, 1, none⟩ = some b) (x y : Value) :
    (w1.setCell ⟨B, 0, none⟩ x).cell? ⟨B, 0, none⟩ = some x ∧ ((w1.setCell ⟨B, 0, none⟩ x).setCell ⟨B, 1, none⟩ y).cell? ⟨B, 1, none⟩ = some y := by
  have h1' : (w1.setCell ⟨B, 0, none⟩ x).cell? ⟨B, 1, none⟩ = some b := by
    rw [World.cell?_setCell_other _ _ _ _ (by intro hh; injection hh with _ h2 _; omega)]; exact h1
  exact ⟨World.cell?_setCell_same _ _ _ h0, World.cell?_setCell_same _ _ _ h1'⟩
theorem retV {a b : Value} (h : a = b) : Ending.returned a = .returned b := by rw [h]
end Frame
end Go.Proofs.Ytnalpmiinoohoaa
