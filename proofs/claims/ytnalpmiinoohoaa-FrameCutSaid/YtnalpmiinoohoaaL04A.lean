/-
  The contract of layer 4's 'alive': it is true.
-/
import Derived.Test.YtnalpmiinoohoaaFrameW
import Derived.Test.YtnalpmiinoohoaaFrameS
import Derived.Test.YtnalpmiinoohoaaFrameRef
namespace Go.Proofs.Ytnalpmiinoohoaa
open Go.RowKit

namespace Frame
theorem uv3 : Lib.uvarint 3 = [3] := by rw [Lib.uvarint_small (by omega)]; first | done | rfl
theorem a_raw : raw 7 [97, 98, 99] = [1, 7, 3, 97, 98, 99, 35, 12, 97, 36] := by
  have h : hd 7 [97, 98, 99] = [1, 7, 3, 97, 98, 99] := by
    unfold hd
    rw [show ([97, 98, 99] : List UInt8).length = 3 from rfl, uv3]
    rfl
  unfold raw
  rw [h]
  decide +kernel
theorem a_cat : catL [⟨#[97]⟩, ⟨#[98, 99]⟩] = [97, 98, 99] := by rfl
theorem b_1 : rd ((⟨#[1, 7, 3, 97, 98, 99, 35, 12, 97, 36]⟩ : ByteArray) ++ ⟨#[120]⟩).data.toList 3 = (7, [97, 98, 99], 10, 0) := by decide +kernel
theorem b_2 : rd ((⟨#[1, 7, 3, 97, 98, 99, 35, 12, 97, 36]⟩ : ByteArray).extract 0 9).data.toList 3 = bad 40 := by decide +kernel
theorem b_3 : rd ((⟨#[2]⟩ : ByteArray) ++ (⟨#[1, 7, 3, 97, 98, 99, 35, 12, 97, 36]⟩ : ByteArray).extract 1 10).data.toList 3 = bad 42 := by decide +kernel
theorem b_4 : rd (⟨#[1, 7, 3, 97, 98, 99, 35, 12, 97, 36]⟩ : ByteArray).data.toList 2 = bad 4 := by decide +kernel
theorem b_5 : sc (((⟨#[1, 7, 3, 97, 98, 99, 35, 12, 97, 36]⟩ : ByteArray) ++ ⟨#[1, 7, 3, 97, 98, 99, 35, 12, 97, 36]⟩) ++ ⟨#[1]⟩).data.toList 9 = ([(7, [97, 98, 99]), (7, [97, 98, 99])], 20, 40) := by decide +kernel
theorem b_6 : raw 7 (⟨#[97, 98, 99]⟩ : ByteArray).data.toList = [1, 7, 3, 97, 98, 99, 35, 12, 97, 36] := a_raw
theorem uv1of (n : Nat) (h : n < 128) : (Lib.uvarint n).length = 1 := by rw [Lib.uvarint_small h]; rfl
theorem a_s0 : fsz 0 = 7 := by
  unfold fsz
  rw [if_neg (by omega), show (0 : Int).toNat = 0 from rfl, uv1of 0 (by omega)]
  rfl
theorem a_s200 : fsz 200 = 208 := by
  unfold fsz
  rw [if_neg (by omega), show (200 : Int).toNat = 200 from rfl, Lib.uvarint_big (by omega), List.length_cons, uv1of _ (by omega)]
  rfl
theorem a_sneg : fsz (-1) = 0 := by
  unfold fsz
  rw [if_pos (by omega)]
end Frame

set_option maxRecDepth 100000 in
set_option maxHeartbeats 4000000 in
theorem alive4_any (w : World) :
    Calls Try.prog 8 #[] w fun e w' => e = .returned (.bool true) ∧ Below w.heap.size w w' := by
  go_enter Try.func8, Try.ntmps8
  go_wp2_with fail
  refine (fwrite_tail 7 [⟨#[97]⟩, ⟨#[98, 99]⟩] _ 2 _ (lies_two _ _ _ _ (World.cell?_alloc_at _ _ _ _ rfl) (World.cell?_alloc_at _ _ _ _ rfl) (by simp)) (by decide) (by decide) (by decide)).mono ?_
  rw [Frame.a_cat, Frame.a_raw]
  rintro e w1 ⟨rfl, hb1⟩
  have z1 := hb1.size
  simp at z1
  have HB1 := Lib.hid (((Below.refl w.heap.size w).alloc (Nat.le_refl _) _).trans (hb1.mono (by simp)))
  clear hb1
  go_wp2_with fail
  refine (fread_any _ 3 _ (by decide) (by omega)).mono ?_
  rw [Frame.b_1]
  rintro e w2 ⟨rfl, hb2⟩
  have z2 := hb2.size
  have HB2 := Lib.hid (HB1.out.trans (hb2.mono (by omega)))
  clear hb2
  unfold Frame.val
  go_wp2_with fail
  refine (fread_any _ 3 _ (by decide) (by omega)).mono ?_
  rw [Frame.b_2, Frame.val_bad]
  rintro e w3 ⟨rfl, hb3⟩
  have c30 : w3.cell? ⟨w2.heap.size, 0, none⟩ = some (.int .u8 7) := ((kept_cells hb3).1 _ _ (by simp)).trans (by simp [go_sem])
  have c31 : w3.cell? ⟨w2.heap.size, 1, none⟩ = some (.string ⟨#[97, 98, 99]⟩) := ((kept_cells hb3).1 _ _ (by simp)).trans (by simp [go_sem])
  have z3 := hb3.size
  simp at z3
  have HB3 := Lib.hid ((HB2.out.alloc (by omega) _).trans (hb3.mono (by simp; omega)))
  clear hb3
  go_wp2_with fail
  refine (fread_any _ 3 _ (by decide) (by omega)).mono ?_
  rw [Frame.b_3, Frame.val_bad]
  rintro e w4 ⟨rfl, hb4⟩
  have c40 : w4.cell? ⟨w2.heap.size, 0, none⟩ = some (.int .u8 7) := ((kept_cells hb4).1 _ _ (by simp; omega)).trans ((World.cell?_alloc_lt _ _ _ (by simp; omega)).trans c30)
  have c41 : w4.cell? ⟨w2.heap.size, 1, none⟩ = some (.string ⟨#[97, 98, 99]⟩) := ((kept_cells hb4).1 _ _ (by simp; omega)).trans ((World.cell?_alloc_lt _ _ _ (by simp; omega)).trans c31)
  have z4 := hb4.size
  simp at z4
  have HB4 := Lib.hid ((HB3.out.alloc (by omega) _).trans (hb4.mono (by simp; omega)))
  clear hb4 c30 c31
  go_wp2_with fail
  refine (fread_any _ 2 _ (by decide) (by omega)).mono ?_
  rw [Frame.b_4, Frame.val_bad]
  rintro e w5 ⟨rfl, hb5⟩
  have c50 : w5.cell? ⟨w2.heap.size, 0, none⟩ = some (.int .u8 7) := ((kept_cells hb5).1 _ _ (by simp; omega)).trans ((World.cell?_alloc_lt _ _ _ (by simp; omega)).trans c40)
  have c51 : w5.cell? ⟨w2.heap.size, 1, none⟩ = some (.string ⟨#[97, 98, 99]⟩) := ((kept_cells hb5).1 _ _ (by simp; omega)).trans ((World.cell?_alloc_lt _ _ _ (by simp; omega)).trans c41)
  have z5 := hb5.size
  simp at z5
  have HB5 := Lib.hid ((HB4.out.alloc (by omega) _).trans (hb5.mono (by simp; omega)))
  clear hb5 c40 c41
  go_wp2_with fail
  refine (fscan_any _ 9 _ (by omega) (by decide)).mono ?_
  rw [Frame.b_5]
  rintro e w6 ⟨A, cp, rfl, _, _, hb6⟩
  have c60 : w6.cell? ⟨w2.heap.size, 0, none⟩ = some (.int .u8 7) := ((kept_cells hb6).1 _ _ (by simp; omega)).trans ((World.cell?_alloc_lt _ _ _ (by simp; omega)).trans c50)
  have c61 : w6.cell? ⟨w2.heap.size, 1, none⟩ = some (.string ⟨#[97, 98, 99]⟩) := ((kept_cells hb6).1 _ _ (by simp; omega)).trans ((World.cell?_alloc_lt _ _ _ (by simp; omega)).trans c51)
  have z6 := hb6.size
  simp at z6
  have HB6 := Lib.hid ((HB5.out.alloc (by omega) _).trans (hb6.mono (by simp; omega)))
  clear hb6 c50 c51
  go_wp2_with fail
  refine (fraw_any 7 ⟨#[97, 98, 99]⟩ _ (by decide)).mono ?_
  rw [Frame.b_6]
  rintro e w7 ⟨rfl, hb7⟩
  have c70 : w7.cell? ⟨w2.heap.size, 0, none⟩ = some (.int .u8 7) := ((kept_cells hb7).1 _ _ (by omega)).trans c60
  have c71 : w7.cell? ⟨w2.heap.size, 1, none⟩ = some (.string ⟨#[97, 98, 99]⟩) := ((kept_cells hb7).1 _ _ (by omega)).trans c61
  have z7 := hb7.size
  have HB7 := Lib.hid (HB6.out.trans (hb7.mono (by omega)))
  clear hb7 c60 c61
  go_wp2_with fail
  refine (fsize_any 0 _ (by omega) (by omega)).mono ?_
  rw [Frame.a_s0]
  rintro e w8 ⟨rfl, rfl⟩
  go_wp2_with fail
  refine (fsize_any 200 _ (by omega) (by omega)).mono ?_
  rw [Frame.a_s200]
  rintro e w8 ⟨rfl, rfl⟩
  go_wp2_with fail
  refine (fsize_any (-1) _ (by omega) (by omega)).mono ?_
  rw [Frame.a_sneg]
  rintro e w8 ⟨rfl, rfl⟩
  go_wp2_with fail
  go_ret
  exact ⟨rfl, HB7.out⟩
end Go.Proofs.Ytnalpmiinoohoaa
