/-
  The contract of layer 3's 'alive': it is true.
-/
import Derived.Test.YtpahajnojfhgdaaWireW
import Derived.Test.YtpahajnojfhgdaaWireD
namespace Go.Proofs.Ytpahajnojfhgdaa
open Go.RowKit

namespace Wire
theorem uv_small (n : Nat) (h : n < 128) : Lib.uvarint n = [UInt8.ofNat n] := by rw [Lib.uvarint_small h]; first | done | rfl
theorem uv_300 : Lib.uvarint 300 = [172, 2] := by rw [Lib.uvarint_big (by omega), Lib.uvarint_small (by omega)]; first | done | rfl
theorem a_u : uBytes [5, 300] = [5, 172, 2] := by
  show Lib.uvarint 5 ++ (Lib.uvarint 300 ++ []) = _
  rw [uv_300, uv_small 5 (by omega)]; rfl
theorem a_i : iBytes [-1] = [1] := by
  show Lib.uvarint 1 ++ [] = _
  rw [uv_small 1 (by omega)]; rfl
theorem a_t : tBytes [⟨#[97]⟩, ⟨#[]⟩] = [1, 97, 0] := by
  show (Lib.uvarint 1 ++ [97]) ++ ((Lib.uvarint 0 ++ []) ++ []) = _
  rw [uv_small 1 (by omega), uv_small 0 (by omega)]; rfl
theorem a_b : bBytes [true] = [1] := rfl
theorem a_s : ({ data := #[5, 172, 2] } : ByteArray) ++ { data := #[1] } ++ { data := #[1, 97, 0] } ++ { data := #[1] } = ⟨#[5, 172, 2, 1, 1, 97, 0, 1]⟩ := by decide +kernel
theorem s1 : step (wU 5) ⟨#[5, 172, 2, 1, 1, 97, 0, 1]⟩ 0 = (5, ⟨#[172, 2, 1, 1, 97, 0, 1]⟩, 0) := by decide +kernel
theorem s2 : step (wT [299, 300]) ⟨#[172, 2, 1, 1, 97, 0, 1]⟩ 0 = (300, ⟨#[1, 1, 97, 0, 1]⟩, 0) := by decide +kernel
theorem s3 : step (wI (-1) 0) ⟨#[1, 1, 97, 0, 1]⟩ 0 = (1, ⟨#[1, 97, 0, 1]⟩, 0) := by decide +kernel
theorem s4 : text 1 ⟨#[1, 97, 0, 1]⟩ 0 = (⟨#[97]⟩, ⟨#[0, 1]⟩, 0) := by decide +kernel
theorem s5 : text 0 ⟨#[0, 1]⟩ 0 = (⟨#[]⟩, ⟨#[1]⟩, 0) := by decide +kernel
theorem s6 : step (wT [0, 1]) ⟨#[1]⟩ 0 = (1, ⟨#[]⟩, 0) := by decide +kernel
theorem s7 : fin ⟨#[]⟩ 0 = 0 := by decide +kernel
theorem s8 : step (wU 4) ⟨#[5]⟩ 0 = (0, ⟨#[5]⟩, 9) := by decide +kernel
theorem s9 : fin ⟨#[5]⟩ 9 = 9 := by decide +kernel
theorem zag1 : Num.zag 1 = -1 := by decide
end Wire

set_option maxRecDepth 20000 in
set_option maxHeartbeats 2000000 in
theorem alive_any (w : World) :
    Calls Try.prog 8 #[] w fun e w' => e = .returned (.bool true) ∧ Below w.heap.size w w' := by
  go_enter Try.func8, Try.ntmps8
  go_wp2_with fail
  refine (uints_any [5, 300] _ _ _ (lies_new _ _ _ _ rfl) (by decide) (by decide)).mono ?_
  rintro e w1 ⟨rfl, hb1⟩
  rw [Wire.a_u]
  go_wp2_with fail
  refine (ints_any [-1] _ _ _ (lies_new _ _ _ _ rfl) (by decide) (by decide)).mono ?_
  rintro e w2 ⟨rfl, hb2⟩
  rw [Wire.a_i]
  go_wp2_with fail
  refine (texts_any [⟨#[97]⟩, ⟨#[]⟩] _ _ _ (lies_new _ _ _ _ rfl) (by decide) (by decide)).mono ?_
  rintro e w3 ⟨rfl, hb3⟩
  rw [Wire.a_t]
  go_wp2_with fail
  refine (bools_any [true] _ _ _ (lies_new _ _ _ _ rfl) (by decide) (by decide)).mono ?_
  rintro e w4 ⟨rfl, hb4⟩
  rw [Wire.a_b]
  go_wp2_with fail
  rw [Wire.a_s]
  have k1 := hb1.size
  have k2 := hb2.size
  have k3 := hb3.size
  have k4 := hb4.size
  simp at k1 k2 k3 k4
  have hB : Below w.heap.size w w4 := ((((((((Below.refl _ _).alloc (Nat.le_refl _) _).trans (hb1.mono (by simp))).alloc (by omega) _).trans (hb2.mono (by simp; omega))).alloc (by omega) _).trans (hb3.mono (by simp; omega))).alloc (by omega) _).trans (hb4.mono (by simp; omega))
  clear hb1 hb2 hb3 hb4
  refine (new_any _ _).mono ?_
  rintro e w5 ⟨rfl, hr5, hb5⟩
  have k5 := hb5.size
  have hB5 := hB.trans (hb5.mono (by omega))
  have R5 := Lib.hid hr5
  clear hr5 hb5 hB
  have hle : w.heap.size ≤ w4.heap.size := by omega
  have hgr : ∀ k, some w4.heap.size = some k → w.heap.size ≤ k := fun k h => by injection h; omega
  have HGR := Lib.hid hgr
  clear hgr k1 k2 k3 k4
  go_wp2_with fail
  refine (rUint_any 5 _ _ _ _ R5.out (by decide)).mono ?_
  rw [Wire.s1]
  rintro e w6 ⟨rfl, hA⟩
  have R6 := Lib.hid hA.1
  have k6 := hA.2.size
  have hB6 := hB5.grown hA.2 (by omega) HGR.out
  clear hA hB5
  go_wp2_with fail
  refine (rTag_any [299, 300] _ _ _ _ _ _ (lies_new _ _ _ _ rfl) (by decide) (R6.out.alloc _) (by decide)).mono ?_
  rw [Wire.s2]
  rintro e w7 ⟨rfl, hA'⟩
  have hA := hA'.alloc
  have R7 := Lib.hid hA.1
  have k7 := hA.2.size
  have hB7 := hB6.grown hA.2 (by omega) HGR.out
  clear hA hA' hB6
  go_wp2_with fail
  refine (rInt_any (-1) 0 _ _ _ _ R7.out (by decide)).mono ?_
  rw [Wire.s3]
  rintro e w8 ⟨rfl, hA⟩
  have R8 := Lib.hid hA.1
  have k8 := hA.2.size
  have hB8 := hB7.grown hA.2 (by omega) HGR.out
  clear hA hB7
  rw [Wire.zag1]
  go_wp2_with fail
  refine (rText_any 1 (by omega) (by omega) _ _ _ _ R8.out (by decide) (.inl (by omega))).mono ?_
  rw [Wire.s4]
  rintro e w9 ⟨rfl, hA⟩
  have R9 := Lib.hid hA.1
  have k9 := hA.2.size
  have hB9 := hB8.grown hA.2 (by omega) HGR.out
  clear hA hB8
  go_wp2_with fail
  refine (rText_any 0 (by omega) (by omega) _ _ _ _ R9.out (by decide) (.inl (by omega))).mono ?_
  rw [Wire.s5]
  rintro e w10 ⟨rfl, hA⟩
  have R10 := Lib.hid hA.1
  have k10 := hA.2.size
  have hB10 := hB9.grown hA.2 (by omega) HGR.out
  clear hA hB9
  go_wp2_with fail
  refine (rBool_any _ _ _ _ R10.out (by decide)).mono ?_
  rw [Wire.s6]
  rintro e w11 ⟨rfl, hA⟩
  have R11 := Lib.hid hA.1
  have k11 := hA.2.size
  have hB11 := hB10.grown hA.2 (by omega) HGR.out
  clear hA hB10
  go_wp2_with fail
  refine (rEnd_any _ _ _ _ R11.out (by decide)).mono ?_
  rw [Wire.s7]
  rintro e w12 ⟨rfl, hA⟩
  have k12 := hA.2.size
  have hB12 := hB11.grown hA.2 (by omega) HGR.out
  clear hA hB11
  go_wp2_with fail
  refine (new_any _ _).mono ?_
  rintro e w13 ⟨rfl, hr, hb⟩
  have R13 := Lib.hid hr
  have k13 := hb.size
  have hB13 := hB12.trans (hb.mono (by omega))
  have hgr2 : ∀ k, some w12.heap.size = some k → w.heap.size ≤ k := fun k h => by injection h; omega
  have HGR2 := Lib.hid hgr2
  clear hr hb hB12 hgr2
  go_wp2_with fail
  refine (rUint_any 4 _ _ _ _ R13.out (by decide)).mono ?_
  rw [Wire.s8]
  rintro e w14 ⟨rfl, hA⟩
  have R14 := Lib.hid hA.1
  have k14 := hA.2.size
  have hB14 := hB13.grown hA.2 (by omega) HGR2.out
  clear hA hB13
  go_wp2_with fail
  refine (err_any _ _ _ _ R14.out).mono ?_
  rintro e w' ⟨rfl, rfl⟩
  go_wp2_with fail
  refine (left_any _ _ _ _ R14.out).mono ?_
  rintro e w' ⟨rfl, rfl⟩
  go_wp2_with fail
  refine (rEnd_any _ _ _ _ R14.out (by decide)).mono ?_
  rw [Wire.s9]
  rintro e w15 ⟨rfl, hA⟩
  have k15 := hA.2.size
  have hB15 := hB14.grown hA.2 (by omega) HGR2.out
  clear hA hB14
  go_wp2_with fail
  go_ret
  exact ⟨rfl, hB15⟩
end Go.Proofs.Ytpahajnojfhgdaa
