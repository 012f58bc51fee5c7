/-
  The contract of layer 5's 'alive': it is true.
-/
import Derived.Test.YtmoifihgomjbcaaSecK
namespace Go.Proofs.Ytmoifihgomjbcaa
open Go.RowKit

namespace Sec
def a0 : St := St.fresh 2
def a1 : St := a0.wr 0 ⟨#[97, 98]⟩
def a2 : St := a1.crash [128]
def a3 : St := a2.wr 0 ⟨#[99, 100]⟩
def a4 : St := a3.crash [1]
def a5 : St := { a4 with lit := true, left := 1 }
def a6 : St := a5.wr 0 ⟨#[101, 102]⟩
def a7 : St := a6.crash [128]
theorem ok0 : a0.Ok := St.fresh_ok (by omega) (by omega)
theorem ok1 : a1.Ok := ok0.wr _ _
theorem ok2 : a2.Ok := St.crash_ok ok1 _
theorem ok3 : a3.Ok := ok2.wr _ _
theorem ok4 : a4.Ok := St.crash_ok ok3 _
theorem ok5 : a5.Ok := ok4.fuse true (by omega)
theorem ok6 : a6.Ok := ok5.wr _ _
theorem ok7 : a7.Ok := St.crash_ok ok6 _
theorem f2 : (a2.now.drop 0).take 128 = pad (⟨#[97, 98]⟩ : ByteArray).data.toList := by decide +kernel
theorem f4 : (a4.now.drop 0).take 128 = pad (⟨#[99, 98]⟩ : ByteArray).data.toList := by decide +kernel
theorem f7 : (a7.now.drop 0).take 128 = pad (⟨#[101, 102]⟩ : ByteArray).data.toList := by decide +kernel
theorem l1 : a1.loose.length = 1 := by decide +kernel
theorem l3 : a3.loose.length = 1 := by decide +kernel
theorem l6 : a6.loose.length = 1 := by decide +kernel
theorem n7 : a7.n = 2 := rfl
theorem wc0 : a0.wc 0 ⟨#[97, 98]⟩ = 0 := by decide +kernel
theorem wc2 : a2.wc 0 ⟨#[99, 100]⟩ = 0 := by decide +kernel
theorem wc5 : a5.wc 0 ⟨#[101, 102]⟩ = 0 := by decide +kernel
theorem wc7 : a7.wc 2 ⟨#[]⟩ = 50 := by decide +kernel
theorem st6 : a6.still = true := by decide +kernel
theorem g7 : (⟨(a7.wr 2 ⟨#[]⟩).good.toArray⟩ : ByteArray).size = 256 := by
  show (a7.wr 2 ⟨#[]⟩).good.toArray.size = 256
  rw [List.size_toArray, (ok7.wr 2 ⟨#[]⟩).good]; rfl
theorem one_pick (w : World) (p : Int) : 0 < [p].length → ∃ ad, (some ⟨w.heap.size, 0, none⟩ : Option Addr) = some ad ∧ ad.block < (w.alloc (.cells #[.int .i64 p] 3)).heap.size ∧ w.heap.size ≤ ad.block ∧ ∀ (j : Nat) q, [p][j]? = some q → (w.alloc (.cells #[.int .i64 p] 3)).cell? (ad.add j) = some (.int .i64 q) := by
  intro _
  refine ⟨_, rfl, by simp, Nat.le_refl _, fun j q hq => ?_⟩
  have hj : j = 0 := by
    have := (List.getElem?_eq_some_iff.1 hq).1
    simpa using this
  subst hj
  rw [Addr.add_mid, World.cell?_alloc_at _ _ _ _ rfl]
  simpa using hq
end Sec

set_option maxHeartbeats 4000000 in
set_option maxRecDepth 20000 in
theorem alive5_any (w : World) :
    Calls Try.prog 7 #[] w fun e w' => e = .returned (.bool true) ∧ Below w.heap.size w w' := by
  go_enter Try.func7, Try.ntmps7
  go_wp2_with fail
  refine (has_new 2 _ (by omega) (by omega)).mono ?_
  rintro e w1 ⟨p, rfl, hA, hb1⟩
  have H0 : Hid (Sec.Has p w.heap.size Sec.a0 w1) := hA
  have B1 := Lib.hid hb1
  clear hA hb1
  go_wp2_with fail
  refine (has_write p _ Sec.a0 _ H0.out Sec.ok0 rfl (by decide) 0 ⟨#[97, 98]⟩).mono ?_
  rintro e w2 ⟨rfl, hA, hb⟩
  rw [Sec.wc0]
  have H1 : Hid (Sec.Has p w.heap.size Sec.a1 w2) := hA
  have B2 := Lib.hid (B1.out.trans hb)
  clear hA hb H0 B1
  go_wp2_with fail
  refine (has_loose p _ Sec.a1 _ H1.out Sec.ok1).mono ?_
  rintro e w' ⟨rfl, rfl⟩
  rw [Sec.l1]
  go_wp2_with fail
  refine (has_crash_new p _ Sec.a1 w2 _ H1.out ((Below.refl _ _).alloc (Nat.le_refl _) _) Sec.ok1 (by rw [Sec.l1]; omega) _ _ [128] (by decide) (Sec.one_pick w2 128)).mono ?_
  rintro e w3 ⟨rfl, hA, hb⟩
  have H2 : Hid (Sec.Has p w.heap.size Sec.a2 w3) := hA
  have B3 := Lib.hid ((B2.out.alloc B2.out.size (.cells #[.int .i64 128] 3)).trans hb)
  clear hA hb H1 B2
  go_wp2_with fail
  refine (has_front p _ Sec.a2 _ H2.out Sec.ok2 rfl _ (by decide) Sec.f2).mono ?_
  rintro e w4 ⟨rfl, hb⟩
  have H2' := Lib.hid (H2.out.below hb)
  have B4 := Lib.hid (B3.out.trans (hb.mono B3.out.size))
  clear hb H2 B3
  go_wp2_with fail
  refine (has_write p _ Sec.a2 _ H2'.out Sec.ok2 rfl (by decide) 0 ⟨#[99, 100]⟩).mono ?_
  rintro e w5 ⟨rfl, hA, hb⟩
  rw [Sec.wc2]
  have H3 : Hid (Sec.Has p w.heap.size Sec.a3 w5) := hA
  have B5 := Lib.hid (B4.out.trans hb)
  clear hA hb H2' B4
  go_wp2_with fail
  refine (has_crash_new p _ Sec.a3 w5 _ H3.out ((Below.refl _ _).alloc (Nat.le_refl _) _) Sec.ok3 (by rw [Sec.l3]; omega) _ _ [1] (by decide) (Sec.one_pick w5 1)).mono ?_
  rintro e w6 ⟨rfl, hA, hb⟩
  have H4 : Hid (Sec.Has p w.heap.size Sec.a4 w6) := hA
  have B6 := Lib.hid ((B5.out.alloc B5.out.size (.cells #[.int .i64 1] 3)).trans hb)
  clear hA hb H3 B5
  go_wp2_with fail
  refine (has_front p _ Sec.a4 _ H4.out Sec.ok4 rfl _ (by decide) Sec.f4).mono ?_
  rintro e w7 ⟨rfl, hb⟩
  have H4' := Lib.hid (H4.out.below hb)
  have B7 := Lib.hid (B6.out.trans (hb.mono B6.out.size))
  clear hb H4 B6
  go_wp2_with fail
  refine (has_fuse p _ Sec.a4 _ H4'.out Sec.ok4 1).mono ?_
  rintro e w8 ⟨rfl, hA, hb⟩
  have H5 : Hid (Sec.Has p w.heap.size Sec.a5 w8) := hA
  have B8 := Lib.hid (B7.out.trans hb)
  clear hA hb H4' B7
  go_wp2_with fail
  refine (has_write p _ Sec.a5 _ H5.out Sec.ok5 rfl (by decide) 0 ⟨#[101, 102]⟩).mono ?_
  rintro e w9 ⟨rfl, hA, hb⟩
  rw [Sec.wc5]
  have H6 : Hid (Sec.Has p w.heap.size Sec.a6 w9) := hA
  have B9 := Lib.hid (B8.out.trans hb)
  clear hA hb H5 B8
  go_wp2_with fail
  refine (has_write_down p _ Sec.a6 _ H6.out Sec.ok6 Sec.st6 0 (by decide) ⟨#[103, 104]⟩ (by decide)).mono ?_
  rintro e w' ⟨rfl, rfl⟩
  go_wp2_with fail
  refine (has_read_down p _ Sec.a6 _ H6.out Sec.ok6 Sec.st6 0).mono ?_
  rintro e w' ⟨rfl, rfl⟩
  go_wp2_with fail
  refine (has_crash_new p _ Sec.a6 w9 _ H6.out ((Below.refl _ _).alloc (Nat.le_refl _) _) Sec.ok6 (by rw [Sec.l6]; omega) _ _ [128] (by decide) (Sec.one_pick w9 128)).mono ?_
  rintro e w10 ⟨rfl, hA, hb⟩
  have H7 : Hid (Sec.Has p w.heap.size Sec.a7 w10) := hA
  have B10 := Lib.hid ((B9.out.alloc B9.out.size (.cells #[.int .i64 128] 3)).trans hb)
  clear hA hb H6 B9
  go_wp2_with fail
  refine (has_front p _ Sec.a7 _ H7.out Sec.ok7 rfl _ (by decide) Sec.f7).mono ?_
  rintro e w11 ⟨rfl, hb⟩
  have H7' := Lib.hid (H7.out.below hb)
  have B11 := Lib.hid (B10.out.trans (hb.mono B10.out.size))
  clear hb H7 B10
  go_wp2_with fail
  refine (has_len p _ Sec.a7 _ H7'.out Sec.ok7).mono ?_
  rintro e w' ⟨rfl, rfl⟩
  rw [Sec.n7]
  go_wp2_with fail
  refine (has_write p _ Sec.a7 _ H7'.out Sec.ok7 rfl (by decide) 2 ⟨#[]⟩).mono ?_
  rintro e w12 ⟨rfl, hA, hb⟩
  rw [Sec.wc7]
  have H8 := Lib.hid hA
  have B12 := Lib.hid (B11.out.trans hb)
  clear hA hb H7' B11
  go_wp2_with fail
  refine (has_sure p _ _ _ H8.out (Sec.ok7.wr 2 ⟨#[]⟩)).mono ?_
  rintro e w13 ⟨rfl, hb⟩
  have B13 := Lib.hid (B12.out.trans (hb.mono B12.out.size))
  have g7 := Sec.g7
  clear hb H8 B12
  go_wp2_with fail
  go_ret
  exact ⟨rfl, B13.out⟩
end Go.Proofs.Ytmoifihgomjbcaa
