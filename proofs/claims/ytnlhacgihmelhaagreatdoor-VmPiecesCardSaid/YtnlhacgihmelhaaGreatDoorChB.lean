/-
  Contracts of check.hasRegisters, hasTarget, hasArguments, wrongOp.
-/
import Derived.Test.YtnlhacgihmelhaaGreatDoorChA
import Derived.Test.YtnlhacgihmelhaaGreatDoorLowCdI
import Derived.Test.YtnlhacgihmelhaaGreatDoorLowCdN
import Derived.BigRegion
namespace Go.Proofs.YtnlhacgihmelhaaGreatDoor
open Go.RowKit

theorem kbl {w : World} {cs : Array Value} {T : TypeId} {n b : Nat} (m : Int) (xs : List Int) (hc : cs.toList = icells xs) (hln : xs.length = n) (hn : xs.length ≤ 1000) (hb : w.heap.size = b) :
    Calls Tryz.prog 155 #[.int .i64 m, .slice (some ⟨b, 0, none⟩) n n] (w.alloc (.cells cs T)) fun e w' => e = .returned (.bool (Ck.allLt xs m)) ∧ Below w.heap.size w w' := by
  subst hln hb
  refine (kbelow m xs _ _ _ hn (lies_new _ _ _ _ hc)).mono ?_
  rintro e w' ⟨he, h⟩
  exact ⟨he, (Cd.fn1 w cs T).trans (h.mono (Cd.fn1 w cs T).size)⟩

set_option maxHeartbeats 2000000 in
set_option maxRecDepth 20000 in
theorem khasRegs (o : Cd.OpV) (hok : o.ok = true) (n : Int) (w : World) : Calls Tryz.prog 137 #[.agg #[.int .u8 (o.k : Int), .int .i64 o.d, .int .i64 o.a, .int .i64 o.b, .int .i64 o.n], .int .i64 n] w fun e w' => e = .returned (.bool (Ck.regsOk o n)) ∧ Below w.heap.size w w' := by
  have hK : Cd.isK o.k = true := by
    have := hok
    unfold Cd.OpV.ok at this
    simp only [Bool.and_eq_true] at this
    exact this.1.1
  have hk : 1 ≤ o.k ∧ o.k ≤ 14 := by unfold Cd.isK at hK; simpa using hK
  obtain ⟨k, d, a, b, x⟩ := o
  simp only at hk ⊢
  clear hok hK
  obtain ⟨W, hW⟩ : ∃ W, W = w.alloc (.cells #[.int .u8 (k : Int), .int .i64 d, .int .i64 a, .int .i64 b, .int .i64 x] 72) := ⟨_, rfl⟩
  have hb : Below w.heap.size w W := by rw [hW]; exact Cd.fn1 _ _ _
  have hF : Cd.OB W w.heap.size ⟨k, d, a, b, x⟩ := by show W.heap[_]? = _; rw [hW]; exact heap_alloc_new w _
  have HB := Lib.hid hb
  have c0 := hF.c0
  have c1 := hF.c1
  have c2 := hF.c2
  have c3 := hF.c3
  clear hb hF
  have : k = 1 ∨ k = 2 ∨ k = 3 ∨ k = 4 ∨ k = 5 ∨ k = 6 ∨ k = 7 ∨ k = 8 ∨ k = 9 ∨ k = 10 ∨ k = 11 ∨ k = 12 ∨ k = 13 ∨ k = 14 := by omega
  clear hk
  rcases this with h | h | h | h | h | h | h | h | h | h | h | h | h | h
  · have hke : (k : Int) = 1 := by omega
    have HE : Hid (Ck.regsOk ⟨k, d, a, b, x⟩ n = Ck.allLt [d] n) := by show _ = _; subst h; unfold Ck.regsOk Ck.allLt; simp [Cd.hD, Cd.hA, Cd.hB]
    rw [hke] at c0
    clear h hke
    go_enter Tryz.func137, Tryz.ntmps137
    go_upto_region 1 with fail
    rw [← hW]
    clear hW
    go_wp2_with fail
    refine (kbl n [d] rfl rfl (by simp) (by first | with_reducible rfl | rfl)).mono ?_
    rintro e w2 ⟨rfl, hb2⟩
    have H2 := Lib.hid (HB.out.trans (hb2.mono HB.out.size))
    clear hb2
    go_wp2_with fail
    go_ret
    exact ⟨by rw [HE.out]; rfl, H2.out⟩
  · have hke : (k : Int) = 2 := by omega
    have HE : Hid (Ck.regsOk ⟨k, d, a, b, x⟩ n = Ck.allLt [d, a] n) := by show _ = _; subst h; unfold Ck.regsOk Ck.allLt; simp [Cd.hD, Cd.hA, Cd.hB]
    rw [hke] at c0
    clear h hke
    go_enter Tryz.func137, Tryz.ntmps137
    go_upto_region 1 with fail
    rw [← hW]
    clear hW
    go_wp2_with fail
    refine (kbl n [d, a] rfl rfl (by simp) (by first | with_reducible rfl | rfl)).mono ?_
    rintro e w2 ⟨rfl, hb2⟩
    have H2 := Lib.hid (HB.out.trans (hb2.mono HB.out.size))
    clear hb2
    go_wp2_with fail
    go_ret
    exact ⟨by rw [HE.out]; rfl, H2.out⟩
  · have hke : (k : Int) = 3 := by omega
    have HE : Hid (Ck.regsOk ⟨k, d, a, b, x⟩ n = Ck.allLt [d, a, b] n) := by show _ = _; subst h; unfold Ck.regsOk Ck.allLt; simp [Cd.hD, Cd.hA, Cd.hB]
    rw [hke] at c0
    clear h hke
    go_enter Tryz.func137, Tryz.ntmps137
    go_upto_region 1 with fail
    rw [← hW]
    clear hW
    go_wp2_with fail
    refine (kbl n [d, a, b] rfl rfl (by simp) (by first | with_reducible rfl | rfl)).mono ?_
    rintro e w2 ⟨rfl, hb2⟩
    have H2 := Lib.hid (HB.out.trans (hb2.mono HB.out.size))
    clear hb2
    go_wp2_with fail
    go_ret
    exact ⟨by rw [HE.out]; rfl, H2.out⟩
  · have hke : (k : Int) = 4 := by omega
    have HE : Hid (Ck.regsOk ⟨k, d, a, b, x⟩ n = Ck.allLt [d, a, b] n) := by show _ = _; subst h; unfold Ck.regsOk Ck.allLt; simp [Cd.hD, Cd.hA, Cd.hB]
    rw [hke] at c0
    clear h hke
    go_enter Tryz.func137, Tryz.ntmps137
    go_upto_region 1 with fail
    rw [← hW]
    clear hW
    go_wp2_with fail
    refine (kbl n [d, a, b] rfl rfl (by simp) (by first | with_reducible rfl | rfl)).mono ?_
    rintro e w2 ⟨rfl, hb2⟩
    have H2 := Lib.hid (HB.out.trans (hb2.mono HB.out.size))
    clear hb2
    go_wp2_with fail
    go_ret
    exact ⟨by rw [HE.out]; rfl, H2.out⟩
  · have hke : (k : Int) = 5 := by omega
    have HE : Hid (Ck.regsOk ⟨k, d, a, b, x⟩ n = Ck.allLt [d, a, b] n) := by show _ = _; subst h; unfold Ck.regsOk Ck.allLt; simp [Cd.hD, Cd.hA, Cd.hB]
    rw [hke] at c0
    clear h hke
    go_enter Tryz.func137, Tryz.ntmps137
    go_upto_region 1 with fail
    rw [← hW]
    clear hW
    go_wp2_with fail
    refine (kbl n [d, a, b] rfl rfl (by simp) (by first | with_reducible rfl | rfl)).mono ?_
    rintro e w2 ⟨rfl, hb2⟩
    have H2 := Lib.hid (HB.out.trans (hb2.mono HB.out.size))
    clear hb2
    go_wp2_with fail
    go_ret
    exact ⟨by rw [HE.out]; rfl, H2.out⟩
  · have hke : (k : Int) = 6 := by omega
    have HE : Hid (Ck.regsOk ⟨k, d, a, b, x⟩ n = Ck.allLt [d, a, b] n) := by show _ = _; subst h; unfold Ck.regsOk Ck.allLt; simp [Cd.hD, Cd.hA, Cd.hB]
    rw [hke] at c0
    clear h hke
    go_enter Tryz.func137, Tryz.ntmps137
    go_upto_region 1 with fail
    rw [← hW]
    clear hW
    go_wp2_with fail
    refine (kbl n [d, a, b] rfl rfl (by simp) (by first | with_reducible rfl | rfl)).mono ?_
    rintro e w2 ⟨rfl, hb2⟩
    have H2 := Lib.hid (HB.out.trans (hb2.mono HB.out.size))
    clear hb2
    go_wp2_with fail
    go_ret
    exact ⟨by rw [HE.out]; rfl, H2.out⟩
  · have hke : (k : Int) = 7 := by omega
    have HE : Hid (Ck.regsOk ⟨k, d, a, b, x⟩ n = Ck.allLt [d, a, b] n) := by show _ = _; subst h; unfold Ck.regsOk Ck.allLt; simp [Cd.hD, Cd.hA, Cd.hB]
    rw [hke] at c0
    clear h hke
    go_enter Tryz.func137, Tryz.ntmps137
    go_upto_region 1 with fail
    rw [← hW]
    clear hW
    go_wp2_with fail
    refine (kbl n [d, a, b] rfl rfl (by simp) (by first | with_reducible rfl | rfl)).mono ?_
    rintro e w2 ⟨rfl, hb2⟩
    have H2 := Lib.hid (HB.out.trans (hb2.mono HB.out.size))
    clear hb2
    go_wp2_with fail
    go_ret
    exact ⟨by rw [HE.out]; rfl, H2.out⟩
  · have hke : (k : Int) = 8 := by omega
    have HE : Hid (Ck.regsOk ⟨k, d, a, b, x⟩ n = Ck.allLt [d, a, b] n) := by show _ = _; subst h; unfold Ck.regsOk Ck.allLt; simp [Cd.hD, Cd.hA, Cd.hB]
    rw [hke] at c0
    clear h hke
    go_enter Tryz.func137, Tryz.ntmps137
    go_upto_region 1 with fail
    rw [← hW]
    clear hW
    go_wp2_with fail
    refine (kbl n [d, a, b] rfl rfl (by simp) (by first | with_reducible rfl | rfl)).mono ?_
    rintro e w2 ⟨rfl, hb2⟩
    have H2 := Lib.hid (HB.out.trans (hb2.mono HB.out.size))
    clear hb2
    go_wp2_with fail
    go_ret
    exact ⟨by rw [HE.out]; rfl, H2.out⟩
  · have hke : (k : Int) = 9 := by omega
    have HE : Hid (Ck.regsOk ⟨k, d, a, b, x⟩ n = Ck.allLt [d, a, b] n) := by show _ = _; subst h; unfold Ck.regsOk Ck.allLt; simp [Cd.hD, Cd.hA, Cd.hB]
    rw [hke] at c0
    clear h hke
    go_enter Tryz.func137, Tryz.ntmps137
    go_upto_region 1 with fail
    rw [← hW]
    clear hW
    go_wp2_with fail
    refine (kbl n [d, a, b] rfl rfl (by simp) (by first | with_reducible rfl | rfl)).mono ?_
    rintro e w2 ⟨rfl, hb2⟩
    have H2 := Lib.hid (HB.out.trans (hb2.mono HB.out.size))
    clear hb2
    go_wp2_with fail
    go_ret
    exact ⟨by rw [HE.out]; rfl, H2.out⟩
  · have hke : (k : Int) = 10 := by omega
    have HE : Hid (Ck.regsOk ⟨k, d, a, b, x⟩ n = Ck.allLt [] n) := by show _ = _; subst h; unfold Ck.regsOk Ck.allLt; simp [Cd.hD, Cd.hA, Cd.hB]
    rw [hke] at c0
    clear h hke
    go_enter Tryz.func137, Tryz.ntmps137
    go_upto_region 1 with fail
    rw [← hW]
    clear hW
    go_wp2_with fail
    refine (kbelow n [] none 0 _ (by decide) (by intro h; simp [icells] at h)).mono ?_
    rintro e w2 ⟨rfl, hb2⟩
    have H2 := Lib.hid (HB.out.trans (hb2.mono HB.out.size))
    clear hb2
    go_wp2_with fail
    go_ret
    exact ⟨by rw [HE.out]; rfl, H2.out⟩
  · have hke : (k : Int) = 11 := by omega
    have HE : Hid (Ck.regsOk ⟨k, d, a, b, x⟩ n = Ck.allLt [a] n) := by show _ = _; subst h; unfold Ck.regsOk Ck.allLt; simp [Cd.hD, Cd.hA, Cd.hB]
    rw [hke] at c0
    clear h hke
    go_enter Tryz.func137, Tryz.ntmps137
    go_upto_region 1 with fail
    rw [← hW]
    clear hW
    go_wp2_with fail
    refine (kbl n [a] rfl rfl (by simp) (by first | with_reducible rfl | rfl)).mono ?_
    rintro e w2 ⟨rfl, hb2⟩
    have H2 := Lib.hid (HB.out.trans (hb2.mono HB.out.size))
    clear hb2
    go_wp2_with fail
    go_ret
    exact ⟨by rw [HE.out]; rfl, H2.out⟩
  · have hke : (k : Int) = 12 := by omega
    have HE : Hid (Ck.regsOk ⟨k, d, a, b, x⟩ n = Ck.allLt [d] n) := by show _ = _; subst h; unfold Ck.regsOk Ck.allLt; simp [Cd.hD, Cd.hA, Cd.hB]
    rw [hke] at c0
    clear h hke
    go_enter Tryz.func137, Tryz.ntmps137
    go_upto_region 1 with fail
    rw [← hW]
    clear hW
    go_wp2_with fail
    refine (kbl n [d] rfl rfl (by simp) (by first | with_reducible rfl | rfl)).mono ?_
    rintro e w2 ⟨rfl, hb2⟩
    have H2 := Lib.hid (HB.out.trans (hb2.mono HB.out.size))
    clear hb2
    go_wp2_with fail
    go_ret
    exact ⟨by rw [HE.out]; rfl, H2.out⟩
  · have hke : (k : Int) = 13 := by omega
    have HE : Hid (Ck.regsOk ⟨k, d, a, b, x⟩ n = Ck.allLt [] n) := by show _ = _; subst h; unfold Ck.regsOk Ck.allLt; simp [Cd.hD, Cd.hA, Cd.hB]
    rw [hke] at c0
    clear h hke
    go_enter Tryz.func137, Tryz.ntmps137
    go_upto_region 1 with fail
    rw [← hW]
    clear hW
    go_wp2_with fail
    refine (kbelow n [] none 0 _ (by decide) (by intro h; simp [icells] at h)).mono ?_
    rintro e w2 ⟨rfl, hb2⟩
    have H2 := Lib.hid (HB.out.trans (hb2.mono HB.out.size))
    clear hb2
    go_wp2_with fail
    go_ret
    exact ⟨by rw [HE.out]; rfl, H2.out⟩
  · have hke : (k : Int) = 14 := by omega
    have HE : Hid (Ck.regsOk ⟨k, d, a, b, x⟩ n = Ck.allLt [a] n) := by show _ = _; subst h; unfold Ck.regsOk Ck.allLt; simp [Cd.hD, Cd.hA, Cd.hB]
    rw [hke] at c0
    clear h hke
    go_enter Tryz.func137, Tryz.ntmps137
    go_upto_region 1 with fail
    rw [← hW]
    clear hW
    go_wp2_with fail
    refine (kbl n [a] rfl rfl (by simp) (by first | with_reducible rfl | rfl)).mono ?_
    rintro e w2 ⟨rfl, hb2⟩
    have H2 := Lib.hid (HB.out.trans (hb2.mono HB.out.size))
    clear hb2
    go_wp2_with fail
    go_ret
    exact ⟨by rw [HE.out]; rfl, H2.out⟩

namespace Ck
open Cd
/-- Three boxes: a program, a function, an op. -/
structure Box3 (w : World) (X : Nat) (A : Option Addr) (np c : Nat) (m : Fm) (o : OpV) : Prop where
  p : PBlk w X (.slice A np c)
  f : FB w (X + 1) m.f.args m.f.regs (.slice m.A m.f.ops.length m.c)
  o : OB w (X + 2) o
theorem Box3.later {w w' : World} {X : Nat} {A : Option Addr} {np c : Nat} {m : Fm} {o : OpV} (h : Box3 w X A np c m o) (hb : Below w.heap.size w w') : Box3 w' X A np c m o :=
  ⟨h.p.of_block (hb.block _ h.p.lt), h.f.of_block (hb.block _ h.f.lt), h.o.below hb⟩
theorem box3 {w W0 W1 W : World} {A : Option Addr} {np c : Nat} {m : Fm} {o : OpV} (h0 : W0 = w.alloc (.cells #[.slice A np c] 24)) (h1 : W1 = W0.alloc (.cells #[.int .i64 m.f.args, .int .i64 m.f.regs, .slice m.A m.f.ops.length m.c] 110)) (h2 : W = W1.alloc (.cells #[.int .u8 (o.k : Int), .int .i64 o.d, .int .i64 o.a, .int .i64 o.b, .int .i64 o.n] 72)) :
    Box3 W w.heap.size A np c m o ∧ Below w.heap.size w W ∧ W0.heap.size = w.heap.size + 1 ∧ W1.heap.size = w.heap.size + 2 ∧ W.heap.size = w.heap.size + 3 := by
  have s0 : W0.heap.size = w.heap.size + 1 := by rw [h0]; simp
  have s1 : W1.heap.size = w.heap.size + 2 := by rw [h1]; simp [s0]
  have s2 : W.heap.size = w.heap.size + 3 := by rw [h2]; simp [s1]
  have b0 : Below w.heap.size w W0 := by rw [h0]; exact fn1 _ _ _
  have b1 : Below W0.heap.size W0 W1 := by rw [h1]; exact fn1 _ _ _
  have b2 : Below W1.heap.size W1 W := by rw [h2]; exact fn1 _ _ _
  refine ⟨⟨?_, ?_, ?_⟩, b0.trans ((b1.trans (b2.mono b1.size)).mono b0.size), s0, s1, s2⟩
  · show W.heap[w.heap.size]? = _
    rw [b2.block _ (by omega), b1.block _ (by omega), h0]
    exact heap_alloc_new w _
  · show W.heap[w.heap.size + 1]? = _
    rw [b2.block _ (by omega), ← s0, h1]
    exact heap_alloc_new W0 _
  · show W.heap[w.heap.size + 2]? = _
    rw [← s1, h2]
    exact heap_alloc_new W1 _
end Ck

set_option maxHeartbeats 2000000 in
set_option maxRecDepth 20000 in
theorem khasTgt (A : Option Addr) (np c : Nat) (hnp : (np : Int) ≤ 9223372036854775807) (m : Cd.Fm) (hm : (m.f.ops.length : Int) ≤ 9223372036854775807) (o : Cd.OpV) (w : World) :
    Calls Tryz.prog 138 #[.agg #[.slice A np c], .agg #[.int .i64 m.f.args, .int .i64 m.f.regs, .slice m.A m.f.ops.length m.c], .agg #[.int .u8 (o.k : Int), .int .i64 o.d, .int .i64 o.a, .int .i64 o.b, .int .i64 o.n]] w
      fun e w' => e = .returned (.bool (Ck.tgtOk np m.f o)) ∧ Below w.heap.size w w' := by
  obtain ⟨W0, hW0⟩ : ∃ W0, W0 = w.alloc (.cells #[.slice A np c] 24) := ⟨_, rfl⟩
  obtain ⟨W1, hW1⟩ : ∃ W1, W1 = W0.alloc (.cells #[.int .i64 m.f.args, .int .i64 m.f.regs, .slice m.A m.f.ops.length m.c] 110) := ⟨_, rfl⟩
  obtain ⟨W, hW⟩ : ∃ W, W = W1.alloc (.cells #[.int .u8 (o.k : Int), .int .i64 o.d, .int .i64 o.a, .int .i64 o.b, .int .i64 o.n] 72) := ⟨_, rfl⟩
  obtain ⟨hbx, hb, s0, s1, _⟩ := Ck.box3 hW0 hW1 hW
  have HB := Lib.hid hb
  have c0 := hbx.o.c0
  have c4 := hbx.o.c4
  have f2 := hbx.f.c2
  have p0 := hbx.p.c0
  clear hbx hb
  have h4 : o.k = 10 ∨ o.k = 11 ∨ o.k = 12 ∨ (o.k ≠ 10 ∧ o.k ≠ 11 ∧ o.k ≠ 12) := by omega
  rcases h4 with h | h | h | h
  · have hke : (o.k : Int) = 10 := by omega
    have HE : Hid (Ck.tgtOk np m.f o = Ck.inN o.n m.f.ops.length) := by show _ = _; unfold Ck.tgtOk; rw [if_pos (.inl h)]
    rw [hke] at c0 hW ⊢
    clear h hke
    go_enter Tryz.func138, Tryz.ntmps138
    go_upto_region 1 with fail
    rw [← hW0, ← s0, ← hW1, s0]
    rw [show w.heap.size + 1 + 1 = W1.heap.size by omega, ← hW, s1]
    clear hW hW1 hW0 s0 s1
    go_wp2_with fail
    refine (kwithin o.n m.f.ops.length hm _).mono ?_
    rintro e w2 ⟨rfl, rfl⟩
    go_wp2_with fail
    go_ret
    exact ⟨by rw [HE.out]; rfl, HB.out⟩
  · have hke : (o.k : Int) = 11 := by omega
    have HE : Hid (Ck.tgtOk np m.f o = Ck.inN o.n m.f.ops.length) := by show _ = _; unfold Ck.tgtOk; rw [if_pos (.inr h)]
    rw [hke] at c0 hW ⊢
    clear h hke
    go_enter Tryz.func138, Tryz.ntmps138
    go_upto_region 1 with fail
    rw [← hW0, ← s0, ← hW1, s0]
    rw [show w.heap.size + 1 + 1 = W1.heap.size by omega, ← hW, s1]
    clear hW hW1 hW0 s0 s1
    go_wp2_with fail
    refine (kwithin o.n m.f.ops.length hm _).mono ?_
    rintro e w2 ⟨rfl, rfl⟩
    go_wp2_with fail
    go_ret
    exact ⟨by rw [HE.out]; rfl, HB.out⟩
  · have hke : (o.k : Int) = 12 := by omega
    have HE : Hid (Ck.tgtOk np m.f o = Ck.inN o.n np) := by show _ = _; unfold Ck.tgtOk; rw [if_neg (by omega), if_pos h]
    rw [hke] at c0 hW ⊢
    clear h hke
    go_enter Tryz.func138, Tryz.ntmps138
    go_upto_region 1 with fail
    rw [← hW0, ← s0, ← hW1, s0]
    rw [show w.heap.size + 1 + 1 = W1.heap.size by omega, ← hW, s1]
    clear hW hW1 hW0 s0 s1
    go_wp2_with fail
    refine (kwithin o.n np hnp _).mono ?_
    rintro e w2 ⟨rfl, rfl⟩
    go_wp2_with fail
    go_ret
    exact ⟨by rw [HE.out]; rfl, HB.out⟩
  · have e1 : ((o.k : Int) == 10) = false := by simpa using (by omega : ¬ (o.k : Int) = 10)
    have e2 : ((o.k : Int) == 11) = false := by simpa using (by omega : ¬ (o.k : Int) = 11)
    have e3 : ((o.k : Int) == 12) = false := by simpa using (by omega : ¬ (o.k : Int) = 12)
    have HE : Hid (Ck.tgtOk np m.f o = true) := by show _ = _; unfold Ck.tgtOk; rw [if_neg (by omega), if_neg (by omega)]
    clear h
    go_enter Tryz.func138, Tryz.ntmps138
    go_upto_region 1 with fail
    rw [← hW0, ← s0, ← hW1, s0]
    rw [show w.heap.size + 1 + 1 = W1.heap.size by omega, ← hW, s1]
    clear hW hW1 hW0 s0 s1
    go_wp2_with fail
    go_ret
    exact ⟨by rw [HE.out]; rfl, HB.out⟩
end Go.Proofs.YtnlhacgihmelhaaGreatDoor
