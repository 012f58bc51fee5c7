/-
  Contracts of the Reader's calls: Uint, Int, Count, Text, Tag, Bool, End.
-/
import Derived.Test.YtndgafjnifkghaaWireC
namespace Go.Proofs.Ytndgafjnifkghaa
open Go.RowKit

theorem eg_uint : ∀ (args : Array Value) (w : World), (callFunc 53 args).run Try.prog w = .ok (.enter 53 args) w := enters_of Try.func53 (by kernel_rfl) rfl
theorem eg_int : ∀ (args : Array Value) (w : World), (callFunc 98 args).run Try.prog w = .ok (.enter 98 args) w := enters_of Try.func98 (by kernel_rfl) rfl
theorem eg_count : ∀ (args : Array Value) (w : World), (callFunc 79 args).run Try.prog w = .ok (.enter 79 args) w := enters_of Try.func79 (by kernel_rfl) rfl
theorem app1 (a b c : Value) : #[a, b] ++ #[c] = #[a, b, c] := rfl
theorem app2 (a b c d : Value) : #[a, b] ++ #[c, d] = #[a, b, c, d] := rfl

namespace Wire
theorem After.alloc {B : Nat} {s : ByteArray} {f : Nat} {w w' : World} {o : Obj} (h : After B s f (w.alloc o) w') : After B s f w w' := ⟨h.1, grown_trans (World.grownBy_alloc w o _) h.2⟩
theorem grown_trans' {B : Nat} {a b c d : World} (h : a.grownBy b (some B)) (k : b.grownBy c (some B)) (l : Below c.heap.size c d) : a.grownBy d (some B) := grown_trans (grown_trans h k) (grown_of l _)
theorem After.trans {B : Nat} {s t : ByteArray} {f g : Nat} {a b c : World} (h : After B s f a b) (k : After B t g b c) : After B t g a c := ⟨k.1, grown_trans h.2 k.2⟩
end Wire

set_option maxRecDepth 20000 in
set_option maxHeartbeats 1000000 in
theorem rUint_any (m : Nat) (B : Nat) (s : ByteArray) (f : Nat) (w : World) (h : Wire.RD B s f w) (hs : s.size ≤ maxLen) :
    Calls Try.prog 29 #[.pointer (some ⟨B, 0, none⟩), .int .u64 (m : Int)] w
      fun e w' => e = .returned (.int .u64 ((Wire.step (Wire.wU m) s f).1 : Int)) ∧ Wire.After B (Wire.step (Wire.wU m) s f).2.1 (Wire.step (Wire.wU m) s f).2.2 w w' := by
  have hmf : ∀ (fn : Fn) (first cap : Array Value) (w : World), (Instr.makeFunc fn first cap).run Try.prog w = .ok (.func fn first cap) w := fun _ _ _ _ => rfl
  have H := Lib.hid h
  clear h
  go_enter Try.func29, Try.ntmps29
  go_wp2_with fail
  refine (nextu_any _ _ (Wire.wU m) B s f _ (H.out.alloc _) hs eg_uint (fun x b _ _ => by rw [app1]; exact cUint_any m _ x b _ (World.cell?_alloc_at _ _ _ _ rfl))).mono ?_
  rintro e w' ⟨rfl, hA⟩
  have HA := Lib.hid hA.alloc
  clear hA hmf
  go_wp2_with fail
  go_ret
  exact ⟨rfl, HA.out⟩

set_option maxRecDepth 20000 in
set_option maxHeartbeats 1000000 in
theorem rInt_any (l u : Int) (B : Nat) (s : ByteArray) (f : Nat) (w : World) (h : Wire.RD B s f w) (hs : s.size ≤ maxLen) :
    Calls Try.prog 91 #[.pointer (some ⟨B, 0, none⟩), .int .i64 l, .int .i64 u] w
      fun e w' => e = .returned (.int .i64 (Num.zag (Wire.step (Wire.wI l u) s f).1)) ∧ Wire.After B (Wire.step (Wire.wI l u) s f).2.1 (Wire.step (Wire.wI l u) s f).2.2 w w' := by
  have hmf : ∀ (fn : Fn) (first cap : Array Value) (w : World), (Instr.makeFunc fn first cap).run Try.prog w = .ok (.func fn first cap) w := fun _ _ _ _ => rfl
  have H := Lib.hid h
  clear h
  go_enter Try.func91, Try.ntmps91
  go_wp2_with fail
  refine (nexti_any _ _ (Wire.wI l u) B s f _ ((H.out.alloc _).alloc _) hs eg_int (fun x b _ _ => by rw [app2]; exact cInt_any l u _ _ x b _ (by rw [World.cell?_alloc_lt _ _ _ (by simp)]; exact World.cell?_alloc_at _ _ _ _ rfl) (World.cell?_alloc_at _ _ _ _ (by simp)))).mono ?_
  rintro e w' ⟨rfl, hA⟩
  have HA := Lib.hid hA.alloc.alloc
  clear hA hmf
  go_wp2_with fail
  go_ret
  exact ⟨rfl, HA.out⟩

set_option maxRecDepth 20000 in
set_option maxHeartbeats 1000000 in
theorem rCount_any (m : Int) (m0 : -9223372036854775808 ≤ m) (m1 : m ≤ 9223372036854775807) (B : Nat) (s : ByteArray) (f : Nat) (w : World) (h : Wire.RD B s f w) (hs : s.size ≤ maxLen) :
    Calls Try.prog 56 #[.pointer (some ⟨B, 0, none⟩), .int .i64 m] w
      fun e w' => e = .returned (.int .i64 ((Wire.step (Wire.wC m) s f).1 : Int)) ∧ Wire.After B (Wire.step (Wire.wC m) s f).2.1 (Wire.step (Wire.wC m) s f).2.2 w w' := by
  have hmf : ∀ (fn : Fn) (first cap : Array Value) (w : World), (Instr.makeFunc fn first cap).run Try.prog w = .ok (.func fn first cap) w := fun _ _ _ _ => rfl
  have hm : (s.size : Int) ≤ 9223372036854775807 := by unfold maxLen at hs; omega
  have hr : ((Wire.step (Wire.wC m) s f).1 : Int) ≤ 9223372036854775807 := by
    have := (Wire.count_le m s f).1
    omega
  have H := Lib.hid h
  clear h
  go_enter Try.func56, Try.ntmps56
  go_wp2_with fail
  refine (nextu_any _ _ (Wire.wC m) B s f _ (H.out.alloc _) hs eg_count (fun x b _ hb => by rw [app1]; exact cCount_any m m0 m1 _ x b _ (by omega) (World.cell?_alloc_at _ _ _ _ rfl))).mono ?_
  rintro e w' ⟨rfl, hA⟩
  have HA := Lib.hid hA.alloc
  clear hA hmf
  go_wp2_with fail
  go_ret
  exact ⟨rfl, HA.out⟩

namespace Wire
/-- A text taken from the front: the text, what is left, the fault. -/
def text (m : Int) (s : ByteArray) (f : Nat) : ByteArray × ByteArray × Nat :=
  ((step (wC m) s f).2.1.extract 0 (step (wC m) s f).1, (step (wC m) s f).2.1.extract (step (wC m) s f).1 (step (wC m) s f).2.1.size, (step (wC m) s f).2.2)
theorem extract00 (s : ByteArray) : s.extract 0 0 = ⟨#[]⟩ := by
  apply ByteArray.ext
  apply Array.ext'
  rw [Lib.extract_data]; simp
theorem extract_all (s : ByteArray) : s.extract 0 s.size = s := by
  apply ByteArray.ext
  apply Array.ext'
  rw [Lib.extract_data, Nat.sub_zero, List.drop_zero, List.take_of_length_le (by simp)]
end Wire

theorem lies_new (w : World) (cs : Array Value) (T : TypeId) (xs : List Value) (h : cs.toList = xs) :
    Lies (w.alloc (.cells cs T)) (w.alloc (.cells cs T)).heap.size (some ⟨w.heap.size, 0, none⟩) xs := fun _ => by
  refine ⟨_, rfl, by simp, fun j u hu => ?_⟩
  have e : (⟨w.heap.size, 0, none⟩ : Addr).add j = ⟨w.heap.size, j, none⟩ := by unfold Addr.add; split <;> simp_all
  rw [e, World.cell?_alloc_at _ _ _ _ rfl, ← hu, ← h]
  simp

set_option maxRecDepth 20000 in
set_option maxHeartbeats 1000000 in
theorem rEnd_any (B : Nat) (s : ByteArray) (f : Nat) (w : World) (h : Wire.RD B s f w) (hs : s.size ≤ maxLen) :
    Calls Try.prog 32 #[.pointer (some ⟨B, 0, none⟩)] w
      fun e w' => e = .returned (.int .i64 (Wire.fin s f : Int)) ∧ Wire.After B s (Wire.fin s f) w w' := by
  have hm : (s.size : Int) ≤ 9223372036854775807 := by unfold maxLen at hs; omega
  have H := Lib.hid h
  clear h
  by_cases hf : f = 0
  · subst hf
    by_cases h0 : s.size = 0
    · have HF : Hid (Wire.fin s 0 = 0) := by show _ = _; unfold Wire.fin; rw [if_neg (by simp), if_pos h0]
      go_enter Try.func32, Try.ntmps32
      go_wp2_with fail
      refine (err_any B s 0 _ H.out).mono ?_
      rintro e w' ⟨rfl, rfl⟩
      go_wp2_with fail
      refine (rleft_any B s 0 _ H.out).mono ?_
      rintro e w' ⟨rfl, rfl⟩
      go_wp2_with fail
      refine (err_any B s 0 _ H.out).mono ?_
      rintro e w' ⟨rfl, rfl⟩
      go_wp2_with fail
      go_ret
      rw [HF.out]
      exact ⟨rfl, H.out, Wire.grown_refl _ _⟩
    · have HF : Hid (Wire.fin s 0 = 8) := by show _ = _; unfold Wire.fin; rw [if_neg (by simp), if_neg h0]
      have hp : (0 : Int) < s.size := by omega
      clear h0
      go_enter Try.func32, Try.ntmps32
      go_wp2_with fail
      refine (err_any B s 0 _ H.out).mono ?_
      rintro e w' ⟨rfl, rfl⟩
      go_wp2_with fail
      refine (rleft_any B s 0 _ H.out).mono ?_
      rintro e w' ⟨rfl, rfl⟩
      go_wp2_with fail
      refine (fail_any B s 0 _ H.out 8).mono ?_
      rintro e w1 ⟨rfl, hA⟩
      have HA := Lib.hid hA
      clear hA
      go_wp2_with fail
      refine (err_any B s 8 _ HA.out.1).mono ?_
      rintro e w' ⟨rfl, rfl⟩
      go_wp2_with fail
      go_ret
      rw [HF.out]
      exact ⟨rfl, HA.out⟩
  · have HF : Hid (Wire.fin s f = f) := by show _ = _; unfold Wire.fin; rw [if_pos hf]
    have hfe : ((f : Int) == 0) = false := by simpa using (by omega : ¬ (f : Int) = 0)
    clear hf
    go_enter Try.func32, Try.ntmps32
    go_wp2_with fail
    refine (err_any B s f _ H.out).mono ?_
    rintro e w' ⟨rfl, rfl⟩
    go_wp2_with fail
    refine (err_any B s f _ H.out).mono ?_
    rintro e w' ⟨rfl, rfl⟩
    go_wp2_with fail
    go_ret
    rw [HF.out]
    exact ⟨rfl, H.out, Wire.grown_refl _ _⟩
end Go.Proofs.Ytndgafjnifkghaa
