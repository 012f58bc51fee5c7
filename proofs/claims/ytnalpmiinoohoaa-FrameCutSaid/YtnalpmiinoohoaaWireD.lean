/-
  Contracts of the Reader's calls: Uint, Int, Count, Text, Tag, Bool, End.
-/
import Derived.Test.YtnalpmiinoohoaaWireC
namespace Go.Proofs.Ytnalpmiinoohoaa
open Go.RowKit

theorem eg_count : ∀ (args : Array Value) (w : World), (callFunc 62 args).run Try.prog w = .ok (.enter 62 args) w := enters_of Try.func62 (by kernel_rfl) rfl
theorem app1 (a b c : Value) : #[a, b] ++ #[c] = #[a, b, c] := rfl
theorem app2 (a b c d : Value) : #[a, b] ++ #[c, d] = #[a, b, c, d] := rfl

namespace Wire
theorem After.alloc {B : Nat} {s : ByteArray} {f : Nat} {w w' : World} {o : Obj} (h : After B s f (w.alloc o) w') : After B s f w w' := ⟨h.1, grown_trans (World.grownBy_alloc w o _) h.2⟩
theorem grown_trans' {B : Nat} {a b c d : World} (h : a.grownBy b (some B)) (k : b.grownBy c (some B)) (l : Below c.heap.size c d) : a.grownBy d (some B) := grown_trans (grown_trans h k) (grown_of l _)
theorem After.trans {B : Nat} {s t : ByteArray} {f g : Nat} {a b c : World} (h : After B s f a b) (k : After B t g b c) : After B t g a c := ⟨k.1, grown_trans h.2 k.2⟩
end Wire

set_option maxRecDepth 20000 in
set_option maxHeartbeats 1000000 in
theorem rCount_any (m : Int) (m0 : -9223372036854775808 ≤ m) (m1 : m ≤ 9223372036854775807) (B : Nat) (s : ByteArray) (f : Nat) (w : World) (h : Wire.RD B s f w) (hs : s.size ≤ maxLen) :
    Calls Try.prog 53 #[.pointer (some ⟨B, 0, none⟩), .int .i64 m] w
      fun e w' => e = .returned (.int .i64 ((Wire.step (Wire.wC m) s f).1 : Int)) ∧ Wire.After B (Wire.step (Wire.wC m) s f).2.1 (Wire.step (Wire.wC m) s f).2.2 w w' := by
  have hmf : ∀ (fn : Fn) (first cap : Array Value) (w : World), (Instr.makeFunc fn first cap).run Try.prog w = .ok (.func fn first cap) w := fun _ _ _ _ => rfl
  have hm : (s.size : Int) ≤ 9223372036854775807 := by unfold maxLen at hs; omega
  have hr : ((Wire.step (Wire.wC m) s f).1 : Int) ≤ 9223372036854775807 := by
    have := (Wire.count_le m s f).1
    omega
  have H := Lib.hid h
  clear h
  go_enter Try.func53, Try.ntmps53
  go_wp2_with fail
  refine (nextu_any _ _ (Wire.wC m) B s f _ (H.out.alloc _) hs eg_count (fun x b _ hb => by rw [app1]; exact cCount_any m m0 m1 _ x b _ (by omega) (World.cell?_alloc_at _ _ _ _ rfl))).mono ?_
  rintro e w' ⟨rfl, hA⟩
  have HA := Lib.hid hA.alloc
  clear hA hmf
  go_wp2_with fail
  go_ret
  exact ⟨rfl, HA.out⟩

namespace Wire
/-- A text taken from the front: the text, what is left, the fault. -/
def text (m : Int) (s : ByteArray) (f : Nat) : ByteArray × ByteArray × Nat :=
  ((step (wC m) s f).2.1.extract 0 (step (wC m) s f).1, (step (wC m) s f).2.1.extract (step (wC m) s f).1 (step (wC m) s f).2.1.size, (step (wC m) s f).2.2)
theorem extract00 (s : ByteArray) : s.extract 0 0 = ⟨#[]⟩ := by
  apply ByteArray.ext
  apply Array.ext'
  rw [Lib.extract_data]; simp
theorem extract_all (s : ByteArray) : s.extract 0 s.size = s := by
  apply ByteArray.ext
  apply Array.ext'
  rw [Lib.extract_data, Nat.sub_zero, List.drop_zero, List.take_of_length_le (by simp)]
end Wire

set_option maxRecDepth 20000 in
set_option maxHeartbeats 1000000 in
theorem rText_any (m : Int) (m0 : -9223372036854775808 ≤ m) (m1 : m ≤ 9223372036854775807) (B : Nat) (s : ByteArray) (f : Nat) (w : World) (h : Wire.RD B s f w) (hs : s.size ≤ maxLen) (h48 : m ≤ 281474976710656 ∨ s.size ≤ 281474976710656) :
    Calls Try.prog 42 #[.pointer (some ⟨B, 0, none⟩), .int .i64 m] w
      fun e w' => e = .returned (.string (Wire.text m s f).1) ∧ Wire.After B (Wire.text m s f).2.1 (Wire.text m s f).2.2 w w' := by
  obtain ⟨hc1, hc2, hc3⟩ := Wire.count_le m s f
  have hsz := Wire.step_size (wrong := Wire.wC m) s f
  have H := Lib.hid h
  unfold Wire.text
  have HC := rCount_any m m0 m1 B s f w h hs
  clear h
  generalize Wire.step (Wire.wC m) s f = st at HC hc1 hc2 hc3 hsz ⊢
  obtain ⟨n, t, g⟩ := st
  simp only [] at HC hc1 hc2 hc3 hsz ⊢
  have HCC := Lib.hid HC
  clear HC hc3
  by_cases hn : n = 0
  · subst hn
    go_enter Try.func42, Try.ntmps42
    go_wp2_with fail
    refine HCC.out.mono ?_
    rintro e w1 ⟨rfl, hA⟩
    have HA := Lib.hid hA
    clear hA
    go_wp2_with fail
    go_ret
    rw [Wire.extract00, Wire.extract_all]
    exact ⟨rfl, HA.out⟩
  · have hne : ((n : Int) == 0) = false := by simpa using (by omega : ¬ (n : Int) = 0)
    have hle : n ≤ 281474976710656 := by omega
    clear hn hc1
    go_enter Try.func42, Try.ntmps42
    go_wp2_with fail
    refine HCC.out.mono ?_
    rintro e w1 ⟨rfl, hA⟩
    have HA := Lib.hid hA
    clear hA
    go_wp2_with fail
    refine (take_any B t g _ HA.out.1 n hc2).mono ?_
    rintro e w2 ⟨rfl, hA2⟩
    have HA2 := Lib.hid hA2
    clear hA2
    go_wp2_with fail
    refine (clone_any _ _ (by rw [ByteArray.size_extract]; omega)).mono ?_
    rintro e w3 ⟨rfl, hb3⟩
    have HB3 := Lib.hid hb3
    clear hb3
    go_wp2_with fail
    go_ret
    exact ⟨rfl, HA2.out.1.below HB3.out, Wire.grown_trans' HA.out.2 HA2.out.2 HB3.out⟩

theorem lies_new (w : World) (cs : Array Value) (T : TypeId) (xs : List Value) (h : cs.toList = xs) :
    Lies (w.alloc (.cells cs T)) (w.alloc (.cells cs T)).heap.size (some ⟨w.heap.size, 0, none⟩) xs := fun _ => by
  refine ⟨_, rfl, by simp, fun j u hu => ?_⟩
  have e : (⟨w.heap.size, 0, none⟩ : Addr).add j = ⟨w.heap.size, j, none⟩ := by unfold Addr.add; split <;> simp_all
  rw [e, World.cell?_alloc_at _ _ _ _ rfl, ← hu, ← h]
  simp

end Go.Proofs.Ytnalpmiinoohoaa
