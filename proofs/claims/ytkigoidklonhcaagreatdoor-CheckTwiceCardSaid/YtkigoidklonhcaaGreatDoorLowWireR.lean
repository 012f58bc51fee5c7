/-
  Contracts of wire's Reader.
  The contract of wire's next, by which each call takes a number.
  Contracts of the closures that tell a number's fault: Uint's, Int's, Count's, Tag's.
  Contracts of the Reader's calls: Uint, Int, Count, Text, Tag, Bool, End.
-/
import Derived.Test.YtkigoidklonhcaaGreatDoorLowWireW
import Derived.Test.YtkigoidklonhcaaGreatDoorLowNum
import Derived.BigQuiet
section
namespace Go.Proofs.YtkigoidklonhcaaGreatDoor
open Go.RowKit

namespace Wire
/-- A reader at block B that New made: the bytes that are left, the fault. -/
def RD (B : Nat) (s : ByteArray) (e : Nat) (w : World) : Prop := w.heap[B]? = some (.cells #[.bool true, .string s, .int .i64 (e : Int)] 97 (0, 0))

section
variable {w w' : World} {B : Nat} {s : ByteArray} {e : Nat}
theorem RD.lt (h : RD B s e w) : B < w.heap.size := by
  rcases Nat.lt_or_ge B w.heap.size with hlt | hge
  · exact hlt
  · unfold RD at h; rw [Array.getElem?_eq_none hge] at h; cases h
theorem RD.c0 (h : RD B s e w) : w.cell? ⟨B, 0, none⟩ = some (.bool true) := by rw [Lib.cell_of_heap h]; rfl
theorem RD.c1 (h : RD B s e w) : w.cell? ⟨B, 1, none⟩ = some (.string s) := by rw [Lib.cell_of_heap h]; rfl
theorem RD.c2 (h : RD B s e w) : w.cell? ⟨B, 2, none⟩ = some (.int .i64 (e : Int)) := by rw [Lib.cell_of_heap h]; rfl
theorem RD.f (h : RD B s e w) (i : Nat) : w.frozen? ⟨B, i, none⟩ = false := Lib.frozen_of_heap h i
theorem RD.set1 (h : RD B s e w) (t : ByteArray) : RD B t e (w.setCell ⟨B, 1, none⟩ (.string t)) := by
  unfold RD at h ⊢
  simp [World.setCell, Array.getElem?_modify, h]
theorem RD.set2 (h : RD B s e w) (g : Nat) : RD B s g (w.setCell ⟨B, 2, none⟩ (.int .i64 (g : Int))) := by
  unfold RD at h ⊢
  simp [World.setCell, Array.getElem?_modify, h]
theorem RD.alloc (h : RD B s e w) (o : Obj) : RD B s e (w.alloc o) := (Below.heap_alloc w o B h.lt).trans h
theorem RD.drew (h : RD B s e w) : RD B s e w.drew := h
theorem RD.below (h : RD B s e w) (hb : Below w.heap.size w w') : RD B s e w' := (hb.block B h.lt).trans h
theorem RD.grown {C : Nat} (h : RD B s e w) (hb : w.grownBy w' (some C)) (hne : B ≠ C) : RD B s e w' := (hb.block B h.lt (by simpa using hne)).trans h
end

theorem grown_trans {a b c : World} {row : Option Nat} (h : a.grownBy b row) (k : b.grownBy c row) : a.grownBy c row :=
  ⟨k.os.trans h.os, k.tape.trans h.tape, k.output.trans h.output, Nat.le_trans h.size k.size, fun i hi hne => (k.block i (by have := h.size; omega) hne).trans (h.block i hi hne)⟩
theorem grown_refl (w : World) (row : Option Nat) : w.grownBy w row := ⟨rfl, rfl, rfl, Nat.le_refl _, fun _ _ _ => rfl⟩
theorem grown_set (w : World) (B i : Nat) (u : Value) : w.grownBy (w.setCell ⟨B, i, none⟩ u) (some B) :=
  ⟨rfl, rfl, rfl, by simp [World.setCell], fun k _ hne => Below.heap_setCell _ _ _ _ (by intro h; exact hne (by rw [h]))⟩
theorem grown_drew (w : World) (row : Option Nat) : w.grownBy w.drew row := ⟨rfl, rfl, rfl, Nat.le_refl _, fun _ _ _ => rfl⟩

/-- Behind a call: what is left, the fault; and nothing else of what was there has turned. -/
def After (B : Nat) (s : ByteArray) (e : Nat) (w w' : World) : Prop := RD B s e w' ∧ w.grownBy w' (some B)
end Wire

set_option maxHeartbeats 400000 in
theorem ris_any (B : Nat) (s : ByteArray) (f : Nat) (w : World) (h : Wire.RD B s f w) :
    Calls Tryz.prog 46 #[.pointer (some ⟨B, 0, none⟩)] w fun e w' => e = .returned (.bool true) ∧ w = w' := by
  have c0 := h.c0
  have H := Lib.hid h
  clear h
  go_enter Tryz.func46, Tryz.ntmps46
  go_wp2
  go_ret
  exact ⟨rfl, rfl⟩

set_option maxHeartbeats 400000 in
theorem err_any (B : Nat) (s : ByteArray) (f : Nat) (w : World) (h : Wire.RD B s f w) :
    Calls Tryz.prog 22 #[.pointer (some ⟨B, 0, none⟩)] w fun e w' => e = .returned (.int .i64 (f : Int)) ∧ w = w' := by
  have c2 := h.c2
  have H := Lib.hid h
  clear h
  go_enter Tryz.func22, Tryz.ntmps22
  go_wp2_with fail
  refine (ris_any B s f _ H.out).mono ?_
  rintro e w' ⟨rfl, rfl⟩
  go_wp2_with fail
  go_ret
  exact ⟨rfl, rfl⟩

set_option maxHeartbeats 400000 in
theorem rleft_any (B : Nat) (s : ByteArray) (f : Nat) (w : World) (h : Wire.RD B s f w) :
    Calls Tryz.prog 49 #[.pointer (some ⟨B, 0, none⟩)] w fun e w' => e = .returned (.int .i64 (s.size : Int)) ∧ w = w' := by
  have c1 := h.c1
  have H := Lib.hid h
  clear h
  go_enter Tryz.func49, Tryz.ntmps49
  go_wp2_with fail
  refine (ris_any B s f _ H.out).mono ?_
  rintro e w' ⟨rfl, rfl⟩
  go_wp2_with fail
  go_ret
  exact ⟨rfl, rfl⟩

set_option maxHeartbeats 400000 in
theorem when_yes (k : Int) (w : World) :
    Calls Tryz.prog 45 #[.bool true, .int .i64 k] w fun e w' => e = .returned (.int .i64 k) ∧ w = w' := by
  go_enter Tryz.func45, Tryz.ntmps45
  go_wp2
  go_ret
  exact ⟨rfl, rfl⟩

set_option maxHeartbeats 400000 in
theorem when_no (k : Int) (w : World) :
    Calls Tryz.prog 45 #[.bool false, .int .i64 k] w fun e w' => e = .returned (.int .i64 0) ∧ w = w' := by
  go_enter Tryz.func45, Tryz.ntmps45
  go_wp2
  go_ret
  exact ⟨rfl, rfl⟩

set_option maxHeartbeats 400000 in
theorem fail_any (B : Nat) (s : ByteArray) (f : Nat) (w : World) (h : Wire.RD B s f w) (g : Nat) :
    Calls Tryz.prog 50 #[.pointer (some ⟨B, 0, none⟩), .int .i64 (g : Int)] w fun e w' => e = .returned (.tuple #[]) ∧ Wire.After B s g w w' := by
  have c2 := h.c2
  have f2 := h.f 2
  have H := Lib.hid h
  clear h
  go_enter Tryz.func50, Tryz.ntmps50
  go_wp2
  go_end0
  exact ⟨rfl, H.out.set2 g, Wire.grown_set _ _ _ _⟩

set_option maxHeartbeats 400000 in
theorem take_any (B : Nat) (s : ByteArray) (f : Nat) (w : World) (h : Wire.RD B s f w) (n : Nat) (hn : n ≤ s.size) :
    Calls Tryz.prog 68 #[.pointer (some ⟨B, 0, none⟩), .int .i64 (n : Int)] w fun e w' => e = .returned (.string (s.extract 0 n)) ∧ Wire.After B (s.extract n s.size) f w w' := by
  have c1 := h.c1
  have f1 := h.f 1
  have H := Lib.hid h
  clear h
  go_enter Tryz.func68, Tryz.ntmps68
  go_wp2
  go_ret
  exact ⟨rfl, H.out.set1 _, Wire.grown_set _ _ _ _⟩

set_option maxHeartbeats 400000 in
theorem new_any (s : ByteArray) (w : World) :
    Calls Tryz.prog 20 #[.string s] w fun e w' => e = .returned (.pointer (some ⟨w.heap.size, 0, none⟩)) ∧ Wire.RD w.heap.size s 0 w' ∧ Below w.heap.size w w' := by
  go_enter Tryz.func20, Tryz.ntmps20
  go_wp2
  go_ret
  exact ⟨rfl, heap_alloc_new w _, (Below.refl _ _).alloc (Nat.le_refl _) _⟩
end Go.Proofs.YtkigoidklonhcaaGreatDoor
end

section
namespace Go.Proofs.YtkigoidklonhcaaGreatDoor
open Go.RowKit

theorem zag0 : Num.zag 0 = 0 := by decide
theorem retV {k : IntKind} {a b : Nat} (h : a = b) : Ending.returned (.int k (a : Int)) = .returned (.int k (b : Int)) := by rw [h]

set_option maxRecDepth 20000 in
set_option maxHeartbeats 2000000 in
theorem nextu_any (g : Nat) (caps : Array Value) (wrong : Nat → Nat → Nat) (B : Nat) (s : ByteArray) (f : Nat) (w : World) (h : Wire.RD B s f w) (hs : s.size ≤ maxLen)
    (eg : ∀ (args : Array Value) (w : World), (callFunc g args).run Tryz.prog w = .ok (.enter g args) w)
    (hw : ∀ x b : Nat, x < 18446744073709551616 → b ≤ s.size → Calls Tryz.prog g (#[.int .u64 ((x : Nat) : Int), .int .i64 (b : Int)] ++ caps) w fun e w' => e = .returned (.int .i64 (wrong x b : Int)) ∧ w = w') :
    Calls Tryz.prog 42 #[.pointer (some ⟨B, 0, none⟩), .func (.func 43) #[] #[], .func (.func g) #[] caps] w
      fun e w' => e = .returned (.int .u64 (((Wire.step wrong s f).1 : Nat) : Int)) ∧ Wire.After B (Wire.step wrong s f).2.1 (Wire.step wrong s f).2.2 w w' := by
  have hm : (s.size : Int) ≤ 9223372036854775807 := by unfold maxLen at hs; omega
  have c1 := h.c1
  have H := Lib.hid h
  have HW := Lib.hid hw
  have HG := Lib.hid eg
  clear h hw eg
  by_cases hf : f = 0
  · subst hf
    have hbd := Num.rd_bound s.data.toList
    generalize hR : Num.rd s.data.toList = R at hbd
    obtain ⟨v, q, g'⟩ := R
    simp only [] at hbd
    obtain ⟨hq1, -, hv, -, hz⟩ := hbd
    have HV := Lib.hid hv
    have HZ := Lib.hid hz
    have hqs : q ≤ s.size := by simpa using hq1
    have HR := Lib.hid hR
    clear hR hv hq1 hz
    by_cases hg : g' = 0
    · subst hg
      have hsub : ((s.size : Int) - (q : Int)) = ((s.size - q : Nat) : Int) := by omega
      have HSub := Lib.hid hsub
      clear hsub
      generalize hwv : wrong v (s.size - q) = fw
      have HWV := Lib.hid hwv
      clear hwv
      by_cases hf0 : fw = 0
      · subst hf0
        have HS := Lib.hid (Wire.step_ok HR.out HWV.out)
        go_enter Tryz.func42, Tryz.ntmps42
        go_wp2_with fail
        refine (err_any B s 0 _ H.out).mono ?_
        rintro e w' ⟨rfl, rfl⟩
        go_wp2_with fail
        refine (read_any s _ hs).mono ?_
        rintro e w' ⟨rfl, rfl⟩
        rw [HR.out]
        have eg := HG.out
        go_wp2_with fail
        clear eg
        rw [HSub.out]
        refine (HW.out v (s.size - q) HV.out (Nat.sub_le _ _)).mono ?_
        rintro e w' ⟨rfl, rfl⟩
        rw [HWV.out]
        go_wp2_with fail
        refine (take_any B s 0 _ H.out q hqs).mono ?_
        rintro e w' ⟨rfl, hA⟩
        have HA := Lib.hid hA
        clear hA
        go_wp2_with fail
        go_ret
        rw [HS.out]
        exact ⟨rfl, HA.out⟩
      · have HS := Lib.hid (Wire.step_wrong HR.out HWV.out hf0)
        have hfb : ((fw : Int) != 0) = true := by simpa using (by omega : ¬ (fw : Int) = 0)
        clear hf0
        go_enter Tryz.func42, Tryz.ntmps42
        go_wp2_with fail
        refine (err_any B s 0 _ H.out).mono ?_
        rintro e w' ⟨rfl, rfl⟩
        go_wp2_with fail
        refine (read_any s _ hs).mono ?_
        rintro e w' ⟨rfl, rfl⟩
        rw [HR.out]
        have eg := HG.out
        go_wp2_with fail
        clear eg
        rw [HSub.out]
        refine (HW.out v (s.size - q) HV.out (Nat.sub_le _ _)).mono ?_
        rintro e w' ⟨rfl, rfl⟩
        rw [HWV.out]
        go_wp2_with fail
        refine (fail_any B s 0 _ H.out fw).mono ?_
        rintro e w' ⟨rfl, hA⟩
        have HA := Lib.hid hA
        clear hA
        go_wp2_with fail
        go_ret
        rw [HS.out]
        exact ⟨rfl, HA.out⟩
    · have HS := Lib.hid (Wire.step_bad (wrong := wrong) HR.out hg)
      obtain ⟨hv0, hq0⟩ := HZ.out hg
      subst hv0; subst hq0
      have hfb : ((g' : Int) != 0) = true := by simpa using (by omega : ¬ (g' : Int) = 0)
      have hfe : ((g' : Int) == 0) = false := by simpa using (by omega : ¬ (g' : Int) = 0)
      clear hg
      go_enter Tryz.func42, Tryz.ntmps42
      go_wp2_with fail
      refine (err_any B s 0 _ H.out).mono ?_
      rintro e w' ⟨rfl, rfl⟩
      go_wp2_with fail
      refine (read_any s _ hs).mono ?_
      rintro e w' ⟨rfl, rfl⟩
      rw [HR.out]
      go_wp2_with fail
      refine (fail_any B s 0 _ H.out g').mono ?_
      rintro e w' ⟨rfl, hA⟩
      have HA := Lib.hid hA
      clear hA
      go_wp2_with fail
      go_ret
      rw [HS.out]
      exact ⟨rfl, HA.out⟩
  · have HS := Lib.hid (Wire.step_fault (wrong := wrong) (s := s) hf)
    have hfb : ((f : Int) != 0) = true := by simpa using (by omega : ¬ (f : Int) = 0)
    clear hf
    go_enter Tryz.func42, Tryz.ntmps42
    go_wp2_with fail
    refine (err_any B s f _ H.out).mono ?_
    rintro e w' ⟨rfl, rfl⟩
    go_wp2_with fail
    go_ret
    rw [HS.out]
    exact ⟨rfl, H.out, Wire.grown_refl _ _⟩

set_option maxRecDepth 20000 in
set_option maxHeartbeats 2000000 in
theorem nexti_any (g : Nat) (caps : Array Value) (wrong : Nat → Nat → Nat) (B : Nat) (s : ByteArray) (f : Nat) (w : World) (h : Wire.RD B s f w) (hs : s.size ≤ maxLen)
    (eg : ∀ (args : Array Value) (w : World), (callFunc g args).run Tryz.prog w = .ok (.enter g args) w)
    (hw : ∀ x b : Nat, x < 18446744073709551616 → b ≤ s.size → Calls Tryz.prog g (#[.int .i64 (Num.zag x), .int .i64 (b : Int)] ++ caps) w fun e w' => e = .returned (.int .i64 (wrong x b : Int)) ∧ w = w') :
    Calls Tryz.prog 87 #[.pointer (some ⟨B, 0, none⟩), .func (.func 88) #[] #[], .func (.func g) #[] caps] w
      fun e w' => e = .returned (.int .i64 (Num.zag (Wire.step wrong s f).1)) ∧ Wire.After B (Wire.step wrong s f).2.1 (Wire.step wrong s f).2.2 w w' := by
  have hm : (s.size : Int) ≤ 9223372036854775807 := by unfold maxLen at hs; omega
  have c1 := h.c1
  have H := Lib.hid h
  have HW := Lib.hid hw
  have HG := Lib.hid eg
  clear h hw eg
  by_cases hf : f = 0
  · subst hf
    have hbd := Num.rd_bound s.data.toList
    generalize hR : Num.rd s.data.toList = R at hbd
    obtain ⟨v, q, g'⟩ := R
    simp only [] at hbd
    obtain ⟨hq1, -, hv, -, hz⟩ := hbd
    have HV := Lib.hid hv
    have HZ := Lib.hid hz
    have hqs : q ≤ s.size := by simpa using hq1
    have HR := Lib.hid hR
    clear hR hv hq1 hz
    by_cases hg : g' = 0
    · subst hg
      have hsub : ((s.size : Int) - (q : Int)) = ((s.size - q : Nat) : Int) := by omega
      have HSub := Lib.hid hsub
      clear hsub
      generalize hwv : wrong v (s.size - q) = fw
      have HWV := Lib.hid hwv
      clear hwv
      by_cases hf0 : fw = 0
      · subst hf0
        have HS := Lib.hid (Wire.step_ok HR.out HWV.out)
        go_enter Tryz.func87, Tryz.ntmps87
        go_wp2_with fail
        refine (err_any B s 0 _ H.out).mono ?_
        rintro e w' ⟨rfl, rfl⟩
        go_wp2_with fail
        refine (readint_any s _ hs).mono ?_
        rintro e w' ⟨rfl, rfl⟩
        rw [HR.out]
        have eg := HG.out
        go_wp2_with fail
        clear eg
        rw [HSub.out]
        refine (HW.out v (s.size - q) HV.out (Nat.sub_le _ _)).mono ?_
        rintro e w' ⟨rfl, rfl⟩
        rw [HWV.out]
        go_wp2_with fail
        refine (take_any B s 0 _ H.out q hqs).mono ?_
        rintro e w' ⟨rfl, hA⟩
        have HA := Lib.hid hA
        clear hA
        go_wp2_with fail
        go_ret
        rw [HS.out]
        exact ⟨rfl, HA.out⟩
      · have HS := Lib.hid (Wire.step_wrong HR.out HWV.out hf0)
        have hfb : ((fw : Int) != 0) = true := by simpa using (by omega : ¬ (fw : Int) = 0)
        clear hf0
        go_enter Tryz.func87, Tryz.ntmps87
        go_wp2_with fail
        refine (err_any B s 0 _ H.out).mono ?_
        rintro e w' ⟨rfl, rfl⟩
        go_wp2_with fail
        refine (readint_any s _ hs).mono ?_
        rintro e w' ⟨rfl, rfl⟩
        rw [HR.out]
        have eg := HG.out
        go_wp2_with fail
        clear eg
        rw [HSub.out]
        refine (HW.out v (s.size - q) HV.out (Nat.sub_le _ _)).mono ?_
        rintro e w' ⟨rfl, rfl⟩
        rw [HWV.out]
        go_wp2_with fail
        refine (fail_any B s 0 _ H.out fw).mono ?_
        rintro e w' ⟨rfl, hA⟩
        have HA := Lib.hid hA
        clear hA
        go_wp2_with fail
        go_ret
        rw [HS.out]
        exact ⟨retI zag0.symm, HA.out⟩
    · have HS := Lib.hid (Wire.step_bad (wrong := wrong) HR.out hg)
      obtain ⟨hv0, hq0⟩ := HZ.out hg
      subst hv0; subst hq0
      have hfb : ((g' : Int) != 0) = true := by simpa using (by omega : ¬ (g' : Int) = 0)
      have hfe : ((g' : Int) == 0) = false := by simpa using (by omega : ¬ (g' : Int) = 0)
      clear hg
      go_enter Tryz.func87, Tryz.ntmps87
      go_wp2_with fail
      refine (err_any B s 0 _ H.out).mono ?_
      rintro e w' ⟨rfl, rfl⟩
      go_wp2_with fail
      refine (readint_any s _ hs).mono ?_
      rintro e w' ⟨rfl, rfl⟩
      rw [HR.out]
      go_wp2_with fail
      refine (fail_any B s 0 _ H.out g').mono ?_
      rintro e w' ⟨rfl, hA⟩
      have HA := Lib.hid hA
      clear hA
      go_wp2_with fail
      go_ret
      rw [HS.out]
      exact ⟨retI zag0.symm, HA.out⟩
  · have HS := Lib.hid (Wire.step_fault (wrong := wrong) (s := s) hf)
    have hfb : ((f : Int) != 0) = true := by simpa using (by omega : ¬ (f : Int) = 0)
    clear hf
    go_enter Tryz.func87, Tryz.ntmps87
    go_wp2_with fail
    refine (err_any B s f _ H.out).mono ?_
    rintro e w' ⟨rfl, rfl⟩
    go_wp2_with fail
    go_ret
    rw [HS.out]
    exact ⟨retI zag0.symm, H.out, Wire.grown_refl _ _⟩
end Go.Proofs.YtkigoidklonhcaaGreatDoor
end

section
namespace Go.Proofs.YtkigoidklonhcaaGreatDoor
open Go.RowKit

namespace Wire
theorem wU_yes {m x b : Nat} (h : m < x) : wU m x b = 9 := by unfold wU; rw [if_pos h]
theorem wU_no {m x b : Nat} (h : ¬ m < x) : wU m x b = 0 := by unfold wU; rw [if_neg h]
theorem wI_yes {l h : Int} {x b : Nat} (c : Num.zag x < l ∨ h < Num.zag x) : wI l h x b = 9 := by unfold wI; rw [if_pos c]
theorem wI_no {l h : Int} {x b : Nat} (c : ¬ (Num.zag x < l ∨ h < Num.zag x)) : wI l h x b = 0 := by unfold wI; rw [if_neg c]
theorem wT_yes {xs : List Nat} {x b : Nat} (c : isOf x xs = true) : wT xs x b = 0 := by unfold wT; rw [c]; rfl
theorem wT_no {xs : List Nat} {x b : Nat} (c : isOf x xs = false) : wT xs x b = 8 := by unfold wT; rw [c]; rfl
theorem wC_long {m : Int} {x b : Nat} (c : m < 0 ∨ m < x) : wC m x b = 4 := by unfold wC; rw [if_pos c]
theorem wC_short {m : Int} {x b : Nat} (c : ¬ (m < 0 ∨ m < x)) (h : b < x) : wC m x b = 10 := by unfold wC; rw [if_neg c, if_pos h]
theorem wC_ok {m : Int} {x b : Nat} (c : ¬ (m < 0 ∨ m < x)) (h : ¬ b < x) : wC m x b = 0 := by unfold wC; rw [if_neg c, if_neg h]
end Wire

theorem retE {a : Int} {b : Nat} (h : b = a) : Ending.returned (.int .i64 a) = .returned (.int .i64 (b : Int)) := by rw [h]

set_option maxRecDepth 20000 in
set_option maxHeartbeats 1000000 in
theorem cUint_any (m C : Nat) (x b : Nat) (w : World) (hc : w.cell? ⟨C, 0, none⟩ = some (.int .u64 (m : Int))) :
    Calls Tryz.prog 44 #[.int .u64 (x : Int), .int .i64 (b : Int), .pointer (some ⟨C, 0, none⟩)] w fun e w' => e = .returned (.int .i64 (Wire.wU m x b : Int)) ∧ w = w' := by
  by_cases h : m < x
  · have hd : decide (m < x) = true := by simpa using h
    have HW := Lib.hid (Wire.wU_yes (b := b) h)
    go_enter Tryz.func44, Tryz.ntmps44
    go_wp2_with fail
    refine (when_yes 9 _).mono ?_
    rintro e w' ⟨rfl, rfl⟩
    go_wp2_with fail
    go_ret
    exact ⟨retE (by rw [HW.out]; rfl), rfl⟩
  · have hd : decide (m < x) = false := by simpa using h
    have HW := Lib.hid (Wire.wU_no (b := b) h)
    go_enter Tryz.func44, Tryz.ntmps44
    go_wp2_with fail
    refine (when_no 9 _).mono ?_
    rintro e w' ⟨rfl, rfl⟩
    go_wp2_with fail
    go_ret
    exact ⟨retE (by rw [HW.out]; rfl), rfl⟩

set_option maxRecDepth 20000 in
set_option maxHeartbeats 1000000 in
theorem cInt_any (l h : Int) (C D : Nat) (x b : Nat) (w : World) (hc : w.cell? ⟨C, 0, none⟩ = some (.int .i64 l)) (hd : w.cell? ⟨D, 0, none⟩ = some (.int .i64 h)) :
    Calls Tryz.prog 89 #[.int .i64 (Num.zag x), .int .i64 (b : Int), .pointer (some ⟨C, 0, none⟩), .pointer (some ⟨D, 0, none⟩)] w fun e w' => e = .returned (.int .i64 (Wire.wI l h x b : Int)) ∧ w = w' := by
  have key : ∀ (z : Int) (r : Nat), z = Num.zag x → r = Wire.wI l h x b → Calls Tryz.prog 89 #[.int .i64 z, .int .i64 (b : Int), .pointer (some ⟨C, 0, none⟩), .pointer (some ⟨D, 0, none⟩)] w fun e w' => e = .returned (.int .i64 (r : Int)) ∧ w = w' := by
    intro z r hz hr
    by_cases h1 : z < l
    · have HW := Lib.hid (hr.trans (Wire.wI_yes (.inl (by omega))))
      clear hz hr
      have d1 : decide (z < l) = true := by simpa using h1
      go_enter Tryz.func89, Tryz.ntmps89
      go_wp2_with fail
      refine (when_yes 9 _).mono ?_
      rintro e w' ⟨rfl, rfl⟩
      go_wp2_with fail
      go_ret
      exact ⟨retE (by rw [HW.out]; rfl), rfl⟩
    · have d1 : decide (z < l) = false := by simpa using h1
      by_cases h2 : h < z
      · have HW := Lib.hid (hr.trans (Wire.wI_yes (.inr (by omega))))
        clear hz hr
        have d2 : decide (h < z) = true := by simpa using h2
        go_enter Tryz.func89, Tryz.ntmps89
        go_wp2_with fail
        refine (when_yes 9 _).mono ?_
        rintro e w' ⟨rfl, rfl⟩
        go_wp2_with fail
        go_ret
        exact ⟨retE (by rw [HW.out]; rfl), rfl⟩
      · have HW := Lib.hid (hr.trans (Wire.wI_no (by omega)))
        clear hz hr
        have d2 : decide (h < z) = false := by simpa using h2
        go_enter Tryz.func89, Tryz.ntmps89
        go_wp2_with fail
        refine (when_no 9 _).mono ?_
        rintro e w' ⟨rfl, rfl⟩
        go_wp2_with fail
        go_ret
        exact ⟨retE (by rw [HW.out]; rfl), rfl⟩
  exact key _ _ rfl rfl

set_option maxRecDepth 20000 in
set_option maxHeartbeats 1000000 in
theorem cCount_any (m : Int) (m0 : -9223372036854775808 ≤ m) (m1 : m ≤ 9223372036854775807) (C : Nat) (x b : Nat) (w : World) (hb : (b : Int) ≤ 9223372036854775807) (hc : w.cell? ⟨C, 0, none⟩ = some (.int .i64 m)) :
    Calls Tryz.prog 70 #[.int .u64 (x : Int), .int .i64 (b : Int), .pointer (some ⟨C, 0, none⟩)] w fun e w' => e = .returned (.int .i64 (Wire.wC m x b : Int)) ∧ w = w' := by
  by_cases h1 : m < 0
  · have HW := Lib.hid (Wire.wC_long (x := x) (b := b) (.inl h1))
    have d1 : decide (m < 0) = true := by simpa using h1
    go_enter Tryz.func70, Tryz.ntmps70
    go_wp2_with fail
    go_ret
    exact ⟨retE (by rw [HW.out]; rfl), rfl⟩
  · obtain ⟨k, rfl⟩ := Int.eq_ofNat_of_zero_le (by omega : 0 ≤ m)
    have d1 : decide ((k : Int) < 0) = false := by simp
    by_cases h2 : k < x
    · have HW := Lib.hid (Wire.wC_long (m := (k : Int)) (x := x) (b := b) (.inr (by omega)))
      have d2 : decide (k < x) = true := by simpa using h2
      go_enter Tryz.func70, Tryz.ntmps70
      go_wp2_with fail
      go_ret
      exact ⟨retE (by rw [HW.out]; rfl), rfl⟩
    · have d2 : decide (k < x) = false := by simpa using h2
      by_cases h3 : b < x
      · have HW := Lib.hid (Wire.wC_short (m := (k : Int)) (x := x) (b := b) (by omega) h3)
        have d3 : decide (b < x) = true := by simpa using h3
        go_enter Tryz.func70, Tryz.ntmps70
        go_wp2_with fail
        refine (when_yes 10 _).mono ?_
        rintro e w' ⟨rfl, rfl⟩
        go_wp2_with fail
        go_ret
        exact ⟨retE (by rw [HW.out]; rfl), rfl⟩
      · have HW := Lib.hid (Wire.wC_ok (m := (k : Int)) (x := x) (b := b) (by omega) h3)
        have d3 : decide (b < x) = false := by simpa using h3
        go_enter Tryz.func70, Tryz.ntmps70
        go_wp2_with fail
        refine (when_no 10 _).mono ?_
        rintro e w' ⟨rfl, rfl⟩
        go_wp2_with fail
        go_ret
        exact ⟨retE (by rw [HW.out]; rfl), rfl⟩

end Go.Proofs.YtkigoidklonhcaaGreatDoor
end

section
namespace Go.Proofs.YtkigoidklonhcaaGreatDoor
open Go.RowKit

theorem eg_uint : ∀ (args : Array Value) (w : World), (callFunc 44 args).run Tryz.prog w = .ok (.enter 44 args) w := enters_of Tryz.func44 (by kernel_rfl) rfl
theorem eg_int : ∀ (args : Array Value) (w : World), (callFunc 89 args).run Tryz.prog w = .ok (.enter 89 args) w := enters_of Tryz.func89 (by kernel_rfl) rfl
theorem eg_count : ∀ (args : Array Value) (w : World), (callFunc 70 args).run Tryz.prog w = .ok (.enter 70 args) w := enters_of Tryz.func70 (by kernel_rfl) rfl
theorem app1 (a b c : Value) : #[a, b] ++ #[c] = #[a, b, c] := rfl
theorem app2 (a b c d : Value) : #[a, b] ++ #[c, d] = #[a, b, c, d] := rfl

namespace Wire
theorem After.alloc {B : Nat} {s : ByteArray} {f : Nat} {w w' : World} {o : Obj} (h : After B s f (w.alloc o) w') : After B s f w w' := ⟨h.1, grown_trans (World.grownBy_alloc w o _) h.2⟩
theorem grown_trans' {B : Nat} {a b c d : World} (h : a.grownBy b (some B)) (k : b.grownBy c (some B)) (l : Below c.heap.size c d) : a.grownBy d (some B) := grown_trans (grown_trans h k) (grown_of l _)
theorem After.trans {B : Nat} {s t : ByteArray} {f g : Nat} {a b c : World} (h : After B s f a b) (k : After B t g b c) : After B t g a c := ⟨k.1, grown_trans h.2 k.2⟩
end Wire

set_option maxRecDepth 20000 in
set_option maxHeartbeats 1000000 in
theorem rUint_any (m : Nat) (B : Nat) (s : ByteArray) (f : Nat) (w : World) (h : Wire.RD B s f w) (hs : s.size ≤ maxLen) :
    Calls Tryz.prog 21 #[.pointer (some ⟨B, 0, none⟩), .int .u64 (m : Int)] w
      fun e w' => e = .returned (.int .u64 ((Wire.step (Wire.wU m) s f).1 : Int)) ∧ Wire.After B (Wire.step (Wire.wU m) s f).2.1 (Wire.step (Wire.wU m) s f).2.2 w w' := by
  have hmf : ∀ (fn : Fn) (first cap : Array Value) (w : World), (Instr.makeFunc fn first cap).run Tryz.prog w = .ok (.func fn first cap) w := fun _ _ _ _ => rfl
  have H := Lib.hid h
  clear h
  go_enter Tryz.func21, Tryz.ntmps21
  go_wp2_with fail
  refine (nextu_any _ _ (Wire.wU m) B s f _ (H.out.alloc _) hs eg_uint (fun x b _ _ => by rw [app1]; exact cUint_any m _ x b _ (World.cell?_alloc_at _ _ _ _ rfl))).mono ?_
  rintro e w' ⟨rfl, hA⟩
  have HA := Lib.hid hA.alloc
  clear hA hmf
  go_wp2_with fail
  go_ret
  exact ⟨rfl, HA.out⟩

set_option maxRecDepth 20000 in
set_option maxHeartbeats 1000000 in
theorem rInt_any (l u : Int) (B : Nat) (s : ByteArray) (f : Nat) (w : World) (h : Wire.RD B s f w) (hs : s.size ≤ maxLen) :
    Calls Tryz.prog 82 #[.pointer (some ⟨B, 0, none⟩), .int .i64 l, .int .i64 u] w
      fun e w' => e = .returned (.int .i64 (Num.zag (Wire.step (Wire.wI l u) s f).1)) ∧ Wire.After B (Wire.step (Wire.wI l u) s f).2.1 (Wire.step (Wire.wI l u) s f).2.2 w w' := by
  have hmf : ∀ (fn : Fn) (first cap : Array Value) (w : World), (Instr.makeFunc fn first cap).run Tryz.prog w = .ok (.func fn first cap) w := fun _ _ _ _ => rfl
  have H := Lib.hid h
  clear h
  go_enter Tryz.func82, Tryz.ntmps82
  go_wp2_with fail
  refine (nexti_any _ _ (Wire.wI l u) B s f _ ((H.out.alloc _).alloc _) hs eg_int (fun x b _ _ => by rw [app2]; exact cInt_any l u _ _ x b _ (by rw [World.cell?_alloc_lt _ _ _ (by simp)]; exact World.cell?_alloc_at _ _ _ _ rfl) (World.cell?_alloc_at _ _ _ _ (by simp)))).mono ?_
  rintro e w' ⟨rfl, hA⟩
  have HA := Lib.hid hA.alloc.alloc
  clear hA hmf
  go_wp2_with fail
  go_ret
  exact ⟨rfl, HA.out⟩

set_option maxRecDepth 20000 in
set_option maxHeartbeats 1000000 in
theorem rCount_any (m : Int) (m0 : -9223372036854775808 ≤ m) (m1 : m ≤ 9223372036854775807) (B : Nat) (s : ByteArray) (f : Nat) (w : World) (h : Wire.RD B s f w) (hs : s.size ≤ maxLen) :
    Calls Tryz.prog 47 #[.pointer (some ⟨B, 0, none⟩), .int .i64 m] w
      fun e w' => e = .returned (.int .i64 ((Wire.step (Wire.wC m) s f).1 : Int)) ∧ Wire.After B (Wire.step (Wire.wC m) s f).2.1 (Wire.step (Wire.wC m) s f).2.2 w w' := by
  have hmf : ∀ (fn : Fn) (first cap : Array Value) (w : World), (Instr.makeFunc fn first cap).run Tryz.prog w = .ok (.func fn first cap) w := fun _ _ _ _ => rfl
  have hm : (s.size : Int) ≤ 9223372036854775807 := by unfold maxLen at hs; omega
  have hr : ((Wire.step (Wire.wC m) s f).1 : Int) ≤ 9223372036854775807 := by
    have := (Wire.count_le m s f).1
    omega
  have H := Lib.hid h
  clear h
  go_enter Tryz.func47, Tryz.ntmps47
  go_wp2_with fail
  refine (nextu_any _ _ (Wire.wC m) B s f _ (H.out.alloc _) hs eg_count (fun x b _ hb => by rw [app1]; exact cCount_any m m0 m1 _ x b _ (by omega) (World.cell?_alloc_at _ _ _ _ rfl))).mono ?_
  rintro e w' ⟨rfl, hA⟩
  have HA := Lib.hid hA.alloc
  clear hA hmf
  go_wp2_with fail
  go_ret
  exact ⟨rfl, HA.out⟩

namespace Wire
/-- A text taken from the front: the text, what is left, the fault. -/
def text (m : Int) (s : ByteArray) (f : Nat) : ByteArray × ByteArray × Nat :=
  ((step (wC m) s f).2.1.extract 0 (step (wC m) s f).1, (step (wC m) s f).2.1.extract (step (wC m) s f).1 (step (wC m) s f).2.1.size, (step (wC m) s f).2.2)
theorem extract00 (s : ByteArray) : s.extract 0 0 = ⟨#[]⟩ := by
  apply ByteArray.ext
  apply Array.ext'
  rw [Lib.extract_data]; simp
theorem extract_all (s : ByteArray) : s.extract 0 s.size = s := by
  apply ByteArray.ext
  apply Array.ext'
  rw [Lib.extract_data, Nat.sub_zero, List.drop_zero, List.take_of_length_le (by simp)]
end Wire

theorem lies_new (w : World) (cs : Array Value) (T : TypeId) (xs : List Value) (h : cs.toList = xs) :
    Lies (w.alloc (.cells cs T)) (w.alloc (.cells cs T)).heap.size (some ⟨w.heap.size, 0, none⟩) xs := fun _ => by
  refine ⟨_, rfl, by simp, fun j u hu => ?_⟩
  have e : (⟨w.heap.size, 0, none⟩ : Addr).add j = ⟨w.heap.size, j, none⟩ := by unfold Addr.add; split <;> simp_all
  rw [e, World.cell?_alloc_at _ _ _ _ rfl, ← hu, ← h]
  simp

set_option maxRecDepth 20000 in
set_option maxHeartbeats 1000000 in
theorem rEnd_any (B : Nat) (s : ByteArray) (f : Nat) (w : World) (h : Wire.RD B s f w) (hs : s.size ≤ maxLen) :
    Calls Tryz.prog 24 #[.pointer (some ⟨B, 0, none⟩)] w
      fun e w' => e = .returned (.int .i64 (Wire.fin s f : Int)) ∧ Wire.After B s (Wire.fin s f) w w' := by
  have hm : (s.size : Int) ≤ 9223372036854775807 := by unfold maxLen at hs; omega
  have H := Lib.hid h
  clear h
  by_cases hf : f = 0
  · subst hf
    by_cases h0 : s.size = 0
    · have HF : Hid (Wire.fin s 0 = 0) := by show _ = _; unfold Wire.fin; rw [if_neg (by simp), if_pos h0]
      go_enter Tryz.func24, Tryz.ntmps24
      go_wp2_with fail
      refine (err_any B s 0 _ H.out).mono ?_
      rintro e w' ⟨rfl, rfl⟩
      go_wp2_with fail
      refine (rleft_any B s 0 _ H.out).mono ?_
      rintro e w' ⟨rfl, rfl⟩
      go_wp2_with fail
      refine (err_any B s 0 _ H.out).mono ?_
      rintro e w' ⟨rfl, rfl⟩
      go_wp2_with fail
      go_ret
      rw [HF.out]
      exact ⟨rfl, H.out, Wire.grown_refl _ _⟩
    · have HF : Hid (Wire.fin s 0 = 8) := by show _ = _; unfold Wire.fin; rw [if_neg (by simp), if_neg h0]
      have hp : (0 : Int) < s.size := by omega
      clear h0
      go_enter Tryz.func24, Tryz.ntmps24
      go_wp2_with fail
      refine (err_any B s 0 _ H.out).mono ?_
      rintro e w' ⟨rfl, rfl⟩
      go_wp2_with fail
      refine (rleft_any B s 0 _ H.out).mono ?_
      rintro e w' ⟨rfl, rfl⟩
      go_wp2_with fail
      refine (fail_any B s 0 _ H.out 8).mono ?_
      rintro e w1 ⟨rfl, hA⟩
      have HA := Lib.hid hA
      clear hA
      go_wp2_with fail
      refine (err_any B s 8 _ HA.out.1).mono ?_
      rintro e w' ⟨rfl, rfl⟩
      go_wp2_with fail
      go_ret
      rw [HF.out]
      exact ⟨rfl, HA.out⟩
  · have HF : Hid (Wire.fin s f = f) := by show _ = _; unfold Wire.fin; rw [if_pos hf]
    have hfe : ((f : Int) == 0) = false := by simpa using (by omega : ¬ (f : Int) = 0)
    clear hf
    go_enter Tryz.func24, Tryz.ntmps24
    go_wp2_with fail
    refine (err_any B s f _ H.out).mono ?_
    rintro e w' ⟨rfl, rfl⟩
    go_wp2_with fail
    refine (err_any B s f _ H.out).mono ?_
    rintro e w' ⟨rfl, rfl⟩
    go_wp2_with fail
    go_ret
    rw [HF.out]
    exact ⟨rfl, H.out, Wire.grown_refl _ _⟩
end Go.Proofs.YtkigoidklonhcaaGreatDoor
end
