/-
  Contracts of the document's Reader.
-/
import Derived.Test.YtndgafjnifkghaaWireD
import Derived.Test.YtndgafjnifkghaaNumRefR
namespace Go.Proofs.Ytndgafjnifkghaa
open Go.RowKit

namespace Wire
/-- The document's reader at block B: the bytes that are left, the fault. -/
def RR (B : Nat) (s : ByteArray) (e : Nat) (w : World) : Prop := w.heap[B]? = some (.cells #[.string s, .int .i64 (e : Int)] 63 (0, 0))

section
variable {w w' : World} {B : Nat} {s : ByteArray} {e : Nat}
theorem RR.lt (h : RR B s e w) : B < w.heap.size := by
  rcases Nat.lt_or_ge B w.heap.size with hlt | hge
  · exact hlt
  · unfold RR at h; rw [Array.getElem?_eq_none hge] at h; cases h
theorem RR.c0 (h : RR B s e w) : w.cell? ⟨B, 0, none⟩ = some (.string s) := by rw [Lib.cell_of_heap h]; rfl
theorem RR.c1 (h : RR B s e w) : w.cell? ⟨B, 1, none⟩ = some (.int .i64 (e : Int)) := by rw [Lib.cell_of_heap h]; rfl
theorem RR.f (h : RR B s e w) (i : Nat) : w.frozen? ⟨B, i, none⟩ = false := Lib.frozen_of_heap h i
theorem RR.set0 (h : RR B s e w) (t : ByteArray) : RR B t e (w.setCell ⟨B, 0, none⟩ (.string t)) := by
  unfold RR at h ⊢
  simp [World.setCell, Array.getElem?_modify, h]
theorem RR.set1 (h : RR B s e w) (g : Nat) : RR B s g (w.setCell ⟨B, 1, none⟩ (.int .i64 (g : Int))) := by
  unfold RR at h ⊢
  simp [World.setCell, Array.getElem?_modify, h]
theorem RR.alloc (h : RR B s e w) (o : Obj) : RR B s e (w.alloc o) := (Below.heap_alloc w o B h.lt).trans h
theorem RR.drew (h : RR B s e w) : RR B s e w.drew := h
theorem RR.below (h : RR B s e w) (hb : Below w.heap.size w w') : RR B s e w' := (hb.block B h.lt).trans h
theorem RR.grown {C : Nat} (h : RR B s e w) (hb : w.grownBy w' (some C)) (hne : B ≠ C) : RR B s e w' := (hb.block B h.lt (by simpa using hne)).trans h
end

/-- Behind a call of it. -/
def Post (B : Nat) (s : ByteArray) (e : Nat) (w w' : World) : Prop := RR B s e w' ∧ w.grownBy w' (some B)
theorem Post.same {B : Nat} {s : ByteArray} {e : Nat} {w : World} (h : RR B s e w) : Post B s e w w := ⟨h, grown_refl _ _⟩
theorem Post.of_below {B : Nat} {s : ByteArray} {e : Nat} {w w' : World} (h : RR B s e w) (hb : Below w.heap.size w w') : Post B s e w w' := ⟨h.below hb, grown_of hb _⟩
theorem Post.trans {B : Nat} {s t : ByteArray} {e f : Nat} {a b c : World} (h : Post B s e a b) (k : Post B t f b c) : Post B t f a c := ⟨k.1, grown_trans h.2 k.2⟩
theorem Post.put0 {B : Nat} {s : ByteArray} {e : Nat} {a b : World} (h : Post B s e a b) (t : ByteArray) : Post B t e a (b.setCell ⟨B, 0, none⟩ (.string t)) := ⟨h.1.set0 t, grown_trans h.2 (grown_set _ _ _ _)⟩
theorem Post.put1 {B : Nat} {s : ByteArray} {e : Nat} {a b : World} (h : Post B s e a b) (g : Nat) : Post B s g a (b.setCell ⟨B, 1, none⟩ (.int .i64 (g : Int))) := ⟨h.1.set1 g, grown_trans h.2 (grown_set _ _ _ _)⟩
end Wire

set_option maxHeartbeats 400000 in
theorem ffail_any (B : Nat) (s : ByteArray) (f : Nat) (w : World) (h : Wire.RR B s f w) (g : Nat) :
    Calls Try.prog 61 #[.pointer (some ⟨B, 0, none⟩), .int .i64 (g : Int)] w fun e w' => e = .returned (.tuple #[]) ∧ Wire.Post B s g w w' := by
  have c1 := h.c1
  have f1 := h.f 1
  have H := Lib.hid h
  clear h
  go_enter Try.func61, Try.ntmps61
  go_wp2
  go_end0
  exact ⟨rfl, H.out.set1 g, Wire.grown_set _ _ _ _⟩

set_option maxRecDepth 20000 in
set_option maxHeartbeats 2000000 in
theorem frUint_any (m : Nat) (B : Nat) (s : ByteArray) (f : Nat) (w : World) (h : Wire.RR B s f w) (hs : s.size ≤ maxLen) :
    Calls Try.prog 33 #[.pointer (some ⟨B, 0, none⟩), .int .u64 (m : Int)] w
      fun e w' => e = .returned (.int .u64 ((Wire.step (Wire.wU m) s f).1 : Int)) ∧ Wire.Post B (Wire.step (Wire.wU m) s f).2.1 (Wire.step (Wire.wU m) s f).2.2 w w' := by
  have hm : (s.size : Int) ≤ 9223372036854775807 := by unfold maxLen at hs; omega
  have c0 := h.c0
  have c1 := h.c1
  have H := Lib.hid h
  clear h
  by_cases hf : f = 0
  · subst hf
    have hbd := Num.rd_bound s.data.toList
    generalize hR : Num.rd s.data.toList = R at hbd
    obtain ⟨v, q, g'⟩ := R
    simp only [] at hbd
    obtain ⟨hq1, -, -, -, -⟩ := hbd
    have hqs : q ≤ s.size := by simpa using hq1
    have HR := Lib.hid hR
    clear hR hq1
    by_cases hg : g' = 0
    · subst hg
      by_cases hv : m < v
      · have HS := Lib.hid (Wire.step_wrong (wrong := Wire.wU m) HR.out (Wire.wU_yes hv) (by decide))
        have hd : decide (m < v) = true := by simpa using hv
        go_enter Try.func33, Try.ntmps33
        go_wp2_with fail
        refine (rread_any s _ hs).mono ?_
        rintro e w1 ⟨rfl, hb⟩
        have HH := Lib.hid (Wire.Post.of_below H.out hb)
        clear hb
        rw [HR.out]
        go_wp2_with fail
        refine (ffail_any B s 0 _ HH.out.1 9).mono ?_
        rintro e w2 ⟨rfl, hP⟩
        have HP := Lib.hid (HH.out.trans hP)
        clear hP
        go_wp2_with fail
        go_ret
        rw [HS.out]
        exact ⟨rfl, HP.out⟩
      · have HS := Lib.hid (Wire.step_ok (wrong := Wire.wU m) HR.out (Wire.wU_no hv))
        have hd : decide (m < v) = false := by simpa using hv
        go_enter Try.func33, Try.ntmps33
        go_wp2_with fail
        refine (rread_any s _ hs).mono ?_
        rintro e w1 ⟨rfl, hb⟩
        have HH := Lib.hid (Wire.Post.of_below H.out hb)
        have d0 := HH.out.1.c0
        have e0 := HH.out.1.f 0
        clear hb
        rw [HR.out]
        go_wp2_with fail
        go_ret
        rw [HS.out]
        exact ⟨rfl, HH.out.put0 _⟩
    · have HS := Lib.hid (Wire.step_bad (wrong := Wire.wU m) HR.out hg)
      have hfb : ((g' : Int) != 0) = true := by simpa using (by omega : ¬ (g' : Int) = 0)
      have hfe : ((g' : Int) == 0) = false := by simpa using (by omega : ¬ (g' : Int) = 0)
      clear hg
      go_enter Try.func33, Try.ntmps33
      go_wp2_with fail
      refine (rread_any s _ hs).mono ?_
      rintro e w1 ⟨rfl, hb⟩
      have HH := Lib.hid (Wire.Post.of_below H.out hb)
      clear hb
      rw [HR.out]
      go_wp2_with fail
      refine (ffail_any B s 0 _ HH.out.1 g').mono ?_
      rintro e w2 ⟨rfl, hP⟩
      have HP := Lib.hid (HH.out.trans hP)
      clear hP
      go_wp2_with fail
      go_ret
      rw [HS.out]
      exact ⟨rfl, HP.out⟩
  · have HS := Lib.hid (Wire.step_fault (wrong := Wire.wU m) (s := s) hf)
    have hfb : ((f : Int) != 0) = true := by simpa using (by omega : ¬ (f : Int) = 0)
    clear hf
    go_enter Try.func33, Try.ntmps33
    go_wp2_with fail
    go_ret
    rw [HS.out]
    exact ⟨rfl, Wire.Post.same H.out⟩

set_option maxRecDepth 20000 in
set_option maxHeartbeats 2000000 in
theorem frInt_any (l u : Int) (B : Nat) (s : ByteArray) (f : Nat) (w : World) (h : Wire.RR B s f w) (hs : s.size ≤ maxLen) :
    Calls Try.prog 62 #[.pointer (some ⟨B, 0, none⟩), .int .i64 l, .int .i64 u] w
      fun e w' => e = .returned (.int .i64 (Num.zag (Wire.step (Wire.wI l u) s f).1)) ∧ Wire.Post B (Wire.step (Wire.wI l u) s f).2.1 (Wire.step (Wire.wI l u) s f).2.2 w w' := by
  have hm : (s.size : Int) ≤ 9223372036854775807 := by unfold maxLen at hs; omega
  have c0 := h.c0
  have c1 := h.c1
  have H := Lib.hid h
  clear h
  by_cases hf : f = 0
  · subst hf
    have hbd := Num.rd_bound s.data.toList
    generalize hR : Num.rd s.data.toList = R at hbd
    obtain ⟨v, q, g'⟩ := R
    simp only [] at hbd
    obtain ⟨hq1, -, -, -, -⟩ := hbd
    have hqs : q ≤ s.size := by simpa using hq1
    have HR := Lib.hid hR
    clear hR hq1
    obtain ⟨z, hz⟩ : ∃ z, z = Num.zag v := ⟨_, rfl⟩
    have HZ := Lib.hid hz
    by_cases hg : g' = 0
    · subst hg
      by_cases hv : z < l ∨ u < z
      · have HS := Lib.hid (Wire.step_wrong (wrong := Wire.wI l u) HR.out (Wire.wI_yes (hz ▸ hv)) (by decide))
        clear hz
        by_cases hv1 : z < l
        · have hd : decide (z < l) = true := by simpa using hv1
          clear hv
          go_enter Try.func62, Try.ntmps62
          go_wp2_with fail
          refine (rreadint_any s _ hs).mono ?_
          rintro e w1 ⟨rfl, hb⟩
          have HH := Lib.hid (Wire.Post.of_below H.out hb)
          clear hb
          rw [HR.out, ← HZ.out]
          go_wp2_with fail
          refine (ffail_any B s 0 _ HH.out.1 9).mono ?_
          rintro e w2 ⟨rfl, hP⟩
          have HP := Lib.hid (HH.out.trans hP)
          clear hP
          go_wp2_with fail
          go_ret
          rw [HS.out]
          exact ⟨retI zag0.symm, HP.out⟩
        · have hd : decide (z < l) = false := by simpa using hv1
          have hd2 : decide (u < z) = true := by simpa using (by omega : u < z)
          clear hv
          go_enter Try.func62, Try.ntmps62
          go_wp2_with fail
          refine (rreadint_any s _ hs).mono ?_
          rintro e w1 ⟨rfl, hb⟩
          have HH := Lib.hid (Wire.Post.of_below H.out hb)
          clear hb
          rw [HR.out, ← HZ.out]
          go_wp2_with fail
          refine (ffail_any B s 0 _ HH.out.1 9).mono ?_
          rintro e w2 ⟨rfl, hP⟩
          have HP := Lib.hid (HH.out.trans hP)
          clear hP
          go_wp2_with fail
          go_ret
          rw [HS.out]
          exact ⟨retI zag0.symm, HP.out⟩
      · have HS := Lib.hid (Wire.step_ok (wrong := Wire.wI l u) HR.out (Wire.wI_no (hz ▸ hv)))
        have hd : decide (z < l) = false := by simpa using (by omega : ¬ z < l)
        have hd2 : decide (u < z) = false := by simpa using (by omega : ¬ u < z)
        clear hz hv
        go_enter Try.func62, Try.ntmps62
        go_wp2_with fail
        refine (rreadint_any s _ hs).mono ?_
        rintro e w1 ⟨rfl, hb⟩
        have HH := Lib.hid (Wire.Post.of_below H.out hb)
        have d0 := HH.out.1.c0
        have e0 := HH.out.1.f 0
        clear hb
        rw [HR.out, ← HZ.out]
        go_wp2_with fail
        go_ret
        rw [HS.out]
        exact ⟨retI HZ.out, HH.out.put0 _⟩
    · have HS := Lib.hid (Wire.step_bad (wrong := Wire.wI l u) HR.out hg)
      have hfb : ((g' : Int) != 0) = true := by simpa using (by omega : ¬ (g' : Int) = 0)
      have hfe : ((g' : Int) == 0) = false := by simpa using (by omega : ¬ (g' : Int) = 0)
      clear hg hz
      go_enter Try.func62, Try.ntmps62
      go_wp2_with fail
      refine (rreadint_any s _ hs).mono ?_
      rintro e w1 ⟨rfl, hb⟩
      have HH := Lib.hid (Wire.Post.of_below H.out hb)
      clear hb
      rw [HR.out]
      go_wp2_with fail
      refine (ffail_any B s 0 _ HH.out.1 g').mono ?_
      rintro e w2 ⟨rfl, hP⟩
      have HP := Lib.hid (HH.out.trans hP)
      clear hP
      go_wp2_with fail
      go_ret
      rw [HS.out]
      exact ⟨retI zag0.symm, HP.out⟩
  · have HS := Lib.hid (Wire.step_fault (wrong := Wire.wI l u) (s := s) hf)
    have hfb : ((f : Int) != 0) = true := by simpa using (by omega : ¬ (f : Int) = 0)
    clear hf
    go_enter Try.func62, Try.ntmps62
    go_wp2_with fail
    go_ret
    rw [HS.out]
    exact ⟨retI zag0.symm, Wire.Post.same H.out⟩
end Go.Proofs.Ytndgafjnifkghaa
