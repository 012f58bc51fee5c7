/-
  The contract of wire's next, by which each call takes a number.
-/
import Derived.Test.YtndgafjnifkghaaWireR
namespace Go.Proofs.Ytndgafjnifkghaa
open Go.RowKit

theorem zag0 : Num.zag 0 = 0 := by decide
theorem retV {k : IntKind} {a b : Nat} (h : a = b) : Ending.returned (.int k (a : Int)) = .returned (.int k (b : Int)) := by rw [h]

set_option maxRecDepth 20000 in
set_option maxHeartbeats 2000000 in
theorem nextu_any (g : Nat) (caps : Array Value) (wrong : Nat → Nat → Nat) (B : Nat) (s : ByteArray) (f : Nat) (w : World) (h : Wire.RD B s f w) (hs : s.size ≤ maxLen)
    (eg : ∀ (args : Array Value) (w : World), (callFunc g args).run Try.prog w = .ok (.enter g args) w)
    (hw : ∀ x b : Nat, x < 18446744073709551616 → b ≤ s.size → Calls Try.prog g (#[.int .u64 ((x : Nat) : Int), .int .i64 (b : Int)] ++ caps) w fun e w' => e = .returned (.int .i64 (wrong x b : Int)) ∧ w = w') :
    Calls Try.prog 51 #[.pointer (some ⟨B, 0, none⟩), .func (.func 52) #[] #[], .func (.func g) #[] caps] w
      fun e w' => e = .returned (.int .u64 (((Wire.step wrong s f).1 : Nat) : Int)) ∧ Wire.After B (Wire.step wrong s f).2.1 (Wire.step wrong s f).2.2 w w' := by
  have hm : (s.size : Int) ≤ 9223372036854775807 := by unfold maxLen at hs; omega
  have c1 := h.c1
  have H := Lib.hid h
  have HW := Lib.hid hw
  have HG := Lib.hid eg
  clear h hw eg
  by_cases hf : f = 0
  · subst hf
    have hbd := Num.rd_bound s.data.toList
    generalize hR : Num.rd s.data.toList = R at hbd
    obtain ⟨v, q, g'⟩ := R
    simp only [] at hbd
    obtain ⟨hq1, -, hv, -, hz⟩ := hbd
    have HV := Lib.hid hv
    have HZ := Lib.hid hz
    have hqs : q ≤ s.size := by simpa using hq1
    have HR := Lib.hid hR
    clear hR hv hq1 hz
    by_cases hg : g' = 0
    · subst hg
      have hsub : ((s.size : Int) - (q : Int)) = ((s.size - q : Nat) : Int) := by omega
      have HSub := Lib.hid hsub
      clear hsub
      generalize hwv : wrong v (s.size - q) = fw
      have HWV := Lib.hid hwv
      clear hwv
      by_cases hf0 : fw = 0
      · subst hf0
        have HS := Lib.hid (Wire.step_ok HR.out HWV.out)
        go_enter Try.func51, Try.ntmps51
        go_wp2_with fail
        refine (err_any B s 0 _ H.out).mono ?_
        rintro e w' ⟨rfl, rfl⟩
        go_wp2_with fail
        refine (read_any s _ hs).mono ?_
        rintro e w' ⟨rfl, rfl⟩
        rw [HR.out]
        have eg := HG.out
        go_wp2_with fail
        clear eg
        rw [HSub.out]
        refine (HW.out v (s.size - q) HV.out (Nat.sub_le _ _)).mono ?_
        rintro e w' ⟨rfl, rfl⟩
        rw [HWV.out]
        go_wp2_with fail
        refine (take_any B s 0 _ H.out q hqs).mono ?_
        rintro e w' ⟨rfl, hA⟩
        have HA := Lib.hid hA
        clear hA
        go_wp2_with fail
        go_ret
        rw [HS.out]
        exact ⟨rfl, HA.out⟩
      · have HS := Lib.hid (Wire.step_wrong HR.out HWV.out hf0)
        have hfb : ((fw : Int) != 0) = true := by simpa using (by omega : ¬ (fw : Int) = 0)
        clear hf0
        go_enter Try.func51, Try.ntmps51
        go_wp2_with fail
        refine (err_any B s 0 _ H.out).mono ?_
        rintro e w' ⟨rfl, rfl⟩
        go_wp2_with fail
        refine (read_any s _ hs).mono ?_
        rintro e w' ⟨rfl, rfl⟩
        rw [HR.out]
        have eg := HG.out
        go_wp2_with fail
        clear eg
        rw [HSub.out]
        refine (HW.out v (s.size - q) HV.out (Nat.sub_le _ _)).mono ?_
        rintro e w' ⟨rfl, rfl⟩
        rw [HWV.out]
        go_wp2_with fail
        refine (fail_any B s 0 _ H.out fw).mono ?_
        rintro e w' ⟨rfl, hA⟩
        have HA := Lib.hid hA
        clear hA
        go_wp2_with fail
        go_ret
        rw [HS.out]
        exact ⟨rfl, HA.out⟩
    · have HS := Lib.hid (Wire.step_bad (wrong := wrong) HR.out hg)
      obtain ⟨hv0, hq0⟩ := HZ.out hg
      subst hv0; subst hq0
      have hfb : ((g' : Int) != 0) = true := by simpa using (by omega : ¬ (g' : Int) = 0)
      have hfe : ((g' : Int) == 0) = false := by simpa using (by omega : ¬ (g' : Int) = 0)
      clear hg
      go_enter Try.func51, Try.ntmps51
      go_wp2_with fail
      refine (err_any B s 0 _ H.out).mono ?_
      rintro e w' ⟨rfl, rfl⟩
      go_wp2_with fail
      refine (read_any s _ hs).mono ?_
      rintro e w' ⟨rfl, rfl⟩
      rw [HR.out]
      go_wp2_with fail
      refine (fail_any B s 0 _ H.out g').mono ?_
      rintro e w' ⟨rfl, hA⟩
      have HA := Lib.hid hA
      clear hA
      go_wp2_with fail
      go_ret
      rw [HS.out]
      exact ⟨rfl, HA.out⟩
  · have HS := Lib.hid (Wire.step_fault (wrong := wrong) (s := s) hf)
    have hfb : ((f : Int) != 0) = true := by simpa using (by omega : ¬ (f : Int) = 0)
    clear hf
    go_enter Try.func51, Try.ntmps51
    go_wp2_with fail
    refine (err_any B s f _ H.out).mono ?_
    rintro e w' ⟨rfl, rfl⟩
    go_wp2_with fail
    go_ret
    rw [HS.out]
    exact ⟨rfl, H.out, Wire.grown_refl _ _⟩

set_option maxRecDepth 20000 in
set_option maxHeartbeats 2000000 in
theorem nexti_any (g : Nat) (caps : Array Value) (wrong : Nat → Nat → Nat) (B : Nat) (s : ByteArray) (f : Nat) (w : World) (h : Wire.RD B s f w) (hs : s.size ≤ maxLen)
    (eg : ∀ (args : Array Value) (w : World), (callFunc g args).run Try.prog w = .ok (.enter g args) w)
    (hw : ∀ x b : Nat, x < 18446744073709551616 → b ≤ s.size → Calls Try.prog g (#[.int .i64 (Num.zag x), .int .i64 (b : Int)] ++ caps) w fun e w' => e = .returned (.int .i64 (wrong x b : Int)) ∧ w = w') :
    Calls Try.prog 96 #[.pointer (some ⟨B, 0, none⟩), .func (.func 97) #[] #[], .func (.func g) #[] caps] w
      fun e w' => e = .returned (.int .i64 (Num.zag (Wire.step wrong s f).1)) ∧ Wire.After B (Wire.step wrong s f).2.1 (Wire.step wrong s f).2.2 w w' := by
  have hm : (s.size : Int) ≤ 9223372036854775807 := by unfold maxLen at hs; omega
  have c1 := h.c1
  have H := Lib.hid h
  have HW := Lib.hid hw
  have HG := Lib.hid eg
  clear h hw eg
  by_cases hf : f = 0
  · subst hf
    have hbd := Num.rd_bound s.data.toList
    generalize hR : Num.rd s.data.toList = R at hbd
    obtain ⟨v, q, g'⟩ := R
    simp only [] at hbd
    obtain ⟨hq1, -, hv, -, hz⟩ := hbd
    have HV := Lib.hid hv
    have HZ := Lib.hid hz
    have hqs : q ≤ s.size := by simpa using hq1
    have HR := Lib.hid hR
    clear hR hv hq1 hz
    by_cases hg : g' = 0
    · subst hg
      have hsub : ((s.size : Int) - (q : Int)) = ((s.size - q : Nat) : Int) := by omega
      have HSub := Lib.hid hsub
      clear hsub
      generalize hwv : wrong v (s.size - q) = fw
      have HWV := Lib.hid hwv
      clear hwv
      by_cases hf0 : fw = 0
      · subst hf0
        have HS := Lib.hid (Wire.step_ok HR.out HWV.out)
        go_enter Try.func96, Try.ntmps96
        go_wp2_with fail
        refine (err_any B s 0 _ H.out).mono ?_
        rintro e w' ⟨rfl, rfl⟩
        go_wp2_with fail
        refine (readint_any s _ hs).mono ?_
        rintro e w' ⟨rfl, rfl⟩
        rw [HR.out]
        have eg := HG.out
        go_wp2_with fail
        clear eg
        rw [HSub.out]
        refine (HW.out v (s.size - q) HV.out (Nat.sub_le _ _)).mono ?_
        rintro e w' ⟨rfl, rfl⟩
        rw [HWV.out]
        go_wp2_with fail
        refine (take_any B s 0 _ H.out q hqs).mono ?_
        rintro e w' ⟨rfl, hA⟩
        have HA := Lib.hid hA
        clear hA
        go_wp2_with fail
        go_ret
        rw [HS.out]
        exact ⟨rfl, HA.out⟩
      · have HS := Lib.hid (Wire.step_wrong HR.out HWV.out hf0)
        have hfb : ((fw : Int) != 0) = true := by simpa using (by omega : ¬ (fw : Int) = 0)
        clear hf0
        go_enter Try.func96, Try.ntmps96
        go_wp2_with fail
        refine (err_any B s 0 _ H.out).mono ?_
        rintro e w' ⟨rfl, rfl⟩
        go_wp2_with fail
        refine (readint_any s _ hs).mono ?_
        rintro e w' ⟨rfl, rfl⟩
        rw [HR.out]
        have eg := HG.out
        go_wp2_with fail
        clear eg
        rw [HSub.out]
        refine (HW.out v (s.size - q) HV.out (Nat.sub_le _ _)).mono ?_
        rintro e w' ⟨rfl, rfl⟩
        rw [HWV.out]
        go_wp2_with fail
        refine (fail_any B s 0 _ H.out fw).mono ?_
        rintro e w' ⟨rfl, hA⟩
        have HA := Lib.hid hA
        clear hA
        go_wp2_with fail
        go_ret
        rw [HS.out]
        exact ⟨retI zag0.symm, HA.out⟩
    · have HS := Lib.hid (Wire.step_bad (wrong := wrong) HR.out hg)
      obtain ⟨hv0, hq0⟩ := HZ.out hg
      subst hv0; subst hq0
      have hfb : ((g' : Int) != 0) = true := by simpa using (by omega : ¬ (g' : Int) = 0)
      have hfe : ((g' : Int) == 0) = false := by simpa using (by omega : ¬ (g' : Int) = 0)
      clear hg
      go_enter Try.func96, Try.ntmps96
      go_wp2_with fail
      refine (err_any B s 0 _ H.out).mono ?_
      rintro e w' ⟨rfl, rfl⟩
      go_wp2_with fail
      refine (readint_any s _ hs).mono ?_
      rintro e w' ⟨rfl, rfl⟩
      rw [HR.out]
      go_wp2_with fail
      refine (fail_any B s 0 _ H.out g').mono ?_
      rintro e w' ⟨rfl, hA⟩
      have HA := Lib.hid hA
      clear hA
      go_wp2_with fail
      go_ret
      rw [HS.out]
      exact ⟨retI zag0.symm, HA.out⟩
  · have HS := Lib.hid (Wire.step_fault (wrong := wrong) (s := s) hf)
    have hfb : ((f : Int) != 0) = true := by simpa using (by omega : ¬ (f : Int) = 0)
    clear hf
    go_enter Try.func96, Try.ntmps96
    go_wp2_with fail
    refine (err_any B s f _ H.out).mono ?_
    rintro e w' ⟨rfl, rfl⟩
    go_wp2_with fail
    go_ret
    rw [HS.out]
    exact ⟨retI zag0.symm, H.out, Wire.grown_refl _ _⟩
end Go.Proofs.Ytndgafjnifkghaa
