/-
  Contracts of the document's Reader: Tag, Bool, Count, Text, End.
-/
import Derived.Test.YtndgafjnifkghaaWireG
namespace Go.Proofs.Ytndgafjnifkghaa
open Go.RowKit

namespace Wire
/-- The bound that bounds nothing. -/
def top : Nat := 18446744073709551615

theorem step_max_bad {s : ByteArray} {f : Nat} (h : (step (wU 18446744073709551615) s f).2.2 ≠ 0) (wrong : Nat → Nat → Nat) : step wrong s f = (0, s, (step (wU 18446744073709551615) s f).2.2) := by
  have hb := (Num.rd_bound s.data.toList).2.2.1
  by_cases hf : f = 0
  · subst hf
    generalize hR : Num.rd s.data.toList = R at hb
    obtain ⟨v, q, g⟩ := R
    simp only [] at hb
    by_cases hg : g = 0
    · subst hg
      rw [step_ok hR (wU_no (by omega))] at h
      exact absurd rfl h
    · rw [step_bad hR hg, step_bad hR hg]
  · rw [step_fault hf, step_fault hf]

theorem step_max_ok {s : ByteArray} {f : Nat} (h : (step (wU 18446744073709551615) s f).2.2 = 0) (wrong : Nat → Nat → Nat) :
    step wrong s f = if wrong (step (wU 18446744073709551615) s f).1 (step (wU 18446744073709551615) s f).2.1.size = 0 then ((step (wU 18446744073709551615) s f).1, (step (wU 18446744073709551615) s f).2.1, 0)
      else (0, s, wrong (step (wU 18446744073709551615) s f).1 (step (wU 18446744073709551615) s f).2.1.size) := by
  have hb := (Num.rd_bound s.data.toList).2.2.1
  by_cases hf : f = 0
  · subst hf
    generalize hR : Num.rd s.data.toList = R at hb
    obtain ⟨v, q, g⟩ := R
    simp only [] at hb
    by_cases hg : g = 0
    · subst hg
      rw [step_ok hR (wU_no (by omega))]
      simp only []
      have e : (s.extract q s.size).size = s.size - q := by rw [ByteArray.size_extract]; omega
      rw [e]
      split
      · rename_i hw
        exact step_ok hR hw
      · rename_i hw
        exact step_wrong hR rfl hw
    · rw [step_bad hR hg] at h
      exact absurd h hg
  · rw [step_fault hf] at h
    exact absurd h hf

/-- Both sayings of a number taken, and held then. -/
theorem step_two (wrong : Nat → Nat → Nat) (s : ByteArray) (f v : Nat) (t : ByteArray) (g : Nat) (h : step (wU 18446744073709551615) s f = (v, t, g)) :
    (g ≠ 0 → v = 0 ∧ t = s ∧ step wrong s f = (0, s, g)) ∧ (g = 0 → (wrong v t.size = 0 → step wrong s f = (v, t, 0)) ∧ (wrong v t.size ≠ 0 → step wrong s f = (0, s, wrong v t.size))) := by
  constructor
  · intro hg
    have hg' : (step (wU 18446744073709551615) s f).2.2 ≠ 0 := by rw [h]; exact hg
    have e := step_max_bad hg' (wU 18446744073709551615)
    rw [h] at e
    have e2 := step_max_bad hg' wrong
    rw [h] at e2
    injection e with e3 e4
    injection e4 with e5 e6
    exact ⟨e3, e5, e2⟩
  · intro hg
    have hg' : (step (wU 18446744073709551615) s f).2.2 = 0 := by rw [h]; exact hg
    have e := step_max_ok hg' wrong
    rw [h] at e
    simp only [] at e
    exact ⟨fun hw => by rw [e, if_pos hw], fun hw => by rw [e, if_neg hw]⟩
end Wire

set_option maxRecDepth 20000 in
set_option maxHeartbeats 2000000 in
theorem frCount_any (m : Int) (m0 : -9223372036854775808 ≤ m) (m1 : m ≤ 9223372036854775807) (B : Nat) (s : ByteArray) (f : Nat) (w : World) (h : Wire.RR B s f w) (hs : s.size ≤ maxLen) :
    Calls Try.prog 34 #[.pointer (some ⟨B, 0, none⟩), .int .i64 m] w
      fun e w' => e = .returned (.int .i64 ((Wire.step (Wire.wC m) s f).1 : Int)) ∧ Wire.Post B (Wire.step (Wire.wC m) s f).2.1 (Wire.step (Wire.wC m) s f).2.2 w w' := by
  have hm : (s.size : Int) ≤ 9223372036854775807 := by unfold maxLen at hs; omega
  have c0 := h.c0
  have HC := frUint_any 18446744073709551615 B s f w h hs
  have hsz := Wire.step_size (wrong := Wire.wU 18446744073709551615) s f
  generalize hst : Wire.step (Wire.wU 18446744073709551615) s f = st at HC hsz
  obtain ⟨v, t, g⟩ := st
  simp only [] at HC hsz
  have HCC := Lib.hid HC
  have HT := Lib.hid (Wire.step_two (Wire.wC m) s f v t g hst)
  have htm : (t.size : Int) ≤ 9223372036854775807 := by omega
  clear HC hst h
  by_cases hg : g = 0
  · subst hg
    by_cases h1 : m < 0
    · have hd1 : decide (m < 0) = true := by simpa using h1
      have HM : Hid (Wire.step (Wire.wC m) s f = (0, s, 4)) := by
        have hw : Wire.wC m v t.size = 4 := Wire.wC_long (.inl h1)
        have := (HT.out.2 rfl).2 (by rw [hw]; decide)
        rw [hw] at this
        exact this
      go_enter Try.func34, Try.ntmps34
      go_wp2_with fail
      refine HCC.out.mono ?_
      rintro e w1 ⟨rfl, hP⟩
      have HP := Lib.hid hP
      have d0 := hP.1.c0
      have d1 := hP.1.c1
      have e0 := hP.1.f 0
      have e1 := hP.1.f 1
      clear hP
      go_wp2_with fail
      go_ret
      rw [HM.out]
      exact ⟨rfl, (HP.out.put0 s).put1 4⟩
    · obtain ⟨k, rfl⟩ := Int.eq_ofNat_of_zero_le (by omega : 0 ≤ m)
      have hd1 : decide ((k : Int) < 0) = false := by simp
      by_cases h2 : k < v
      · have hd2 : decide (k < v) = true := by simpa using h2
        have HM : Hid (Wire.step (Wire.wC (k : Int)) s f = (0, s, 4)) := by
          have hw : Wire.wC (k : Int) v t.size = 4 := Wire.wC_long (.inr (by omega))
          have := (HT.out.2 rfl).2 (by rw [hw]; decide)
          rw [hw] at this
          exact this
        go_enter Try.func34, Try.ntmps34
        go_wp2_with fail
        refine HCC.out.mono ?_
        rintro e w1 ⟨rfl, hP⟩
        have HP := Lib.hid hP
        have d0 := hP.1.c0
        have d1 := hP.1.c1
        have e0 := hP.1.f 0
        have e1 := hP.1.f 1
        clear hP
        go_wp2_with fail
        go_ret
        rw [HM.out]
        exact ⟨rfl, (HP.out.put0 s).put1 4⟩
      · have hd2 : decide (k < v) = false := by simpa using h2
        by_cases h3 : t.size < v
        · have hd3 : decide (t.size < v) = true := by simpa using h3
          have HM : Hid (Wire.step (Wire.wC (k : Int)) s f = (0, s, 10)) := by
            have hw : Wire.wC (k : Int) v t.size = 10 := Wire.wC_short (by omega) h3
            have := (HT.out.2 rfl).2 (by rw [hw]; decide)
            rw [hw] at this
            exact this
          go_enter Try.func34, Try.ntmps34
          go_wp2_with fail
          refine HCC.out.mono ?_
          rintro e w1 ⟨rfl, hP⟩
          have HP := Lib.hid hP
          have d0 := hP.1.c0
          have d1 := hP.1.c1
          have e0 := hP.1.f 0
          have e1 := hP.1.f 1
          clear hP
          go_wp2_with fail
          go_ret
          rw [HM.out]
          exact ⟨rfl, (HP.out.put0 s).put1 10⟩
        · have hd3 : decide (t.size < v) = false := by simpa using h3
          have HM : Hid (Wire.step (Wire.wC (k : Int)) s f = (v, t, 0)) := (HT.out.2 rfl).1 (Wire.wC_ok (by omega) h3)
          have hvm : (v : Int) ≤ 9223372036854775807 := by omega
          go_enter Try.func34, Try.ntmps34
          go_wp2_with fail
          refine HCC.out.mono ?_
          rintro e w1 ⟨rfl, hP⟩
          have HP := Lib.hid hP
          have d0 := hP.1.c0
          have d1 := hP.1.c1
          clear hP
          go_wp2_with fail
          go_ret
          rw [HM.out]
          exact ⟨rfl, HP.out⟩
  · obtain ⟨hv0, ht, HM⟩ := HT.out.1 hg
    subst hv0; subst ht
    have HMM := Lib.hid HM
    have hfb : ((g : Int) != 0) = true := by simpa using (by omega : ¬ (g : Int) = 0)
    clear hg HM
    go_enter Try.func34, Try.ntmps34
    go_wp2_with fail
    refine HCC.out.mono ?_
    rintro e w1 ⟨rfl, hP⟩
    have HP := Lib.hid hP
    have d1 := hP.1.c1
    clear hP
    go_wp2_with fail
    go_ret
    rw [HMM.out]
    exact ⟨rfl, HP.out⟩

set_option maxRecDepth 20000 in
set_option maxHeartbeats 1000000 in
theorem frEnd_any (B : Nat) (s : ByteArray) (f : Nat) (w : World) (h : Wire.RR B s f w) :
    Calls Try.prog 36 #[.pointer (some ⟨B, 0, none⟩)] w
      fun e w' => e = .returned (.int .i64 (Wire.fin s f : Int)) ∧ Wire.Post B s (Wire.fin s f) w w' := by
  have c0 := h.c0
  have c1 := h.c1
  have e1 := h.f 1
  have H := Lib.hid h
  clear h
  by_cases hf : f = 0
  · subst hf
    by_cases h0 : s.size = 0
    · have HF : Hid (Wire.fin s 0 = 0) := by show _ = _; unfold Wire.fin; rw [if_neg (by simp), if_pos h0]
      have hs0 : s = ⟨#[]⟩ := by
        apply ByteArray.ext
        exact Array.eq_empty_of_size_eq_zero h0
      subst hs0
      go_enter Try.func36, Try.ntmps36
      go_wp2_with fail
      go_ret
      rw [HF.out]
      exact ⟨rfl, Wire.Post.same H.out⟩
    · have HF : Hid (Wire.fin s 0 = 8) := by show _ = _; unfold Wire.fin; rw [if_neg (by simp), if_neg h0]
      have hne : ¬ s.toList = [] := by
        intro h
        apply h0
        rw [Lib.toList_data] at h
        have := congrArg List.length h
        simpa using this
      have hne2 : (!s.toList.isEmpty) = true := by simpa using hne
      clear h0
      go_enter Try.func36, Try.ntmps36
      go_wp2_with fail
      go_ret
      rw [HF.out]
      exact ⟨rfl, (Wire.Post.same H.out).put1 8⟩
  · have HF : Hid (Wire.fin s f = f) := by show _ = _; unfold Wire.fin; rw [if_pos hf]
    have hfe : ((f : Int) == 0) = false := by simpa using (by omega : ¬ (f : Int) = 0)
    clear hf
    go_enter Try.func36, Try.ntmps36
    go_wp2_with fail
    go_ret
    rw [HF.out]
    exact ⟨rfl, Wire.Post.same H.out⟩
end Go.Proofs.Ytndgafjnifkghaa
