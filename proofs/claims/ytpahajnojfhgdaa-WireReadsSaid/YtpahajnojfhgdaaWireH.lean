/-
  Contracts of the document's Reader: Tag, Bool, Count, Text, End.
-/
import Derived.Test.YtpahajnojfhgdaaWireG
namespace Go.Proofs.Ytpahajnojfhgdaa
open Go.RowKit

namespace Wire
/-- The bound that bounds nothing. -/
def top : Nat := 18446744073709551615

theorem step_max_bad {s : ByteArray} {f : Nat} (h : (step (wU 18446744073709551615) s f).2.2 ≠ 0) (wrong : Nat → Nat → Nat) : step wrong s f = (0, s, (step (wU 18446744073709551615) s f).2.2) := by
  have hb := (Num.rd_bound s.data.toList).2.2.1
  by_cases hf : f = 0
  · subst hf
    generalize hR : Num.rd s.data.toList = R at hb
    obtain ⟨v, q, g⟩ := R
    simp only [] at hb
    by_cases hg : g = 0
    · subst hg
      rw [step_ok hR (wU_no (by omega))] at h
      exact absurd rfl h
    · rw [step_bad hR hg, step_bad hR hg]
  · rw [step_fault hf, step_fault hf]

theorem step_max_ok {s : ByteArray} {f : Nat} (h : (step (wU 18446744073709551615) s f).2.2 = 0) (wrong : Nat → Nat → Nat) :
    step wrong s f = if wrong (step (wU 18446744073709551615) s f).1 (step (wU 18446744073709551615) s f).2.1.size = 0 then ((step (wU 18446744073709551615) s f).1, (step (wU 18446744073709551615) s f).2.1, 0)
      else (0, s, wrong (step (wU 18446744073709551615) s f).1 (step (wU 18446744073709551615) s f).2.1.size) := by
  have hb := (Num.rd_bound s.data.toList).2.2.1
  by_cases hf : f = 0
  · subst hf
    generalize hR : Num.rd s.data.toList = R at hb
    obtain ⟨v, q, g⟩ := R
    simp only [] at hb
    by_cases hg : g = 0
    · subst hg
      rw [step_ok hR (wU_no (by omega))]
      simp only []
      have e : (s.extract q s.size).size = s.size - q := by rw [ByteArray.size_extract]; omega
      rw [e]
      split
      · rename_i hw
        exact step_ok hR hw
      · rename_i hw
        exact step_wrong hR rfl hw
    · rw [step_bad hR hg] at h
      exact absurd h hg
  · rw [step_fault hf] at h
    exact absurd h hf

/-- Both sayings of a number taken, and held then. -/
theorem step_two (wrong : Nat → Nat → Nat) (s : ByteArray) (f v : Nat) (t : ByteArray) (g : Nat) (h : step (wU 18446744073709551615) s f = (v, t, g)) :
    (g ≠ 0 → v = 0 ∧ t = s ∧ step wrong s f = (0, s, g)) ∧ (g = 0 → (wrong v t.size = 0 → step wrong s f = (v, t, 0)) ∧ (wrong v t.size ≠ 0 → step wrong s f = (0, s, wrong v t.size))) := by
  constructor
  · intro hg
    have hg' : (step (wU 18446744073709551615) s f).2.2 ≠ 0 := by rw [h]; exact hg
    have e := step_max_bad hg' (wU 18446744073709551615)
    rw [h] at e
    have e2 := step_max_bad hg' wrong
    rw [h] at e2
    injection e with e3 e4
    injection e4 with e5 e6
    exact ⟨e3, e5, e2⟩
  · intro hg
    have hg' : (step (wU 18446744073709551615) s f).2.2 = 0 := by rw [h]; exact hg
    have e := step_max_ok hg' wrong
    rw [h] at e
    simp only [] at e
    exact ⟨fun hw => by rw [e, if_pos hw], fun hw => by rw [e, if_neg hw]⟩
end Wire

set_option maxRecDepth 20000 in
set_option maxHeartbeats 2000000 in
theorem frTag_any (xs : List Nat) (A : Option Addr) (c : Nat) (B : Nat) (s : ByteArray) (f : Nat) (w : World) (hl : Lies w w.heap.size A (u64s xs)) (hn : xs.length ≤ maxLen) (hne : 0 < xs.length → ∀ ad, A = some ad → ad.block ≠ B) (h : Wire.RR B s f w) (hs : s.size ≤ maxLen) :
    Calls Try.prog 29 #[.pointer (some ⟨B, 0, none⟩), .slice A xs.length c] w
      fun e w' => e = .returned (.int .u64 ((Wire.step (Wire.wT xs) s f).1 : Int)) ∧ Wire.Post B (Wire.step (Wire.wT xs) s f).2.1 (Wire.step (Wire.wT xs) s f).2.2 w w' := by
  unfold maxLen at hn
  have c0 := h.c0
  have HC := frUint_any 18446744073709551615 B s f w h hs
  have hlt := h.lt
  have hv := Wire.step_lt (wrong := Wire.wU 18446744073709551615) s f
  generalize hst : Wire.step (Wire.wU 18446744073709551615) s f = st at HC hv
  obtain ⟨v, t, g⟩ := st
  simp only [] at HC hv
  have HCC := Lib.hid HC
  have HT := Lib.hid (Wire.step_two (Wire.wT xs) s f v t g hst)
  have HL := Lib.hid hl
  have HV := Lib.hid hv
  have HNE := Lib.hid hne
  clear HC hst hl h hv hne
  by_cases hg : g = 0
  · subst hg
    have HT2 := Lib.hid (HT.out.2 rfl)
    clear HT
    go_enter Try.func29, Try.ntmps29
    go_wp2_with fail
    refine HCC.out.mono ?_
    rintro e w1 ⟨rfl, hP⟩
    have HP := Lib.hid hP
    have d1 := hP.1.c1
    have hl1 : Lies w1 w.heap.size A (u64s xs) := fun h0 => by
      obtain ⟨ad, e, hb, hc⟩ := HL.out h0
      exact ⟨ad, e, hb, fun j u hu => (World.cell?_of_block (hP.2.block _ (by rw [Lies.add_block]; exact hb) (by rw [Lies.add_block]; intro h; injection h with h; exact HNE.out (by simpa [u64s] using h0) ad e h))).trans (hc j u hu)⟩
    have HL1 := Lib.hid hl1
    clear hP hl1
    go_wp2_with fail
    go_loop [7] (fun i => ∃ k : Nat, k ≤ xs.length ∧ i = .int .i64 k ∧ ∀ j, j < k → xs[j]? ≠ some v) (fun i => xs.length - (intOf i).toNat)
    case atStart => exact ⟨0, Nat.zero_le _, rfl, fun j hj => by omega⟩
    case round =>
      obtain ⟨k, hk, rfl, hno⟩ := hrel
      have HN := Lib.hid hno
      clear hno
      by_cases hlt : k < xs.length
      · obtain ⟨ad, rfl, _, hc⟩ := HL1.out.at_ (u64s_at hlt)
        by_cases he : xs[k] = v
        · have hbq : ((xs[k] : Int) == (v : Int)) = true := by rw [beq_iff_eq]; omega
          have HM : Hid (Wire.step (Wire.wT xs) s f = (v, t, 0)) := HT2.out.1 (Wire.wT_yes (isOf_yes (by rw [← he]; exact List.getElem_mem hlt)))
          clear he
          go_wp2_with fail
          go_ret
          rw [HM.out]
          exact ⟨rfl, HP.out⟩
        · have hbq : ((xs[k] : Int) == (v : Int)) = false := by rw [beq_eq_false_iff_ne]; omega
          have HE : Hid (¬ xs[k]? = some v) := by
            show ¬ _
            rw [List.getElem?_eq_getElem hlt]
            intro h
            exact he (Option.some.inj h)
          clear he
          go_wp2_with fail
          go_round
          case rel =>
            refine ⟨k + 1, by omega, by go_num, fun j hj => ?_⟩
            by_cases e : j = k
            · rw [e]; exact HE.out
            · exact HN.out j (by omega)
          case measure => simp [intOf]; omega
      · have HM : Hid (Wire.step (Wire.wT xs) s f = (0, s, 8)) := by
          have hm : v ∉ xs := fun hm => by
            obtain ⟨j, hj, e⟩ := List.getElem_of_mem hm
            exact HN.out j (by omega) (by rw [List.getElem?_eq_getElem hj, e])
          have hw : Wire.wT xs v t.size = 8 := Wire.wT_no (isOf_no hm)
          have := HT2.out.2 (by rw [hw]; decide)
          rw [hw] at this
          exact this
        have e0 := HP.out.1.f 0
        have e1 := HP.out.1.f 1
        have d0 := HP.out.1.c0
        go_wp2_with fail
        go_ret
        rw [HM.out]
        exact ⟨rfl, (HP.out.put0 s).put1 8⟩
  · obtain ⟨hv0, ht, HM⟩ := HT.out.1 hg
    subst hv0; subst ht
    have HMM := Lib.hid HM
    have hfb : ((g : Int) != 0) = true := by simpa using (by omega : ¬ (g : Int) = 0)
    clear hg HM
    go_enter Try.func29, Try.ntmps29
    go_wp2_with fail
    refine HCC.out.mono ?_
    rintro e w1 ⟨rfl, hP⟩
    have HP := Lib.hid hP
    have d1 := hP.1.c1
    clear hP
    go_wp2_with fail
    go_ret
    rw [HMM.out]
    exact ⟨rfl, HP.out⟩

set_option maxRecDepth 20000 in
set_option maxHeartbeats 1000000 in
theorem frBool_any (B : Nat) (s : ByteArray) (f : Nat) (w : World) (h : Wire.RR B s f w) (hs : s.size ≤ maxLen) :
    Calls Try.prog 25 #[.pointer (some ⟨B, 0, none⟩)] w
      fun e w' => e = .returned (.bool (((Wire.step (Wire.wT [0, 1]) s f).1 : Int) == 1)) ∧ Wire.Post B (Wire.step (Wire.wT [0, 1]) s f).2.1 (Wire.step (Wire.wT [0, 1]) s f).2.2 w w' := by
  have H := Lib.hid h
  have hlt := h.lt
  clear h
  generalize hst : Wire.step (Wire.wT [0, 1]) s f = st
  have HST := Lib.hid hst
  clear hst
  obtain ⟨n, t, g⟩ := st
  go_enter Try.func25, Try.ntmps25
  go_wp2_with fail
  refine (frTag_any [0, 1] _ _ B s f _ (lies_new _ _ _ _ rfl) (by decide) (by intro _ ad e; injection e with e; subst e; show w.heap.size ≠ B; omega) (H.out.alloc _) hs).mono ?_
  rw [HST.out]
  rintro e w' ⟨rfl, hA⟩
  have HA := Lib.hid hA
  clear hA
  go_wp2_with fail
  go_ret
  exact ⟨rfl, HA.out.1, Wire.grown_trans (World.grownBy_alloc _ _ _) HA.out.2⟩

set_option maxRecDepth 20000 in
set_option maxHeartbeats 2000000 in
theorem frCount_any (m : Int) (m0 : -9223372036854775808 ≤ m) (m1 : m ≤ 9223372036854775807) (B : Nat) (s : ByteArray) (f : Nat) (w : World) (h : Wire.RR B s f w) (hs : s.size ≤ maxLen) :
    Calls Try.prog 27 #[.pointer (some ⟨B, 0, none⟩), .int .i64 m] w
      fun e w' => e = .returned (.int .i64 ((Wire.step (Wire.wC m) s f).1 : Int)) ∧ Wire.Post B (Wire.step (Wire.wC m) s f).2.1 (Wire.step (Wire.wC m) s f).2.2 w w' := by
  have hm : (s.size : Int) ≤ 9223372036854775807 := by unfold maxLen at hs; omega
  have c0 := h.c0
  have HC := frUint_any 18446744073709551615 B s f w h hs
  have hsz := Wire.step_size (wrong := Wire.wU 18446744073709551615) s f
  generalize hst : Wire.step (Wire.wU 18446744073709551615) s f = st at HC hsz
  obtain ⟨v, t, g⟩ := st
  simp only [] at HC hsz
  have HCC := Lib.hid HC
  have HT := Lib.hid (Wire.step_two (Wire.wC m) s f v t g hst)
  have htm : (t.size : Int) ≤ 9223372036854775807 := by omega
  clear HC hst h
  by_cases hg : g = 0
  · subst hg
    by_cases h1 : m < 0
    · have hd1 : decide (m < 0) = true := by simpa using h1
      have HM : Hid (Wire.step (Wire.wC m) s f = (0, s, 4)) := by
        have hw : Wire.wC m v t.size = 4 := Wire.wC_long (.inl h1)
        have := (HT.out.2 rfl).2 (by rw [hw]; decide)
        rw [hw] at this
        exact this
      go_enter Try.func27, Try.ntmps27
      go_wp2_with fail
      refine HCC.out.mono ?_
      rintro e w1 ⟨rfl, hP⟩
      have HP := Lib.hid hP
      have d0 := hP.1.c0
      have d1 := hP.1.c1
      have e0 := hP.1.f 0
      have e1 := hP.1.f 1
      clear hP
      go_wp2_with fail
      go_ret
      rw [HM.out]
      exact ⟨rfl, (HP.out.put0 s).put1 4⟩
    · obtain ⟨k, rfl⟩ := Int.eq_ofNat_of_zero_le (by omega : 0 ≤ m)
      have hd1 : decide ((k : Int) < 0) = false := by simp
      by_cases h2 : k < v
      · have hd2 : decide (k < v) = true := by simpa using h2
        have HM : Hid (Wire.step (Wire.wC (k : Int)) s f = (0, s, 4)) := by
          have hw : Wire.wC (k : Int) v t.size = 4 := Wire.wC_long (.inr (by omega))
          have := (HT.out.2 rfl).2 (by rw [hw]; decide)
          rw [hw] at this
          exact this
        go_enter Try.func27, Try.ntmps27
        go_wp2_with fail
        refine HCC.out.mono ?_
        rintro e w1 ⟨rfl, hP⟩
        have HP := Lib.hid hP
        have d0 := hP.1.c0
        have d1 := hP.1.c1
        have e0 := hP.1.f 0
        have e1 := hP.1.f 1
        clear hP
        go_wp2_with fail
        go_ret
        rw [HM.out]
        exact ⟨rfl, (HP.out.put0 s).put1 4⟩
      · have hd2 : decide (k < v) = false := by simpa using h2
        by_cases h3 : t.size < v
        · have hd3 : decide (t.size < v) = true := by simpa using h3
          have HM : Hid (Wire.step (Wire.wC (k : Int)) s f = (0, s, 10)) := by
            have hw : Wire.wC (k : Int) v t.size = 10 := Wire.wC_short (by omega) h3
            have := (HT.out.2 rfl).2 (by rw [hw]; decide)
            rw [hw] at this
            exact this
          go_enter Try.func27, Try.ntmps27
          go_wp2_with fail
          refine HCC.out.mono ?_
          rintro e w1 ⟨rfl, hP⟩
          have HP := Lib.hid hP
          have d0 := hP.1.c0
          have d1 := hP.1.c1
          have e0 := hP.1.f 0
          have e1 := hP.1.f 1
          clear hP
          go_wp2_with fail
          go_ret
          rw [HM.out]
          exact ⟨rfl, (HP.out.put0 s).put1 10⟩
        · have hd3 : decide (t.size < v) = false := by simpa using h3
          have HM : Hid (Wire.step (Wire.wC (k : Int)) s f = (v, t, 0)) := (HT.out.2 rfl).1 (Wire.wC_ok (by omega) h3)
          have hvm : (v : Int) ≤ 9223372036854775807 := by omega
          go_enter Try.func27, Try.ntmps27
          go_wp2_with fail
          refine HCC.out.mono ?_
          rintro e w1 ⟨rfl, hP⟩
          have HP := Lib.hid hP
          have d0 := hP.1.c0
          have d1 := hP.1.c1
          clear hP
          go_wp2_with fail
          go_ret
          rw [HM.out]
          exact ⟨rfl, HP.out⟩
  · obtain ⟨hv0, ht, HM⟩ := HT.out.1 hg
    subst hv0; subst ht
    have HMM := Lib.hid HM
    have hfb : ((g : Int) != 0) = true := by simpa using (by omega : ¬ (g : Int) = 0)
    clear hg HM
    go_enter Try.func27, Try.ntmps27
    go_wp2_with fail
    refine HCC.out.mono ?_
    rintro e w1 ⟨rfl, hP⟩
    have HP := Lib.hid hP
    have d1 := hP.1.c1
    clear hP
    go_wp2_with fail
    go_ret
    rw [HMM.out]
    exact ⟨rfl, HP.out⟩

set_option maxRecDepth 20000 in
set_option maxHeartbeats 1000000 in
theorem frText_any (m : Int) (m0 : -9223372036854775808 ≤ m) (m1 : m ≤ 9223372036854775807) (B : Nat) (s : ByteArray) (f : Nat) (w : World) (h : Wire.RR B s f w) (hs : s.size ≤ maxLen) :
    Calls Try.prog 23 #[.pointer (some ⟨B, 0, none⟩), .int .i64 m] w
      fun e w' => e = .returned (.string (Wire.text m s f).1) ∧ Wire.Post B (Wire.text m s f).2.1 (Wire.text m s f).2.2 w w' := by
  obtain ⟨hc1, hc2, hc3⟩ := Wire.count_le m s f
  have hsz := Wire.step_size (wrong := Wire.wC m) s f
  have H := Lib.hid h
  unfold Wire.text
  have HC := frCount_any m m0 m1 B s f w h hs
  clear h
  generalize Wire.step (Wire.wC m) s f = st at HC hc1 hc2 hc3 hsz ⊢
  obtain ⟨n, t, g⟩ := st
  simp only [] at HC hc1 hc2 hc3 hsz ⊢
  have HCC := Lib.hid HC
  have hnt : n ≤ t.size := hc2
  clear HC hc3 hc1 hc2
  unfold maxLen at hs
  go_enter Try.func23, Try.ntmps23
  go_wp2_with fail
  refine HCC.out.mono ?_
  rintro e w1 ⟨rfl, hP⟩
  have HP := Lib.hid hP
  have d0 := hP.1.c0
  have e0 := hP.1.f 0
  clear hP
  go_wp2_with fail
  go_ret
  exact ⟨rfl, HP.out.put0 _⟩

set_option maxRecDepth 20000 in
set_option maxHeartbeats 1000000 in
theorem frEnd_any (B : Nat) (s : ByteArray) (f : Nat) (w : World) (h : Wire.RR B s f w) :
    Calls Try.prog 31 #[.pointer (some ⟨B, 0, none⟩)] w
      fun e w' => e = .returned (.int .i64 (Wire.fin s f : Int)) ∧ Wire.Post B s (Wire.fin s f) w w' := by
  have c0 := h.c0
  have c1 := h.c1
  have e1 := h.f 1
  have H := Lib.hid h
  clear h
  by_cases hf : f = 0
  · subst hf
    by_cases h0 : s.size = 0
    · have HF : Hid (Wire.fin s 0 = 0) := by show _ = _; unfold Wire.fin; rw [if_neg (by simp), if_pos h0]
      have hs0 : s = ⟨#[]⟩ := by
        apply ByteArray.ext
        exact Array.eq_empty_of_size_eq_zero h0
      subst hs0
      go_enter Try.func31, Try.ntmps31
      go_wp2_with fail
      go_ret
      rw [HF.out]
      exact ⟨rfl, Wire.Post.same H.out⟩
    · have HF : Hid (Wire.fin s 0 = 8) := by show _ = _; unfold Wire.fin; rw [if_neg (by simp), if_neg h0]
      have hne : ¬ s.toList = [] := by
        intro h
        apply h0
        rw [Lib.toList_data] at h
        have := congrArg List.length h
        simpa using this
      have hne2 : (!s.toList.isEmpty) = true := by simpa using hne
      clear h0
      go_enter Try.func31, Try.ntmps31
      go_wp2_with fail
      go_ret
      rw [HF.out]
      exact ⟨rfl, (Wire.Post.same H.out).put1 8⟩
  · have HF : Hid (Wire.fin s f = f) := by show _ = _; unfold Wire.fin; rw [if_pos hf]
    have hfe : ((f : Int) == 0) = false := by simpa using (by omega : ¬ (f : Int) = 0)
    clear hf
    go_enter Try.func31, Try.ntmps31
    go_wp2_with fail
    go_ret
    rw [HF.out]
    exact ⟨rfl, Wire.Post.same H.out⟩
end Go.Proofs.Ytpahajnojfhgdaa
