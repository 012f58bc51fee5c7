/-
  The document's Kid, Under, Compare, Common (layer 12).
-/
import Derived.Test.YtkhpbjjmekmaeaaBrR
namespace Go.Proofs.Ytkhpbjjmekmaeaa
open Go.RowKit

set_option maxHeartbeats 800000 in
theorem rKid12 (s : ByteArray) (n : Int) (w : World) (hs : s.size ≤ 1000000) (hn : -9223372036854775808 ≤ n ∧ n ≤ 9223372036854775807) : Calls Try.prog 11 #[.string s, .int .i64 n] w fun e w' => e = .returned (.tuple #[.string (Br.kidT s n), .bool (Br.kidOk s n)]) ∧ Below w.heap.size w w' := by
  have HM := rMay12 s w hs
  have hno : Br.kidOk s n = false → Br.kidT s n = ⟨#[]⟩ := fun e => by unfold Br.kidT; rw [e]; rfl
  cases hm : Br.may s with
  | false =>
    have e1 : Br.kidOk s n = false := by unfold Br.kidOk; rw [hm]; rfl
    rw [hno e1, e1]
    rw [hm] at HM
    have HM := Lib.hid HM
    clear hm e1 hno
    go_enter Try.func11, Try.ntmps11
    go_wp2_with fail
    refine HM.out.mono ?_
    rintro e w1 ⟨rfl, rfl⟩
    go_wp2_with fail
    refine bodyPost_ret (results_tmp2 rfl _ _ _) rfl ?_
    exact ⟨rfl, Below.refl _ _⟩
  | true =>
    have h12 := Br.may_size hm
    by_cases h1 : n < 1
    · have e1 : Br.kidOk s n = false := by unfold Br.kidOk Br.kidN; rw [decide_eq_false (p := 1 ≤ n) (by omega)]; simp
      have d1 : decide (n < 1) = true := decide_eq_true h1
      rw [hno e1, e1]
      rw [hm] at HM
      have HM := Lib.hid HM
      clear hm e1 hno h1
      go_enter Try.func11, Try.ntmps11
      go_wp2_with fail
      refine HM.out.mono ?_
      rintro e w1 ⟨rfl, rfl⟩
      go_wp2_with fail
      refine bodyPost_ret (results_tmp2 rfl _ _ _) rfl ?_
      exact ⟨rfl, Below.refl _ _⟩
    · have d1 : decide (n < 1) = false := decide_eq_false h1
      by_cases h2 : 16 < n
      · have e1 : Br.kidOk s n = false := by unfold Br.kidOk Br.kidN; rw [decide_eq_false (p := n ≤ 16) (by omega)]; simp
        have d2 : decide (16 < n) = true := decide_eq_true h2
        rw [hno e1, e1]
        rw [hm] at HM
        have HM := Lib.hid HM
        clear hm e1 hno h1 h2
        go_enter Try.func11, Try.ntmps11
        go_wp2_with fail
        refine HM.out.mono ?_
        rintro e w1 ⟨rfl, rfl⟩
        go_wp2_with fail
        refine bodyPost_ret (results_tmp2 rfl _ _ _) rfl ?_
        exact ⟨rfl, Below.refl _ _⟩
      · have d2 : decide (16 < n) = false := decide_eq_false h2
        have hk : Br.kidN n = true := by unfold Br.kidN; rw [decide_eq_true (by omega), decide_eq_true (by omega)]; rfl
        by_cases h3 : s.size = 12
        · have e1 : Br.kidOk s n = false := by unfold Br.kidOk; rw [hm, hk, decide_eq_true h3]; rfl
          have d3 : decide ((12 : Int) ≤ (s.size : Int)) = true := decide_eq_true (by omega)
          rw [hno e1, e1]
          rw [hm] at HM
          have HM := Lib.hid HM
          clear hm e1 hno h1 h2 h3 hk h12
          go_enter Try.func11, Try.ntmps11
          go_wp2_with fail
          refine HM.out.mono ?_
          rintro e w1 ⟨rfl, rfl⟩
          go_wp2_with fail
          refine bodyPost_ret (results_tmp2 rfl _ _ _) rfl ?_
          exact ⟨rfl, Below.refl _ _⟩
        · have e1 : Br.kidOk s n = true := by unfold Br.kidOk; rw [hm, hk, decide_eq_false h3]; rfl
          have e2 : Br.kidT s n = s ++ ⟨#[UInt8.ofNat n.toNat]⟩ := by unfold Br.kidT; rw [e1]; rfl
          have d3 : decide ((12 : Int) ≤ (s.size : Int)) = false := decide_eq_false (by omega)
          rw [e1]
          obtain ⟨b, hb⟩ : ∃ b : UInt8, b = UInt8.ofNat n.toNat := ⟨_, rfl⟩
          rw [← hb] at e2
          have HE := Lib.hid e2
          have hcv := Br.conv1 w n b (by rw [hb]; exact Br.byte_of (by omega))
          have hsz : s.size + 1 ≤ maxLen := by unfold maxLen; omega
          rw [hm] at HM
          have HM := Lib.hid HM
          clear hm e1 e2 hk h12 hb hno h1 h2 h3
          go_enter Try.func11, Try.ntmps11
          go_wp2_with fail
          refine HM.out.mono ?_
          rintro e w1 ⟨rfl, rfl⟩
          go_wp2_with fail
          refine bodyPost_ret (results_tmp2 rfl _ _ _) rfl ?_
          exact ⟨by rw [HE.out]; rfl, (Below.refl _ _).alloc (Nat.le_refl _) _⟩
theorem Br.may_pre {s p : ByteArray} (h : Br.pre p.data.toList s.data.toList = true) (hs : Br.may s = true) : Br.may p = true := by
  obtain ⟨c, h⟩ := Br.pre_iff.1 h
  unfold Br.may at hs ⊢
  rw [h] at hs
  exact Br.mayL_pre hs
theorem rUnder12 (s r : ByteArray) (w : World) (hs : s.size ≤ 1000000) (hr : r.size ≤ 1000000) : Calls Try.prog 17 #[.string s, .string r] w fun e w' => e = .returned (.bool (Br.under s r)) ∧ w = w' := by
  have HM := rMay12 s w hs
  have HR := rMay12 r w hr
  unfold Br.under
  cases hm : Br.may s with
  | false =>
    rw [hm] at HM
    have HM := Lib.hid HM
    clear hm HR
    go_enter Try.func17, Try.ntmps17
    go_wp2_with fail
    refine HM.out.mono ?_
    rintro e w1 ⟨rfl, rfl⟩
    go_wp2_with fail
    go_ret
    exact ⟨rfl, rfl⟩
  | true =>
    rw [hm] at HM
    have HM := Lib.hid HM
    cases hn : Br.may r with
    | false =>
      have e : Br.pre r.data.toList s.data.toList = false := by
        rw [← Bool.not_eq_true]
        intro h
        rw [Br.may_pre h hm] at hn
        cases hn
      rw [e]
      rw [hn] at HR
      have HR := Lib.hid HR
      clear hm hn e
      go_enter Try.func17, Try.ntmps17
      go_wp2_with fail
      refine HM.out.mono ?_
      rintro e w1 ⟨rfl, rfl⟩
      go_wp2_with fail
      refine HR.out.mono ?_
      rintro e w1 ⟨rfl, rfl⟩
      go_wp2_with fail
      go_ret
      exact ⟨rfl, rfl⟩
    | true =>
      rw [hn] at HR
      have HR := Lib.hid HR
      clear hm hn
      by_cases h : r.size ≤ s.size
      · have d1 : decide (r.size ≤ s.size) = true := decide_eq_true (by omega)
        have n1 : (r.size : Int) ≤ (s.size : Int) := by omega
        have e := Br.pre_take h
        cases hc : Br.pre r.data.toList s.data.toList with
        | true =>
          rw [hc] at e
          clear hc h
          go_enter Try.func17, Try.ntmps17
          go_wp2_with fail
          refine HM.out.mono ?_
          rintro e w1 ⟨rfl, rfl⟩
          go_wp2_with fail
          refine HR.out.mono ?_
          rintro e w1 ⟨rfl, rfl⟩
          go_wp2_with fail
          go_ret
          exact ⟨by first | rfl | (simp only [e]; rfl), rfl⟩
        | false =>
          rw [hc] at e
          clear hc h
          go_enter Try.func17, Try.ntmps17
          go_wp2_with fail
          refine HM.out.mono ?_
          rintro e w1 ⟨rfl, rfl⟩
          go_wp2_with fail
          refine HR.out.mono ?_
          rintro e w1 ⟨rfl, rfl⟩
          go_wp2_with fail
          go_ret
          exact ⟨by first | rfl | (simp only [e]; rfl), rfl⟩
      · have d1 : decide (r.size ≤ s.size) = false := decide_eq_false (by omega)
        have e : Br.pre r.data.toList s.data.toList = false := by
          rw [← Bool.not_eq_true]
          exact fun h2 => h (Br.pre_size h2)
        rw [e]
        clear h e
        go_enter Try.func17, Try.ntmps17
        go_wp2_with fail
        refine HM.out.mono ?_
        rintro e w1 ⟨rfl, rfl⟩
        go_wp2_with fail
        refine HR.out.mono ?_
        rintro e w1 ⟨rfl, rfl⟩
        go_wp2_with fail
        go_ret
        exact ⟨rfl, rfl⟩

namespace Br
/-- Behind n bytes that are alike. -/
theorem cmp_more {a b : List UInt8} {n : Nat} (ha : n < a.length) (hb : n < b.length) (h : n ≤ lcp a b) :
    (a[n] < b[n] → Lib.compareBytes a b = -1) ∧ (b[n] < a[n] → Lib.compareBytes a b = 1) := by
  induction a generalizing b n with
  | nil => simp at ha
  | cons x a ih =>
    cases b with
    | nil => simp at hb
    | cons y b =>
      cases n with
      | zero =>
        simp only [List.getElem_cons_zero]
        unfold Lib.compareBytes
        constructor
        · intro h1
          rw [if_pos h1]
        · intro h1
          rw [if_neg (fun h2 => absurd (UInt8.lt_trans h1 h2) (by simp)), if_pos h1]
      | succ n =>
        simp only [List.getElem_cons_succ]
        unfold lcp at h
        split at h
        · rename_i hxy
          subst hxy
          unfold Lib.compareBytes
          rw [if_neg (by simp), if_neg (by simp)]
          exact ih (by simpa using ha) (by simpa using hb) (by omega)
        · omega
theorem cmp_end {a b : List UInt8} (h : a.length ≤ lcp a b ∨ b.length ≤ lcp a b) : (a.length < b.length → Lib.compareBytes a b = -1) ∧ (b.length < a.length → Lib.compareBytes a b = 1) ∧ (a.length = b.length → Lib.compareBytes a b = 0) := by
  induction a generalizing b with
  | nil =>
    cases b with
    | nil => simp [Lib.compareBytes]
    | cons y b => simp [Lib.compareBytes]
  | cons x a ih =>
    cases b with
    | nil => simp [Lib.compareBytes]
    | cons y b =>
      unfold lcp at h
      split at h
      · rename_i hxy
        subst hxy
        unfold Lib.compareBytes
        rw [if_neg (by simp), if_neg (by simp)]
        have := ih (b := b) (by simp only [List.length_cons] at h; omega)
        simpa using this
      · simp at h
end Br

set_option maxHeartbeats 800000 in
theorem rCompare12 (a b : ByteArray) (w : World) (ha : a.size ≤ 1000000) (_hb : b.size ≤ 1000000) : Calls Try.prog 19 #[.string a, .string b] w fun e w' => e = .returned (.int .i64 (Br.cmpR a b)) ∧ ∃ q, w' = w.drewN q := by
  go_enter Try.func19, Try.ntmps19
  go_wp2_with fail
  go_loopw [5] (fun i wr => ∃ k : Nat, i = .int .i64 k ∧ Hid (k ≤ a.size ∧ k ≤ b.size ∧ k ≤ Br.both a b) ∧ ∃ q, wr = w.drewN q) (fun i _ => a.size - (intOf i).toNat)
  case atStart => exact ⟨0, rfl, ⟨Nat.zero_le _, Nat.zero_le _, Nat.zero_le _⟩, 0, rfl⟩
  case round =>
    obtain ⟨k, rfl, HK, q0, rfl⟩ := hrel
    obtain ⟨hka, hkb, hkl⟩ := HK.out
    have k0 : (0 : Int) ≤ (k : Int) := by omega
    by_cases hl1 : k < a.size
    · have k1 : (k : Int) < (a.size : Int) := by omega
      have b1 : decide (k < a.size) = true := decide_eq_true (by omega)
      by_cases hl2 : k < b.size
      · have k2 : (k : Int) < (b.size : Int) := by omega
        have b2 : decide (k < b.size) = true := decide_eq_true (by omega)
        have hmore := Br.lcp_more (a := a.data.toList) (b := b.data.toList) (n := k) (by simpa using hl1) (by simpa using hl2) hkl
        have hcm := Br.cmp_more (a := a.data.toList) (b := b.data.toList) (n := k) (by simpa using hl1) (by simpa using hl2) hkl
        rw [Br.byte_at a k hl1, Br.byte_at b k hl2] at hmore hcm
        have HM := Lib.hid (And.intro hmore hcm)
        clear hmore hcm hka hkb hkl
        by_cases h1 : a[k].toNat < b[k].toNat
        · have d1 : decide (a[k].toNat < b[k].toNat) = true := decide_eq_true (by omega)
          have HN : Hid (Br.cmpR a b = -1) := HM.out.2.1 (UInt8.lt_iff_toNat_lt.2 h1)
          clear h1
          go_wp2_with fail
          go_quiet (fail)
          go_wp2_with fail
          go_ret
          exact ⟨by rw [HN.out]; rfl, by first | exact ⟨_, rfl⟩ | (simp only [World.drewN_drewN]; exact ⟨_, rfl⟩)⟩
        · have d1 : decide (a[k].toNat < b[k].toNat) = false := decide_eq_false (by omega)
          by_cases h2 : b[k].toNat < a[k].toNat
          · have d2 : decide (b[k].toNat < a[k].toNat) = true := decide_eq_true (by omega)
            have HN : Hid (Br.cmpR a b = 1) := HM.out.2.2 (UInt8.lt_iff_toNat_lt.2 h2)
            clear h1 h2
            go_wp2_with fail
            go_quiet (fail)
            go_wp2_with fail
            go_quiet (fail)
            go_wp2_with fail
            go_ret
            exact ⟨by rw [HN.out]; rfl, by first | exact ⟨_, rfl⟩ | (simp only [World.drewN_drewN]; exact ⟨_, rfl⟩)⟩
          · have d2 : decide (b[k].toNat < a[k].toNat) = false := decide_eq_false (by omega)
            have HN : Hid (k + 1 ≤ a.size ∧ k + 1 ≤ b.size ∧ k + 1 ≤ Br.both a b) := ⟨by omega, by omega, HM.out.1.1 (UInt8.toNat_inj.1 (by omega))⟩
            clear h1 h2
            go_wp2_with fail
            go_quiet (fail)
            go_wp2_with fail
            go_quiet (fail)
            go_wp2_with fail
            go_roundw
            case rel => exact ⟨k + 1, by go_num, HN.out, by first | exact ⟨_, rfl⟩ | (simp only [World.drewN_drewN]; exact ⟨_, rfl⟩)⟩
            case measure => simp [intOf]; omega
      · have b2 : decide (k < b.size) = false := decide_eq_false (by omega)
        have hend := Br.cmp_end (a := a.data.toList) (b := b.data.toList) (.inr (by rw [Br.len_list]; exact Nat.le_trans (by omega) hkl))
        rw [Br.len_list, Br.len_list] at hend
        have c1 : decide (a.size < b.size) = false := decide_eq_false (by omega)
        have c2 : decide (b.size < a.size) = true := decide_eq_true (by omega)
        have HN : Hid (Br.cmpR a b = 1) := hend.2.1 (by omega)
        clear hend hka hkb hkl hl2
        go_wp2_with fail
        go_ret
        exact ⟨by rw [HN.out]; rfl, _, rfl⟩
    · have b1 : decide (k < a.size) = false := decide_eq_false (by omega)
      have hend := Br.cmp_end (a := a.data.toList) (b := b.data.toList) (.inl (by rw [Br.len_list]; exact Nat.le_trans (by omega) hkl))
      rw [Br.len_list, Br.len_list] at hend
      by_cases h2 : a.size = b.size
      · have c1 : decide (a.size < b.size) = false := decide_eq_false (by omega)
        have c2 : decide (b.size < a.size) = false := decide_eq_false (by omega)
        have HN : Hid (Br.cmpR a b = 0) := hend.2.2 (by omega)
        clear hend hka hkb hkl hl1 h2
        go_wp2_with fail
        go_ret
        exact ⟨by rw [HN.out]; rfl, _, rfl⟩
      · have c1 : decide (a.size < b.size) = true := decide_eq_true (by omega)
        have HN : Hid (Br.cmpR a b = -1) := hend.1 (by omega)
        clear hend hka hkb hkl hl1 h2
        go_wp2_with fail
        go_ret
        exact ⟨by rw [HN.out]; rfl, _, rfl⟩

set_option maxHeartbeats 800000 in
theorem rCommon12 (a b : ByteArray) (w : World) (ha : a.size ≤ 1000000) (hb : b.size ≤ 1000000) : Calls Try.prog 21 #[.string a, .string b] w fun e w' => e = .returned (.string (Br.common a b)) ∧ Below w.heap.size w w' := by
  have HA := rMay12 a w ha
  have HBm := rMay12 b w hb
  cases h1 : Br.may a with
  | false =>
    have e : Br.common a b = ⟨#[]⟩ := by unfold Br.common; rw [h1]; rfl
    rw [e]
    rw [h1] at HA
    have HA := Lib.hid HA
    clear h1 e HBm
    go_enter Try.func21, Try.ntmps21
    go_wp2_with fail
    refine HA.out.mono ?_
    rintro e w1 ⟨rfl, rfl⟩
    go_wp2_with fail
    go_ret
    exact ⟨rfl, Below.refl _ _⟩
  | true =>
    rw [h1] at HA
    have HA := Lib.hid HA
    cases h2 : Br.may b with
    | false =>
      have e : Br.common a b = ⟨#[]⟩ := by unfold Br.common; rw [h2]; simp
      rw [e]
      rw [h2] at HBm
      have HBm := Lib.hid HBm
      clear h1 h2 e
      go_enter Try.func21, Try.ntmps21
      go_wp2_with fail
      refine HA.out.mono ?_
      rintro e w1 ⟨rfl, rfl⟩
      go_wp2_with fail
      refine HBm.out.mono ?_
      rintro e w1 ⟨rfl, rfl⟩
      go_wp2_with fail
      go_ret
      exact ⟨rfl, Below.refl _ _⟩
    | true =>
      have e : Br.common a b = a.extract 0 (Br.both a b) := by unfold Br.common; rw [h1, h2]; rfl
      have HE := Lib.hid e
      rw [h2] at HBm
      have HBm := Lib.hid HBm
      clear h1 h2 e
      go_enter Try.func21, Try.ntmps21
      go_wp2_with fail
      refine HA.out.mono ?_
      rintro e w1 ⟨rfl, rfl⟩
      go_wp2_with fail
      refine HBm.out.mono ?_
      rintro e w1 ⟨rfl, rfl⟩
      go_wp2_with fail
      clear HA HBm
      go_loopw [5] (fun i wr => ∃ k : Nat, i = .int .i64 k ∧ Hid (k ≤ a.size ∧ k ≤ b.size ∧ k ≤ Br.both a b) ∧ Hid (Below w.heap.size w wr)) (fun i _ => a.size - (intOf i).toNat)
      case atStart => exact ⟨0, rfl, ⟨Nat.zero_le _, Nat.zero_le _, Nat.zero_le _⟩, Below.refl _ _⟩
      case round =>
        obtain ⟨k, rfl, HK, HB⟩ := hrel
        obtain ⟨hka, hkb, hkl⟩ := HK.out
        have k0 : (0 : Int) ≤ (k : Int) := by omega
        have n1 : (k : Int) ≤ (a.size : Int) := by omega
        by_cases hl1 : k < a.size
        · have k1 : (k : Int) < (a.size : Int) := by omega
          have b1 : decide (k < a.size) = true := decide_eq_true (by omega)
          by_cases hl2 : k < b.size
          · have k2 : (k : Int) < (b.size : Int) := by omega
            have b2 : decide (k < b.size) = true := decide_eq_true (by omega)
            have hmore := Br.lcp_more (a := a.data.toList) (b := b.data.toList) (n := k) (by simpa using hl1) (by simpa using hl2) hkl
            rw [Br.byte_at a k hl1, Br.byte_at b k hl2] at hmore
            have HM := Lib.hid hmore
            clear hmore hka hkb hkl
            cases he : ((a[k].toNat : Int) == (b[k].toNat : Int)) with
            | true =>
              have HN : Hid (k + 1 ≤ a.size ∧ k + 1 ≤ b.size ∧ k + 1 ≤ Br.both a b) := by
                refine ⟨by omega, by omega, HM.out.1 ?_⟩
                rw [beq_iff_eq] at he
                exact UInt8.toNat_inj.1 (by omega)
              go_wp2_with fail
              go_quiet (fail)
              go_wp2_with fail
              go_roundw
              case rel => exact ⟨k + 1, by go_num, HN.out, by first | exact HB.out | exact below_drewN HB.out _ | exact HB.out.drew⟩
              case measure => simp [intOf]; omega
            | false =>
              have HN : Hid (k = Br.both a b) := by
                show _ = _
                rw [beq_eq_false_iff_ne] at he
                exact (HM.out.2 (fun h => he (by rw [h]))).symm
              go_wp2_with fail
              go_quiet (fail)
              go_wp2_with fail
              go_ret
              exact ⟨by rw [HE.out, ← HN.out]; rfl, by first | exact HB.out | exact below_drewN HB.out _ | exact HB.out.drew⟩
          · have b2 : decide (k < b.size) = false := decide_eq_false (by omega)
            have HN : Hid (k = Br.both a b) := (Br.lcp_end hkl (by rw [Br.len_list, Br.len_list]; omega)).symm
            clear hka hkb hkl hl2
            go_wp2_with fail
            go_quiet (fail)
            go_wp2_with fail
            go_ret
            exact ⟨by rw [HE.out, ← HN.out]; rfl, by first | exact HB.out | exact below_drewN HB.out _ | exact HB.out.drew⟩
        · have b1 : decide (k < a.size) = false := decide_eq_false (by omega)
          have HN : Hid (k = Br.both a b) := (Br.lcp_end hkl (by rw [Br.len_list, Br.len_list]; omega)).symm
          clear hka hkb hkl hl1
          go_wp2_with fail
          go_quiet (fail)
          go_wp2_with fail
          go_ret
          exact ⟨by rw [HE.out, ← HN.out]; rfl, by first | exact HB.out | exact below_drewN HB.out _ | exact HB.out.drew⟩
end Go.Proofs.Ytkhpbjjmekmaeaa
