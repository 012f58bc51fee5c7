/-
  Contracts of branch's text, Parent, Last, Kid, Under, both, Common.
-/
import Derived.Test.YtkhpbjjmekmaeaaBrA
import Derived.Test.YtkhpbjjmekmaeaaBrC
import Derived.Lib.ConvBytes
namespace Go.Proofs.Ytkhpbjjmekmaeaa
open Go.RowKit

theorem btext (s : ByteArray) (w : World) (hs : s.size ≤ 1000000) : Calls Try.prog 25 #[.string s] w fun e w' => e = .returned (.string s) ∧ Below w.heap.size w w' := by
  have HC := Lib.hid (bclone s w (by omega))
  go_enter Try.func25, Try.ntmps25
  go_wp2_with fail
  refine HC.out.mono ?_
  rintro e w1 ⟨rfl, hb⟩
  have HB := Lib.hid hb
  clear hb
  go_wp2_with fail
  go_ret
  exact ⟨rfl, HB.out⟩
theorem Br.nil_extract (s : ByteArray) : s.extract 0 0 = ⟨#[]⟩ := by
  apply ByteArray.ext
  simp
theorem bParent (s : ByteArray) (w : World) (hs : s.size ≤ 1000000) : Calls Try.prog 8 #[.string s] w fun e w' => e = .returned (.tuple #[.string (Br.par s), .bool (Br.kidP s)]) ∧ Below w.heap.size w w' := by
  have HL := blast s w hs
  obtain ⟨n, hn, hle, hpar⟩ : ∃ n : Nat, (if Br.kidP s then ((s.size - 1 : Nat) : Int) else 0) = (n : Int) ∧ n ≤ s.size ∧ s.extract 0 n = Br.par s := by
    unfold Br.par
    split
    · exact ⟨_, rfl, by omega, rfl⟩
    · exact ⟨0, rfl, by omega, Br.nil_extract s⟩
  rw [hn] at HL
  rw [← hpar]
  generalize Br.kidP s = k at HL
  have HT := Lib.hid (btext (s.extract 0 n) w (by rw [ByteArray.size_extract]; omega))
  have HL := Lib.hid HL
  clear hn hpar
  have n0 : (0 : Int) ≤ (n : Int) := by omega
  have n1 : (n : Int) ≤ (s.size : Int) := by omega
  go_enter Try.func8, Try.ntmps8
  go_wp2_with fail
  refine HL.out.mono ?_
  rintro e w1 ⟨rfl, rfl⟩
  go_wp2_with fail
  refine HT.out.mono ?_
  rintro e w2 ⟨rfl, hb⟩
  have HB := Lib.hid hb
  clear hb
  go_wp2_with fail
  refine bodyPost_ret (results_tmp2 rfl _ _ _) rfl ?_
  exact ⟨rfl, HB.out⟩
theorem Br.byte_wrap (b : UInt8) : wrap64 (b.toNat : Int) = (b.toNat : Int) := by
  have := UInt8.toNat_lt b
  rw [wrap64]
  omega
theorem bLast (s : ByteArray) (w : World) (hs : s.size ≤ 1000000) : Calls Try.prog 14 #[.string s] w fun e w' => e = .returned (.int .i64 (Br.lastN s)) ∧ w = w' := by
  have HL := blast s w hs
  unfold Br.lastN
  cases hk : Br.kidP s with
  | true =>
    have h0 : s.size ≠ 0 := by
      intro h
      unfold Br.kidP at hk
      rw [decide_eq_true h] at hk
      simp at hk
    obtain ⟨n, hn⟩ : ∃ n, s.size - 1 = n := ⟨_, rfl⟩
    rw [hk, if_pos rfl, hn] at HL
    have n0 : (0 : Int) ≤ (n : Int) := by omega
    have n1 : (n : Int) < (s.size : Int) := by omega
    have hlt : n < s.size := by omega
    have HE : Hid (wrap64 (s[n].toNat : Int) = if true = true then ((s.data.toList[s.size - 1]?.getD 0).toNat : Int) else 0) := by
      show _ = _
      rw [if_pos rfl, hn, List.getElem?_eq_getElem (by simpa using hlt), Option.getD_some, Br.byte_wrap]
      rfl
    generalize (if true = true then ((s.data.toList[s.size - 1]?.getD 0).toNat : Int) else 0) = V at HE ⊢
    have HL := Lib.hid HL
    clear hk h0 hn
    go_enter Try.func14, Try.ntmps14
    go_wp2_with fail
    refine HL.out.mono ?_
    rintro e w1 ⟨rfl, rfl⟩
    go_wp2_with fail
    go_ret
    exact ⟨by rw [← HE.out]; rfl, rfl⟩
  | false =>
    rw [hk] at HL
    have HL := Lib.hid HL
    clear hk
    go_enter Try.func14, Try.ntmps14
    go_wp2_with fail
    refine HL.out.mono ?_
    rintro e w1 ⟨rfl, rfl⟩
    go_wp2_with fail
    go_ret
    exact ⟨rfl, rfl⟩
theorem bUnder (s r : ByteArray) (w : World) (hs : s.size ≤ 1000000) (hr : r.size ≤ 1000000) : Calls Try.prog 16 #[.string s, .string r] w fun e w' => e = .returned (.bool (Br.under s r)) ∧ w = w' := by
  have HM := bMay s w hs
  have HP := Lib.hid (bprefix s r w hs hr)
  unfold Br.under
  generalize Br.pre r.data.toList s.data.toList = q at HP ⊢
  cases hm : Br.may s with
  | true =>
    rw [hm] at HM
    have HM := Lib.hid HM
    clear hm
    go_enter Try.func16, Try.ntmps16
    go_wp2_with fail
    refine HM.out.mono ?_
    rintro e w1 ⟨rfl, rfl⟩
    go_wp2_with fail
    refine HP.out.mono ?_
    rintro e w1 ⟨rfl, rfl⟩
    go_wp2_with fail
    go_ret
    exact ⟨by simp, rfl⟩
  | false =>
    rw [hm] at HM
    have HM := Lib.hid HM
    clear hm
    go_enter Try.func16, Try.ntmps16
    go_wp2_with fail
    refine HM.out.mono ?_
    rintro e w1 ⟨rfl, rfl⟩
    go_wp2_with fail
    go_ret
    exact ⟨by simp, rfl⟩
theorem Br.conv1 (w : World) (n : Int) (b : UInt8) (h : n % 256 = (b.toNat : Int)) :
    (convert 42 9 (.slice (some ⟨w.heap.size, 0, none⟩) 1 1)).run Try.prog (w.alloc (.cells #[.int .u8 (n % 256)] 5)) = .ok (.string ⟨#[b]⟩) (w.alloc (.cells #[.int .u8 (n % 256)] 5)) := by
  rw [h]
  exact run_convert_bytes_back (P := Try.prog) (w.alloc (.cells #[.int .u8 (b.toNat : Int)] 5)) 42 9 5 ⟨w.heap.size, 0, none⟩ 1 [b] Try.underlying42 Try.underlying5 Try.underlying9 (fun j hj => by
    rw [Addr.add_mid, cell_of_row _ _ _ _ _ _ (heap_alloc_new w _)]
    have hj' : j = 0 := by simp at hj; omega
    subst hj'
    rfl)
theorem Br.byte_of {n : Int} (h : 1 ≤ n ∧ n ≤ 16) : n % 256 = ((UInt8.ofNat n.toNat).toNat : Int) := by
  rw [UInt8.toNat_ofNat']
  omega
set_option maxHeartbeats 800000 in
theorem bKid (s : ByteArray) (n : Int) (w : World) (hs : s.size ≤ 1000000) (_hn : -9223372036854775808 ≤ n ∧ n ≤ 9223372036854775807) : Calls Try.prog 10 #[.string s, .int .i64 n] w fun e w' => e = .returned (.tuple #[.string (Br.kidT s n), .bool (Br.kidOk s n)]) ∧ Below w.heap.size w w' := by
  have HM := bMay s w hs
  have HI := biskid n w
  cases hm : Br.may s with
  | false =>
    have e1 : Br.kidOk s n = false := by unfold Br.kidOk; rw [hm]; rfl
    have e2 : Br.kidT s n = ⟨#[]⟩ := by unfold Br.kidT; rw [e1]; rfl
    rw [e1, e2]
    rw [hm] at HM
    have HM := Lib.hid HM
    clear hm e1 e2 HI
    go_enter Try.func10, Try.ntmps10
    go_wp2_with fail
    refine HM.out.mono ?_
    rintro e w1 ⟨rfl, rfl⟩
    go_wp2_with fail
    refine bodyPost_ret (results_tmp2 rfl _ _ _) rfl ?_
    exact ⟨rfl, Below.refl _ _⟩
  | true =>
    cases hk : Br.kidN n with
    | false =>
      have e1 : Br.kidOk s n = false := by unfold Br.kidOk; rw [hm, hk]; rfl
      have e2 : Br.kidT s n = ⟨#[]⟩ := by unfold Br.kidT; rw [e1]; rfl
      rw [e1, e2]
      rw [hm] at HM
      rw [hk] at HI
      have HM := Lib.hid HM
      have HI := Lib.hid HI
      clear hm e1 e2 hk
      go_enter Try.func10, Try.ntmps10
      go_wp2_with fail
      refine HM.out.mono ?_
      rintro e w1 ⟨rfl, rfl⟩
      go_wp2_with fail
      refine HI.out.mono ?_
      rintro e w1 ⟨rfl, rfl⟩
      go_wp2_with fail
      refine bodyPost_ret (results_tmp2 rfl _ _ _) rfl ?_
      exact ⟨rfl, Below.refl _ _⟩
    | true =>
      by_cases h12 : s.size = 12
      · have e1 : Br.kidOk s n = false := by unfold Br.kidOk; rw [hm, hk, decide_eq_true h12]; rfl
        have e2 : Br.kidT s n = ⟨#[]⟩ := by unfold Br.kidT; rw [e1]; rfl
        have d12 : ((s.size : Int) == 12) = true := by rw [beq_iff_eq]; omega
        rw [e1, e2]
        rw [hm] at HM
        rw [hk] at HI
        have HM := Lib.hid HM
        have HI := Lib.hid HI
        clear hm e1 e2 hk h12
        go_enter Try.func10, Try.ntmps10
        go_wp2_with fail
        refine HM.out.mono ?_
        rintro e w1 ⟨rfl, rfl⟩
        go_wp2_with fail
        refine HI.out.mono ?_
        rintro e w1 ⟨rfl, rfl⟩
        go_wp2_with fail
        refine bodyPost_ret (results_tmp2 rfl _ _ _) rfl ?_
        exact ⟨rfl, Below.refl _ _⟩
      · have e1 : Br.kidOk s n = true := by unfold Br.kidOk; rw [hm, hk, decide_eq_false h12]; rfl
        have e2 : Br.kidT s n = s ++ ⟨#[UInt8.ofNat n.toNat]⟩ := by unfold Br.kidT; rw [e1]; rfl
        have d12 : ((s.size : Int) == 12) = false := by rw [beq_eq_false_iff_ne]; omega
        rw [e1]
        obtain ⟨b, hb⟩ : ∃ b : UInt8, b = UInt8.ofNat n.toNat := ⟨_, rfl⟩
        rw [← hb] at e2
        have HE := Lib.hid e2
        have hcv := Br.conv1 w n b (by rw [hb]; exact Br.byte_of (by unfold Br.kidN at hk; rw [Bool.and_eq_true, decide_eq_true_iff, decide_eq_true_iff] at hk; omega))
        have hsz : s.size + 1 ≤ maxLen := by unfold maxLen; omega
        rw [hm] at HM
        rw [hk] at HI
        have HM := Lib.hid HM
        have HI := Lib.hid HI
        clear hm e1 e2 hk h12 hb
        go_enter Try.func10, Try.ntmps10
        go_wp2_with fail
        refine HM.out.mono ?_
        rintro e w1 ⟨rfl, rfl⟩
        go_wp2_with fail
        refine HI.out.mono ?_
        rintro e w1 ⟨rfl, rfl⟩
        go_wp2_with fail
        refine bodyPost_ret (results_tmp2 rfl _ _ _) rfl ?_
        exact ⟨by rw [HE.out]; rfl, (Below.refl _ _).alloc (Nat.le_refl _) _⟩

set_option maxHeartbeats 800000 in
theorem bboth (a b : ByteArray) (w : World) (ha : a.size ≤ 1000000) (_hb : b.size ≤ 1000000) : Calls Try.prog 30 #[.string a, .string b] w fun e w' => e = .returned (.int .i64 (Br.both a b : Nat)) ∧ Below w.heap.size w w' := by
  go_enter Try.func30, Try.ntmps30
  go_wp2_with fail
  go_loopw [5] (fun i wr => ∃ k : Nat, i = .int .i64 k ∧ Hid (k ≤ a.size ∧ k ≤ b.size ∧ k ≤ Br.both a b) ∧ Hid (Below w.heap.size w wr)) (fun i _ => a.size - (intOf i).toNat)
  case atStart => exact ⟨0, rfl, ⟨Nat.zero_le _, Nat.zero_le _, Nat.zero_le _⟩, Below.refl _ _⟩
  case round =>
    obtain ⟨k, rfl, HK, HB⟩ := hrel
    obtain ⟨hka, hkb, hkl⟩ := HK.out
    have k0 : (0 : Int) ≤ (k : Int) := by omega
    by_cases hlt : k < a.size ∧ k < b.size
    · obtain ⟨hl1, hl2⟩ := hlt
      have k1 : (k : Int) < (a.size : Int) := by omega
      have k2 : (k : Int) < (b.size : Int) := by omega
      have km : decide ((k : Int) < min (a.size : Int) (b.size : Int)) = true := decide_eq_true (by omega)
      have hmore := Br.lcp_more (a := a.data.toList) (b := b.data.toList) (n := k) (by simpa using hl1) (by simpa using hl2) hkl
      rw [Br.byte_at a k hl1, Br.byte_at b k hl2] at hmore
      have HM := Lib.hid hmore
      clear hmore hka hkb hkl
      cases he : ((a[k].toNat : Int) == (b[k].toNat : Int)) with
      | true =>
        have HN : Hid (k + 1 ≤ a.size ∧ k + 1 ≤ b.size ∧ k + 1 ≤ Br.both a b) := by
          refine ⟨by omega, by omega, HM.out.1 ?_⟩
          rw [beq_iff_eq] at he
          exact UInt8.toNat_inj.1 (by omega)
        go_wp2_with fail
        go_quiet (fail)
        go_wp2_with fail
        go_roundw
        case rel => exact ⟨k + 1, by go_num, HN.out, by first | exact HB.out | exact below_drewN HB.out _ | exact HB.out.drew⟩
        case measure => simp [intOf]; omega
      | false =>
        have HN : Hid (k = Br.both a b) := by
          show _ = _
          rw [beq_eq_false_iff_ne] at he
          exact (HM.out.2 (fun h => he (by rw [h]))).symm
        go_wp2_with fail
        go_quiet (fail)
        go_wp2_with fail
        go_ret
        exact ⟨by rw [← HN.out]; rfl, by first | exact HB.out | exact below_drewN HB.out _ | exact HB.out.drew⟩
    · have k1 : decide ((k : Int) < min (a.size : Int) (b.size : Int)) = false := decide_eq_false (by omega)
      have HN : Hid (k = Br.both a b) := (Br.lcp_end hkl (by rw [Br.len_list, Br.len_list]; omega)).symm
      clear hka hkb hkl hlt
      go_wp2_with fail
      go_quiet (fail)
      go_wp2_with fail
      go_ret
      exact ⟨by rw [← HN.out]; rfl, by first | exact HB.out | exact below_drewN HB.out _ | exact HB.out.drew⟩
theorem bCommon (a b : ByteArray) (w : World) (ha : a.size ≤ 1000000) (hb : b.size ≤ 1000000) : Calls Try.prog 20 #[.string a, .string b] w fun e w' => e = .returned (.string (Br.common a b)) ∧ Below w.heap.size w w' := by
  have HA := bMay a w ha
  have HBm := bMay b w hb
  cases h1 : Br.may a with
  | false =>
    have e : Br.common a b = ⟨#[]⟩ := by unfold Br.common; rw [h1]; rfl
    rw [e]
    rw [h1] at HA
    have HA := Lib.hid HA
    clear h1 e HBm
    go_enter Try.func20, Try.ntmps20
    go_wp2_with fail
    refine HA.out.mono ?_
    rintro e w1 ⟨rfl, rfl⟩
    go_wp2_with fail
    go_ret
    exact ⟨rfl, Below.refl _ _⟩
  | true =>
    rw [h1] at HA
    have HA := Lib.hid HA
    cases h2 : Br.may b with
    | false =>
      have e : Br.common a b = ⟨#[]⟩ := by unfold Br.common; rw [h2]; simp
      rw [e]
      rw [h2] at HBm
      have HBm := Lib.hid HBm
      clear h1 h2 e
      go_enter Try.func20, Try.ntmps20
      go_wp2_with fail
      refine HA.out.mono ?_
      rintro e w1 ⟨rfl, rfl⟩
      go_wp2_with fail
      refine HBm.out.mono ?_
      rintro e w1 ⟨rfl, rfl⟩
      go_wp2_with fail
      go_ret
      exact ⟨rfl, Below.refl _ _⟩
    | true =>
      have e : Br.common a b = a.extract 0 (Br.both a b) := by unfold Br.common; rw [h1, h2]; rfl
      rw [e]
      rw [h2] at HBm
      have HBm := Lib.hid HBm
      have hle := (Br.lcp_le a.data.toList b.data.toList).1
      rw [Br.len_list] at hle
      have hle : Br.both a b ≤ a.size := hle
      have HC := bboth a b w ha hb
      have HT : Hid (∀ w, Calls Try.prog 25 #[.string (a.extract 0 (Br.both a b))] w fun e w' => e = .returned (.string (a.extract 0 (Br.both a b))) ∧ Below w.heap.size w w') := fun w => btext (a.extract 0 (Br.both a b)) w (by rw [ByteArray.size_extract]; omega)
      generalize Br.both a b = n at HC HT hle ⊢
      have HC := Lib.hid HC
      have n0 : (0 : Int) ≤ (n : Int) := by omega
      have n1 : (n : Int) ≤ (a.size : Int) := by omega
      clear h1 h2 e
      go_enter Try.func20, Try.ntmps20
      go_wp2_with fail
      refine HA.out.mono ?_
      rintro e w1 ⟨rfl, rfl⟩
      go_wp2_with fail
      refine HBm.out.mono ?_
      rintro e w1 ⟨rfl, rfl⟩
      go_wp2_with fail
      refine HC.out.mono ?_
      rintro e w1 ⟨rfl, hb1⟩
      have HB1 := Lib.hid hb1
      clear hb1
      go_wp2_with fail
      refine (HT.out _).mono ?_
      rintro e w2 ⟨rfl, hb2⟩
      have HB2 := Lib.hid (HB1.out.trans (hb2.mono HB1.out.size))
      clear hb2
      go_wp2_with fail
      go_ret
      exact ⟨rfl, HB2.out⟩
end Go.Proofs.Ytkhpbjjmekmaeaa
