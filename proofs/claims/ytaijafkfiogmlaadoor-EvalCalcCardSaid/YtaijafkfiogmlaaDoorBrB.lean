/-
  Contracts of branch's text, Parent, Last, Kid, Under, both, Common.
-/
import Derived.Test.YtaijafkfiogmlaaDoorBrA
import Derived.Test.YtaijafkfiogmlaaDoorBrC
import Derived.Lib.ConvBytes
namespace Go.Proofs.YtaijafkfiogmlaaDoor
open Go.RowKit

theorem Br.nil_extract (s : ByteArray) : s.extract 0 0 = ⟨#[]⟩ := by
  apply ByteArray.ext
  simp
theorem Br.byte_wrap (b : UInt8) : wrap64 (b.toNat : Int) = (b.toNat : Int) := by
  have := UInt8.toNat_lt b
  rw [wrap64]
  omega
theorem bUnder (s r : ByteArray) (w : World) (hs : s.size ≤ 1000000) (hr : r.size ≤ 1000000) : Calls Tryd.prog 12 #[.string s, .string r] w fun e w' => e = .returned (.bool (Br.under s r)) ∧ w = w' := by
  have HM := bMay s w hs
  have HP := Lib.hid (bprefix s r w hs hr)
  unfold Br.under
  generalize Br.pre r.data.toList s.data.toList = q at HP ⊢
  cases hm : Br.may s with
  | true =>
    rw [hm] at HM
    have HM := Lib.hid HM
    clear hm
    go_enter Tryd.func12, Tryd.ntmps12
    go_wp2_with fail
    refine HM.out.mono ?_
    rintro e w1 ⟨rfl, rfl⟩
    go_wp2_with fail
    refine HP.out.mono ?_
    rintro e w1 ⟨rfl, rfl⟩
    go_wp2_with fail
    go_ret
    exact ⟨by simp, rfl⟩
  | false =>
    rw [hm] at HM
    have HM := Lib.hid HM
    clear hm
    go_enter Tryd.func12, Tryd.ntmps12
    go_wp2_with fail
    refine HM.out.mono ?_
    rintro e w1 ⟨rfl, rfl⟩
    go_wp2_with fail
    go_ret
    exact ⟨by simp, rfl⟩
theorem Br.conv1 (w : World) (n : Int) (b : UInt8) (h : n % 256 = (b.toNat : Int)) :
    (convert 130 9 (.slice (some ⟨w.heap.size, 0, none⟩) 1 1)).run Tryd.prog (w.alloc (.cells #[.int .u8 (n % 256)] 5)) = .ok (.string ⟨#[b]⟩) (w.alloc (.cells #[.int .u8 (n % 256)] 5)) := by
  rw [h]
  exact run_convert_bytes_back (P := Tryd.prog) (w.alloc (.cells #[.int .u8 (b.toNat : Int)] 5)) 130 9 5 ⟨w.heap.size, 0, none⟩ 1 [b] Tryd.underlying130 Tryd.underlying5 Tryd.underlying9 (fun j hj => by
    rw [Addr.add_mid, cell_of_row _ _ _ _ _ _ (heap_alloc_new w _)]
    have hj' : j = 0 := by simp at hj; omega
    subst hj'
    rfl)
theorem Br.byte_of {n : Int} (h : 1 ≤ n ∧ n ≤ 16) : n % 256 = ((UInt8.ofNat n.toNat).toNat : Int) := by
  rw [UInt8.toNat_ofNat']
  omega
set_option maxHeartbeats 800000 in
theorem bKid (s : ByteArray) (n : Int) (w : World) (hs : s.size ≤ 1000000) (_hn : -9223372036854775808 ≤ n ∧ n ≤ 9223372036854775807) : Calls Tryd.prog 53 #[.string s, .int .i64 n] w fun e w' => e = .returned (.tuple #[.string (Br.kidT s n), .bool (Br.kidOk s n)]) ∧ Below w.heap.size w w' := by
  have HM := bMay s w hs
  have HI := biskid n w
  cases hm : Br.may s with
  | false =>
    have e1 : Br.kidOk s n = false := by unfold Br.kidOk; rw [hm]; rfl
    have e2 : Br.kidT s n = ⟨#[]⟩ := by unfold Br.kidT; rw [e1]; rfl
    rw [e1, e2]
    rw [hm] at HM
    have HM := Lib.hid HM
    clear hm e1 e2 HI
    go_enter Tryd.func53, Tryd.ntmps53
    go_wp2_with fail
    refine HM.out.mono ?_
    rintro e w1 ⟨rfl, rfl⟩
    go_wp2_with fail
    refine bodyPost_ret (results_tmp2 rfl _ _ _) rfl ?_
    exact ⟨rfl, Below.refl _ _⟩
  | true =>
    cases hk : Br.kidN n with
    | false =>
      have e1 : Br.kidOk s n = false := by unfold Br.kidOk; rw [hm, hk]; rfl
      have e2 : Br.kidT s n = ⟨#[]⟩ := by unfold Br.kidT; rw [e1]; rfl
      rw [e1, e2]
      rw [hm] at HM
      rw [hk] at HI
      have HM := Lib.hid HM
      have HI := Lib.hid HI
      clear hm e1 e2 hk
      go_enter Tryd.func53, Tryd.ntmps53
      go_wp2_with fail
      refine HM.out.mono ?_
      rintro e w1 ⟨rfl, rfl⟩
      go_wp2_with fail
      refine HI.out.mono ?_
      rintro e w1 ⟨rfl, rfl⟩
      go_wp2_with fail
      refine bodyPost_ret (results_tmp2 rfl _ _ _) rfl ?_
      exact ⟨rfl, Below.refl _ _⟩
    | true =>
      by_cases h12 : s.size = 12
      · have e1 : Br.kidOk s n = false := by unfold Br.kidOk; rw [hm, hk, decide_eq_true h12]; rfl
        have e2 : Br.kidT s n = ⟨#[]⟩ := by unfold Br.kidT; rw [e1]; rfl
        have d12 : ((s.size : Int) == 12) = true := by rw [beq_iff_eq]; omega
        rw [e1, e2]
        rw [hm] at HM
        rw [hk] at HI
        have HM := Lib.hid HM
        have HI := Lib.hid HI
        clear hm e1 e2 hk h12
        go_enter Tryd.func53, Tryd.ntmps53
        go_wp2_with fail
        refine HM.out.mono ?_
        rintro e w1 ⟨rfl, rfl⟩
        go_wp2_with fail
        refine HI.out.mono ?_
        rintro e w1 ⟨rfl, rfl⟩
        go_wp2_with fail
        refine bodyPost_ret (results_tmp2 rfl _ _ _) rfl ?_
        exact ⟨rfl, Below.refl _ _⟩
      · have e1 : Br.kidOk s n = true := by unfold Br.kidOk; rw [hm, hk, decide_eq_false h12]; rfl
        have e2 : Br.kidT s n = s ++ ⟨#[UInt8.ofNat n.toNat]⟩ := by unfold Br.kidT; rw [e1]; rfl
        have d12 : ((s.size : Int) == 12) = false := by rw [beq_eq_false_iff_ne]; omega
        rw [e1]
        obtain ⟨b, hb⟩ : ∃ b : UInt8, b = UInt8.ofNat n.toNat := ⟨_, rfl⟩
        rw [← hb] at e2
        have HE := Lib.hid e2
        have hcv := Br.conv1 w n b (by rw [hb]; exact Br.byte_of (by unfold Br.kidN at hk; rw [Bool.and_eq_true, decide_eq_true_iff, decide_eq_true_iff] at hk; omega))
        have hsz : s.size + 1 ≤ maxLen := by unfold maxLen; omega
        rw [hm] at HM
        rw [hk] at HI
        have HM := Lib.hid HM
        have HI := Lib.hid HI
        clear hm e1 e2 hk h12 hb
        go_enter Tryd.func53, Tryd.ntmps53
        go_wp2_with fail
        refine HM.out.mono ?_
        rintro e w1 ⟨rfl, rfl⟩
        go_wp2_with fail
        refine HI.out.mono ?_
        rintro e w1 ⟨rfl, rfl⟩
        go_wp2_with fail
        refine bodyPost_ret (results_tmp2 rfl _ _ _) rfl ?_
        exact ⟨by rw [HE.out]; rfl, (Below.refl _ _).alloc (Nat.le_refl _) _⟩

end Go.Proofs.YtaijafkfiogmlaaDoor
