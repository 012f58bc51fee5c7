/-
  The document's May, Parent, Last, Kid, Under, Compare, Common (layer 12).
-/
import Derived.Test.YtkhpbjjmekmaeaaBrB
namespace Go.Proofs.Ytkhpbjjmekmaeaa
open Go.RowKit

set_option maxHeartbeats 400000 in
theorem rMay12 (s : ByteArray) (w : World) (hs : s.size ≤ 1000000) : Calls Try.prog 13 #[.string s] w fun e w' => e = .returned (.bool (Br.may s)) ∧ w = w' := by
  go_enter Try.func13, Try.ntmps13
  go_wp2_with fail
  go_loop [3] (fun i => ∃ k : Nat, k ≤ s.size ∧ i = .int .i64 k ∧ Hid (∀ b ∈ s.data.toList.take k, Br.okB b = true)) (fun i => s.size - (intOf i).toNat)
  case atStart => exact ⟨0, Nat.zero_le _, rfl, fun b hb => by simp at hb⟩
  case round =>
    obtain ⟨k, hk, rfl, HN⟩ := hrel
    by_cases hlt : k < s.size
    · have k0 : (0 : Int) ≤ (k : Int) := by omega
      have k1 : (k : Int) < (s.size : Int) := by omega
      have HT : Hid (s.data.toList.take (k + 1) = s.data.toList.take k ++ [s[k]]) := by
        show _ = _
        rw [List.take_succ_eq_append_getElem (by simpa using hlt), Br.byte_at s k hlt]
      have hN : ∀ b : UInt8, b = s[k] → Br.okB b = false → Br.may s = false := fun b hb he => by
        rw [← Bool.not_eq_true]
        intro h
        have := (Br.mayL_iff.1 h).2 s[k] (by
          have : s[k] ∈ s.data.toList.take (k + 1) := by rw [HT.out]; simp
          exact List.mem_of_mem_take this)
        rw [← hb, he] at this
        cases this
      by_cases h1 : s[k].toNat < 1
      · have d1 : decide ((s[k].toNat : Int) < 1) = true := decide_eq_true (by omega)
        have HD := Lib.hid (hN _ rfl (by unfold Br.okB; rw [decide_eq_false (by omega)]; rfl))
        clear h1 hN
        go_wp2_with fail
        go_ret
        exact ⟨by rw [HD.out]; rfl, rfl⟩
      · have d1 : decide ((s[k].toNat : Int) < 1) = false := decide_eq_false (by omega)
        by_cases h2 : 16 < s[k].toNat
        · have d2 : decide ((16 : Int) < (s[k].toNat : Int)) = true := decide_eq_true (by omega)
          have HD := Lib.hid (hN _ rfl (by unfold Br.okB; rw [decide_eq_false (p := s[k].toNat ≤ 16) (by omega)]; simp))
          clear h1 h2 hN
          go_wp2_with fail
          go_ret
          exact ⟨by rw [HD.out]; rfl, rfl⟩
        · have d2 : decide ((16 : Int) < (s[k].toNat : Int)) = false := decide_eq_false (by omega)
          have HE : Hid (Br.okB s[k] = true) := by
            show _ = _
            unfold Br.okB
            rw [decide_eq_true (by omega), decide_eq_true (by omega)]
            rfl
          clear h1 h2 hN
          go_wp2_with fail
          go_round
          case rel => exact ⟨k + 1, by omega, by go_num, fun b hb => by
            rw [HT.out, List.mem_append, List.mem_singleton] at hb
            rcases hb with hb | rfl
            · exact HN.out b hb
            · exact HE.out⟩
          case measure => simp [intOf]; omega
    · have k1 : ¬ ((k : Int) < (s.size : Int)) := by omega
      have HD : Hid (Br.may s = decide (s.size ≤ 12)) := by
        show _ = _
        unfold Br.may Br.mayL
        rw [Br.len_list, List.all_eq_true.2 (fun b hb => HN.out b (by rw [List.take_of_length_le (by rw [Br.len_list]; omega)]; exact hb)), Bool.and_true]
      by_cases h12 : s.size ≤ 12
      · have d1 : decide ((s.size : Int) ≤ 12) = true := decide_eq_true (by omega)
        have HD2 : Hid (Br.may s = true) := by rw [HD.out]; exact decide_eq_true h12
        clear h12
        go_wp2_with fail
        go_ret
        exact ⟨by rw [HD2.out]; first | rfl | (simp only [*]; rfl), rfl⟩
      · have d1 : decide ((s.size : Int) ≤ 12) = false := decide_eq_false (by omega)
        have HD2 : Hid (Br.may s = false) := by rw [HD.out]; exact decide_eq_false h12
        clear h12
        go_wp2_with fail
        go_ret
        exact ⟨by rw [HD2.out]; first | rfl | (simp only [*]; rfl), rfl⟩

theorem Br.ne_nil {s : ByteArray} (h0 : s.size ≠ 0) : (s.toList == []) = false := by
  rw [beq_eq_false_iff_ne]
  intro h
  have := congrArg List.length h
  rw [Lib.toList_data, Br.len_list] at this
  exact h0 this
theorem Br.is_nil {s : ByteArray} (h0 : s.size = 0) : s = ⟨#[]⟩ := by
  apply ByteArray.ext
  exact Array.eq_empty_of_size_eq_zero h0
theorem rParent12 (s : ByteArray) (w : World) (hs : s.size ≤ 1000000) : Calls Try.prog 9 #[.string s] w fun e w' => e = .returned (.tuple #[.string (Br.par s), .bool (Br.kidP s)]) ∧ w = w' := by
  have HC := rMay12 s w hs
  unfold Br.par
  by_cases h0 : s.size = 0
  · have e2 : Br.kidP s = false := by unfold Br.kidP; rw [decide_eq_true h0]; rfl
    rw [e2]
    have e := Br.is_nil h0
    clear e2 HC h0 hs
    subst e
    go_enter Try.func9, Try.ntmps9
    go_wp2_with fail
    refine bodyPost_ret (results_tmp2 rfl _ _ _) rfl ?_
    exact ⟨rfl, rfl⟩
  · have hne := Br.ne_nil h0
    cases hm : Br.may s with
    | true =>
      have e2 : Br.kidP s = true := by unfold Br.kidP; rw [decide_eq_false h0, hm]; rfl
      rw [e2, if_pos rfl]
      rw [hm] at HC
      have HC := Lib.hid HC
      obtain ⟨n, hn⟩ : ∃ n, s.size - 1 = n := ⟨_, rfl⟩
      have n0 : (0 : Int) ≤ (n : Int) := by omega
      have n1 : (n : Int) ≤ (s.size : Int) := by omega
      have hn2 : (s.size : Int) - 1 = (n : Int) := by omega
      rw [hn]
      clear hm e2 hn
      go_enter Try.func9, Try.ntmps9
      go_wp2_with fail
      refine HC.out.mono ?_
      rintro e w1 ⟨rfl, rfl⟩
      go_wp2_with fail
      refine bodyPost_ret (results_tmp2 rfl _ _ _) rfl ?_
      exact ⟨rfl, rfl⟩
    | false =>
      have e2 : Br.kidP s = false := by unfold Br.kidP; rw [hm]; simp
      rw [e2]
      rw [hm] at HC
      have HC := Lib.hid HC
      clear hm e2
      go_enter Try.func9, Try.ntmps9
      go_wp2_with fail
      refine HC.out.mono ?_
      rintro e w1 ⟨rfl, rfl⟩
      go_wp2_with fail
      refine bodyPost_ret (results_tmp2 rfl _ _ _) rfl ?_
      exact ⟨rfl, rfl⟩
theorem rLast12 (s : ByteArray) (w : World) (hs : s.size ≤ 1000000) : Calls Try.prog 15 #[.string s] w fun e w' => e = .returned (.int .i64 (Br.lastN s)) ∧ w = w' := by
  have HC := rMay12 s w hs
  unfold Br.lastN
  by_cases h0 : s.size = 0
  · have e2 : Br.kidP s = false := by unfold Br.kidP; rw [decide_eq_true h0]; rfl
    rw [e2]
    have e := Br.is_nil h0
    clear e2 HC h0 hs
    subst e
    go_enter Try.func15, Try.ntmps15
    go_wp2_with fail
    go_ret
    exact ⟨rfl, rfl⟩
  · have hne := Br.ne_nil h0
    cases hm : Br.may s with
    | true =>
      have e2 : Br.kidP s = true := by unfold Br.kidP; rw [decide_eq_false h0, hm]; rfl
      rw [e2, if_pos rfl]
      rw [hm] at HC
      have HC := Lib.hid HC
      obtain ⟨n, hn⟩ : ∃ n, s.size - 1 = n := ⟨_, rfl⟩
      have n0 : (0 : Int) ≤ (n : Int) := by omega
      have n1 : (n : Int) < (s.size : Int) := by omega
      have hlt : n < s.size := by omega
      have hn2 : (s.size : Int) - 1 = (n : Int) := by omega
      have HE : Hid (wrap64 (s[n].toNat : Int) = ((s.data.toList[s.size - 1]?.getD 0).toNat : Int)) := by
        show _ = _
        rw [hn, List.getElem?_eq_getElem (by simpa using hlt), Option.getD_some, Br.byte_wrap]
        rfl
      generalize ((s.data.toList[s.size - 1]?.getD 0).toNat : Int) = V at HE ⊢
      clear hm e2 hn
      go_enter Try.func15, Try.ntmps15
      go_wp2_with fail
      refine HC.out.mono ?_
      rintro e w1 ⟨rfl, rfl⟩
      go_wp2_with fail
      go_ret
      exact ⟨by rw [← HE.out]; rfl, rfl⟩
    | false =>
      have e2 : Br.kidP s = false := by unfold Br.kidP; rw [hm]; simp
      rw [e2]
      rw [hm] at HC
      have HC := Lib.hid HC
      clear hm e2
      go_enter Try.func15, Try.ntmps15
      go_wp2_with fail
      refine HC.out.mono ?_
      rintro e w1 ⟨rfl, rfl⟩
      go_wp2_with fail
      go_ret
      exact ⟨rfl, rfl⟩
end Go.Proofs.Ytkhpbjjmekmaeaa
