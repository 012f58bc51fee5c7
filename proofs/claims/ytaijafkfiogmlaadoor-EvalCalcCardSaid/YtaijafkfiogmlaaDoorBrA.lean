/-
  Contracts of branch's isKid, may, May, last, compare, Compare.
-/
import Derived.Test.YtaijafkfiogmlaaDoorBrM
import Derived.Laws.Unary
import Derived.Sort.Walk0
import Derived.WalkKit
import Derived.WalkSpells
import Derived.WalkLawsBesides
import Derived.WalkSmall
import Derived.Lib.Strings
import Derived.Lib.Slices
import Derived.Lib.Small
import Derived.Lib.Walk
import Derived.Deep.OwnRows
import Derived.Deep.AppendLies
import Derived.Deep.DeepCutAuto
import Derived.Deep.CutBlock
import Derived.Deep.RegionHeld3
import Derived.BigRegion
import Derived.ProofKit
import Derived.Laws.Cover1
import Derived.StillTailTactics
import Derived.BigQuiet
namespace Go.Proofs.YtaijafkfiogmlaaDoor
open Go.RowKit

set_option maxHeartbeats 400000 in
theorem biskid (n : Int) (w : World) : Calls Tryd.prog 40 #[.int .i64 n] w fun e w' => e = .returned (.bool (Br.kidN n)) ∧ w = w' := by
  by_cases h0 : 1 ≤ n
  · have b0 : decide (1 ≤ n) = true := by simpa using h0
    by_cases h1 : n ≤ 16
    · have b1 : decide (n ≤ 16) = true := by simpa using h1
      have e : Br.kidN n = true := by unfold Br.kidN; rw [b0, b1]; rfl
      rw [e]
      clear h0 h1 e
      go_enter Tryd.func40, Tryd.ntmps40
      go_wp2_with fail
      go_ret
      exact ⟨rfl, rfl⟩
    · have b1 : decide (n ≤ 16) = false := by simpa using h1
      have e : Br.kidN n = false := by unfold Br.kidN; rw [b0, b1]; rfl
      rw [e]
      clear h0 h1 e
      go_enter Tryd.func40, Tryd.ntmps40
      go_wp2_with fail
      go_ret
      exact ⟨rfl, rfl⟩
  · have b0 : decide (1 ≤ n) = false := by simpa using h0
    have e : Br.kidN n = false := by unfold Br.kidN; rw [b0]; rfl
    rw [e]
    clear h0 e
    go_enter Tryd.func40, Tryd.ntmps40
    go_wp2_with fail
    go_ret
    exact ⟨rfl, rfl⟩

theorem Br.byte_at (s : ByteArray) (k : Nat) (h : k < s.size) : s.data.toList[k]'(by simpa using h) = s[k] := rfl
theorem Br.ok_kid (b : UInt8) : Br.kidN (wrap64 (b.toNat : Int)) = Br.okB b := by
  have e : wrap64 (b.toNat : Int) = (b.toNat : Int) := by
    have := UInt8.toNat_lt b
    rw [wrap64]
    omega
  rw [e]
  unfold Br.kidN Br.okB
  rw [Bool.eq_iff_iff]
  simp
  omega

set_option maxHeartbeats 400000 in
theorem bmay (s : ByteArray) (w : World) (hs : s.size ≤ 1000000) : Calls Tryd.prog 26 #[.string s] w fun e w' => e = .returned (.bool (Br.may s)) ∧ w = w' := by
  by_cases hl : s.size ≤ 12
  · have b0 : decide ((12 : Int) < (s.size : Int)) = false := decide_eq_false (by omega)
    have b1 : ¬ ((12 : Int) < (s.size : Int)) := by omega
    go_enter Tryd.func26, Tryd.ntmps26
    go_wp2_with fail
    go_loop [9] (fun i => ∃ k : Nat, k ≤ s.size ∧ i = .int .i64 k ∧ Hid (∀ b ∈ s.data.toList.take k, Br.okB b = true)) (fun i => s.size - (intOf i).toNat)
    case atStart => exact ⟨0, Nat.zero_le _, rfl, fun b hb => by simp at hb⟩
    case round =>
      obtain ⟨k, hk, rfl, HN⟩ := hrel
      by_cases hlt : k < s.size
      · have k0 : (0 : Int) ≤ (k : Int) := by omega
        have k1 : (k : Int) < (s.size : Int) := by omega
        have HT : Hid (s.data.toList.take (k + 1) = s.data.toList.take k ++ [s[k]]) := by
          show _ = _
          rw [List.take_succ_eq_append_getElem (by simpa using hlt), Br.byte_at s k hlt]
        have HI := Lib.hid (biskid (wrap64 (s[k].toNat : Int)) w)
        cases he : Br.okB s[k] with
        | true =>
          have HC := HI.out
          rw [Br.ok_kid, he] at HC
          have HC := Lib.hid HC
          have HE := Lib.hid he
          clear he HI
          go_wp2_with fail
          with_reducible refine HC.out.mono ?_
          rintro e w1 ⟨rfl, rfl⟩
          go_wp2_with fail
          go_round
          case rel => exact ⟨k + 1, by omega, by go_num, fun b hb => by
            rw [HT.out, List.mem_append, List.mem_singleton] at hb
            rcases hb with hb | rfl
            · exact HN.out b hb
            · exact HE.out⟩
          case measure => simp [intOf]; omega
        | false =>
          have HC := HI.out
          rw [Br.ok_kid, he] at HC
          have HC := Lib.hid HC
          have HD : Hid (Br.may s = false) := by
            show _ = _
            rw [← Bool.not_eq_true]
            intro h
            have := (Br.mayL_iff.1 h).2 s[k] (by
              have : s[k] ∈ s.data.toList.take (k + 1) := by rw [HT.out]; simp
              exact List.mem_of_mem_take this)
            rw [he] at this
            cases this
          clear he HI
          go_wp2_with fail
          with_reducible refine HC.out.mono ?_
          rintro e w1 ⟨rfl, rfl⟩
          go_wp2_with fail
          go_ret
          exact ⟨by rw [HD.out]; rfl, rfl⟩
      · have k1 : ¬ ((k : Int) < (s.size : Int)) := by omega
        have HD : Hid (Br.may s = true) := by
          show _ = _
          refine Br.mayL_iff.2 ⟨by rw [Br.len_list]; exact hl, fun b hb => HN.out b ?_⟩
          rw [List.take_of_length_le (by rw [Br.len_list]; omega)]
          exact hb
        go_wp2_with fail
        go_ret
        exact ⟨by rw [HD.out]; rfl, rfl⟩
  · have b0 : decide ((12 : Int) < (s.size : Int)) = true := decide_eq_true (by omega)
    have b1 : (12 : Int) < (s.size : Int) := by omega
    have HD : Hid (Br.may s = false) := by
      show _ = _
      rw [← Bool.not_eq_true]
      intro h
      exact hl (Br.may_size h)
    clear hl
    go_enter Tryd.func26, Tryd.ntmps26
    go_wp2_with fail
    go_ret
    exact ⟨by rw [HD.out]; rfl, rfl⟩

theorem bMay (s : ByteArray) (w : World) (hs : s.size ≤ 1000000) : Calls Tryd.prog 20 #[.string s] w fun e w' => e = .returned (.bool (Br.may s)) ∧ w = w' := by
  have HC := Lib.hid (bmay s w hs)
  go_enter Tryd.func20, Tryd.ntmps20
  go_wp2_with fail
  refine HC.out.mono ?_
  rintro e w1 ⟨rfl, rfl⟩
  go_wp2_with fail
  go_ret
  exact ⟨rfl, rfl⟩

theorem bisnan (s : ByteArray) (w : World) : Calls Tryd.prog 39 #[.string s] w fun e w' => e = .returned (.bool false) ∧ w = w' := by
  have h2 : ((s.toList == s.toList) : Bool) = true := by simp
  go_enter Tryd.func39, Tryd.ntmps39
  go_wp2_with fail
  go_ret
  exact ⟨by first | rfl | (simp only [*]; rfl), rfl⟩
theorem Br.less_eq (x y : ByteArray) : Op.bytesLess x.toList y.toList = decide (x.data.toList < y.data.toList) := by
  rw [bytesLess_eq, Lib.toList_data, Lib.toList_data]
theorem bcmp (a b : ByteArray) (w : World) : Calls Tryd.prog 25 #[.string a, .string b] w fun e w' => e = .returned (.int .i64 (Br.cmpR a b)) ∧ w = w' := by
  obtain ⟨c1, c2, c3⟩ := Br.cmp_bytes a.data.toList b.data.toList
  have hl := Br.less_eq a b
  unfold Br.cmpR
  by_cases h1 : a.data.toList < b.data.toList
  · have d1 : Op.bytesLess a.toList b.toList = true := by rw [hl]; simpa using h1
    have e : Lib.compareBytes a.data.toList b.data.toList = -1 := by
      have := c1.2 h1
      omega
    rw [e]
    clear c1 c2 c3 hl h1 e
    go_enter Tryd.func25, Tryd.ntmps25
    go_wp2_with (go_at_call 39; refine (bisnan _ _).mono ?_; rintro e w' ⟨rfl, rfl⟩)
    go_ret
    exact ⟨rfl, rfl⟩
  · have d1 : Op.bytesLess a.toList b.toList = false := by rw [hl]; simpa using h1
    by_cases h2 : a.data.toList = b.data.toList
    · have d2 : (a.toList == b.toList) = true := by rw [Lib.toList_data, Lib.toList_data]; simpa using h2
      have e : Lib.compareBytes a.data.toList b.data.toList = 0 := c2.2 h2
      rw [e]
      clear c1 c2 c3 hl h1 h2 e
      go_enter Tryd.func25, Tryd.ntmps25
      go_wp2_with (go_at_call 39; refine (bisnan _ _).mono ?_; rintro e w' ⟨rfl, rfl⟩)
      go_ret
      exact ⟨rfl, rfl⟩
    · have d2 : (a.toList == b.toList) = false := by rw [Lib.toList_data, Lib.toList_data]; simpa using h2
      have e : Lib.compareBytes a.data.toList b.data.toList = 1 := by
        have a1 : ¬ Lib.compareBytes a.data.toList b.data.toList < 0 := fun h => h1 (c1.1 h)
        have a2 : ¬ Lib.compareBytes a.data.toList b.data.toList = 0 := fun h => h2 (c2.1 h)
        omega
      rw [e]
      clear c1 c2 c3 hl h1 h2 e
      go_enter Tryd.func25, Tryd.ntmps25
      go_wp2_with (go_at_call 39; refine (bisnan _ _).mono ?_; rintro e w' ⟨rfl, rfl⟩)
      go_ret
      exact ⟨rfl, rfl⟩
theorem bcompare (a b : ByteArray) (w : World) : Calls Tryd.prog 18 #[.string a, .string b] w fun e w' => e = .returned (.int .i64 (Br.cmpR a b)) ∧ w = w' := by
  have HC := Lib.hid (bcmp a b w)
  generalize Br.cmpR a b = r at HC ⊢
  go_enter Tryd.func18, Tryd.ntmps18
  go_wp2_with fail
  refine HC.out.mono ?_
  rintro e w1 ⟨rfl, rfl⟩
  go_wp2_with fail
  go_ret
  exact ⟨rfl, rfl⟩
theorem bCompare (a b : ByteArray) (w : World) : Calls Tryd.prog 10 #[.string a, .string b] w fun e w' => e = .returned (.int .i64 (Br.cmpR a b)) ∧ w = w' := by
  have HC := Lib.hid (bcompare a b w)
  generalize Br.cmpR a b = r at HC ⊢
  go_enter Tryd.func10, Tryd.ntmps10
  go_wp2_with fail
  refine HC.out.mono ?_
  rintro e w1 ⟨rfl, rfl⟩
  go_wp2_with fail
  go_ret
  exact ⟨rfl, rfl⟩
end Go.Proofs.YtaijafkfiogmlaaDoor
