/-
  Contracts of branch's isKid, may, May, last, compare, Compare.
  strings.Clone, strings.HasPrefix.
  Contracts of branch's text, Parent, Last, Kid, Under, both, Common.
-/
import Derived.Test.YtnlhacgihmelhaaDoorBrM
import Derived.Laws.Unary
import Derived.Sort.Walk0
import Derived.WalkKit
import Derived.WalkSpells
import Derived.WalkLawsBesides
import Derived.WalkSmall
import Derived.Lib.Strings
import Derived.Lib.Slices
import Derived.Lib.Small
import Derived.Lib.Walk
import Derived.Deep.OwnRows
import Derived.Deep.AppendLies
import Derived.Deep.DeepCutAuto
import Derived.Deep.CutBlock
import Derived.Deep.RegionHeld3
import Derived.BigRegion
import Derived.ProofKit
import Derived.Laws.Cover1
import Derived.StillTailTactics
import Derived.BigQuiet
import Derived.Test.YtnlhacgihmelhaaDoorLowOpen
import Derived.Lib.ConvBytes
section
namespace Go.Proofs.YtnlhacgihmelhaaDoor
open Go.RowKit

set_option maxHeartbeats 400000 in
theorem biskid (n : Int) (w : World) : Calls Tryd.prog 37 #[.int .i64 n] w fun e w' => e = .returned (.bool (Br.kidN n)) ∧ w = w' := by
  by_cases h0 : 1 ≤ n
  · have b0 : decide (1 ≤ n) = true := by simpa using h0
    by_cases h1 : n ≤ 16
    · have b1 : decide (n ≤ 16) = true := by simpa using h1
      have e : Br.kidN n = true := by unfold Br.kidN; rw [b0, b1]; rfl
      rw [e]
      clear h0 h1 e
      go_enter Tryd.func37, Tryd.ntmps37
      go_wp2_with fail
      go_ret
      exact ⟨rfl, rfl⟩
    · have b1 : decide (n ≤ 16) = false := by simpa using h1
      have e : Br.kidN n = false := by unfold Br.kidN; rw [b0, b1]; rfl
      rw [e]
      clear h0 h1 e
      go_enter Tryd.func37, Tryd.ntmps37
      go_wp2_with fail
      go_ret
      exact ⟨rfl, rfl⟩
  · have b0 : decide (1 ≤ n) = false := by simpa using h0
    have e : Br.kidN n = false := by unfold Br.kidN; rw [b0]; rfl
    rw [e]
    clear h0 e
    go_enter Tryd.func37, Tryd.ntmps37
    go_wp2_with fail
    go_ret
    exact ⟨rfl, rfl⟩

theorem Br.byte_at (s : ByteArray) (k : Nat) (h : k < s.size) : s.data.toList[k]'(by simpa using h) = s[k] := rfl
theorem Br.ok_kid (b : UInt8) : Br.kidN (wrap64 (b.toNat : Int)) = Br.okB b := by
  have e : wrap64 (b.toNat : Int) = (b.toNat : Int) := by
    have := UInt8.toNat_lt b
    rw [wrap64]
    omega
  rw [e]
  unfold Br.kidN Br.okB
  rw [Bool.eq_iff_iff]
  simp
  omega

set_option maxHeartbeats 400000 in
theorem bmay (s : ByteArray) (w : World) (hs : s.size ≤ 1000000) : Calls Tryd.prog 23 #[.string s] w fun e w' => e = .returned (.bool (Br.may s)) ∧ w = w' := by
  by_cases hl : s.size ≤ 12
  · have b0 : decide ((12 : Int) < (s.size : Int)) = false := decide_eq_false (by omega)
    have b1 : ¬ ((12 : Int) < (s.size : Int)) := by omega
    go_enter Tryd.func23, Tryd.ntmps23
    go_wp2_with fail
    go_loop [9] (fun i => ∃ k : Nat, k ≤ s.size ∧ i = .int .i64 k ∧ Hid (∀ b ∈ s.data.toList.take k, Br.okB b = true)) (fun i => s.size - (intOf i).toNat)
    case atStart => exact ⟨0, Nat.zero_le _, rfl, fun b hb => by simp at hb⟩
    case round =>
      obtain ⟨k, hk, rfl, HN⟩ := hrel
      by_cases hlt : k < s.size
      · have k0 : (0 : Int) ≤ (k : Int) := by omega
        have k1 : (k : Int) < (s.size : Int) := by omega
        have HT : Hid (s.data.toList.take (k + 1) = s.data.toList.take k ++ [s[k]]) := by
          show _ = _
          rw [List.take_succ_eq_append_getElem (by simpa using hlt), Br.byte_at s k hlt]
        have HI := Lib.hid (biskid (wrap64 (s[k].toNat : Int)) w)
        cases he : Br.okB s[k] with
        | true =>
          have HC := HI.out
          rw [Br.ok_kid, he] at HC
          have HC := Lib.hid HC
          have HE := Lib.hid he
          clear he HI
          go_wp2_with fail
          with_reducible refine HC.out.mono ?_
          rintro e w1 ⟨rfl, rfl⟩
          go_wp2_with fail
          go_round
          case rel => exact ⟨k + 1, by omega, by go_num, fun b hb => by
            rw [HT.out, List.mem_append, List.mem_singleton] at hb
            rcases hb with hb | rfl
            · exact HN.out b hb
            · exact HE.out⟩
          case measure => simp [intOf]; omega
        | false =>
          have HC := HI.out
          rw [Br.ok_kid, he] at HC
          have HC := Lib.hid HC
          have HD : Hid (Br.may s = false) := by
            show _ = _
            rw [← Bool.not_eq_true]
            intro h
            have := (Br.mayL_iff.1 h).2 s[k] (by
              have : s[k] ∈ s.data.toList.take (k + 1) := by rw [HT.out]; simp
              exact List.mem_of_mem_take this)
            rw [he] at this
            cases this
          clear he HI
          go_wp2_with fail
          with_reducible refine HC.out.mono ?_
          rintro e w1 ⟨rfl, rfl⟩
          go_wp2_with fail
          go_ret
          exact ⟨by rw [HD.out]; rfl, rfl⟩
      · have k1 : ¬ ((k : Int) < (s.size : Int)) := by omega
        have HD : Hid (Br.may s = true) := by
          show _ = _
          refine Br.mayL_iff.2 ⟨by rw [Br.len_list]; exact hl, fun b hb => HN.out b ?_⟩
          rw [List.take_of_length_le (by rw [Br.len_list]; omega)]
          exact hb
        go_wp2_with fail
        go_ret
        exact ⟨by rw [HD.out]; rfl, rfl⟩
  · have b0 : decide ((12 : Int) < (s.size : Int)) = true := decide_eq_true (by omega)
    have b1 : (12 : Int) < (s.size : Int) := by omega
    have HD : Hid (Br.may s = false) := by
      show _ = _
      rw [← Bool.not_eq_true]
      intro h
      exact hl (Br.may_size h)
    clear hl
    go_enter Tryd.func23, Tryd.ntmps23
    go_wp2_with fail
    go_ret
    exact ⟨by rw [HD.out]; rfl, rfl⟩

theorem bMay (s : ByteArray) (w : World) (hs : s.size ≤ 1000000) : Calls Tryd.prog 17 #[.string s] w fun e w' => e = .returned (.bool (Br.may s)) ∧ w = w' := by
  have HC := Lib.hid (bmay s w hs)
  go_enter Tryd.func17, Tryd.ntmps17
  go_wp2_with fail
  refine HC.out.mono ?_
  rintro e w1 ⟨rfl, rfl⟩
  go_wp2_with fail
  go_ret
  exact ⟨rfl, rfl⟩

theorem bisnan (s : ByteArray) (w : World) : Calls Tryd.prog 36 #[.string s] w fun e w' => e = .returned (.bool false) ∧ w = w' := by
  have h2 : ((s.toList == s.toList) : Bool) = true := by simp
  go_enter Tryd.func36, Tryd.ntmps36
  go_wp2_with fail
  go_ret
  exact ⟨by first | rfl | (simp only [*]; rfl), rfl⟩
theorem Br.less_eq (x y : ByteArray) : Op.bytesLess x.toList y.toList = decide (x.data.toList < y.data.toList) := by
  rw [bytesLess_eq, Lib.toList_data, Lib.toList_data]
theorem bcmp (a b : ByteArray) (w : World) : Calls Tryd.prog 22 #[.string a, .string b] w fun e w' => e = .returned (.int .i64 (Br.cmpR a b)) ∧ w = w' := by
  obtain ⟨c1, c2, c3⟩ := Br.cmp_bytes a.data.toList b.data.toList
  have hl := Br.less_eq a b
  unfold Br.cmpR
  by_cases h1 : a.data.toList < b.data.toList
  · have d1 : Op.bytesLess a.toList b.toList = true := by rw [hl]; simpa using h1
    have e : Lib.compareBytes a.data.toList b.data.toList = -1 := by
      have := c1.2 h1
      omega
    rw [e]
    clear c1 c2 c3 hl h1 e
    go_enter Tryd.func22, Tryd.ntmps22
    go_wp2_with (go_at_call 36; refine (bisnan _ _).mono ?_; rintro e w' ⟨rfl, rfl⟩)
    go_ret
    exact ⟨rfl, rfl⟩
  · have d1 : Op.bytesLess a.toList b.toList = false := by rw [hl]; simpa using h1
    by_cases h2 : a.data.toList = b.data.toList
    · have d2 : (a.toList == b.toList) = true := by rw [Lib.toList_data, Lib.toList_data]; simpa using h2
      have e : Lib.compareBytes a.data.toList b.data.toList = 0 := c2.2 h2
      rw [e]
      clear c1 c2 c3 hl h1 h2 e
      go_enter Tryd.func22, Tryd.ntmps22
      go_wp2_with (go_at_call 36; refine (bisnan _ _).mono ?_; rintro e w' ⟨rfl, rfl⟩)
      go_ret
      exact ⟨rfl, rfl⟩
    · have d2 : (a.toList == b.toList) = false := by rw [Lib.toList_data, Lib.toList_data]; simpa using h2
      have e : Lib.compareBytes a.data.toList b.data.toList = 1 := by
        have a1 : ¬ Lib.compareBytes a.data.toList b.data.toList < 0 := fun h => h1 (c1.1 h)
        have a2 : ¬ Lib.compareBytes a.data.toList b.data.toList = 0 := fun h => h2 (c2.1 h)
        omega
      rw [e]
      clear c1 c2 c3 hl h1 h2 e
      go_enter Tryd.func22, Tryd.ntmps22
      go_wp2_with (go_at_call 36; refine (bisnan _ _).mono ?_; rintro e w' ⟨rfl, rfl⟩)
      go_ret
      exact ⟨rfl, rfl⟩
theorem bcompare (a b : ByteArray) (w : World) : Calls Tryd.prog 15 #[.string a, .string b] w fun e w' => e = .returned (.int .i64 (Br.cmpR a b)) ∧ w = w' := by
  have HC := Lib.hid (bcmp a b w)
  generalize Br.cmpR a b = r at HC ⊢
  go_enter Tryd.func15, Tryd.ntmps15
  go_wp2_with fail
  refine HC.out.mono ?_
  rintro e w1 ⟨rfl, rfl⟩
  go_wp2_with fail
  go_ret
  exact ⟨rfl, rfl⟩
theorem bCompare (a b : ByteArray) (w : World) : Calls Tryd.prog 8 #[.string a, .string b] w fun e w' => e = .returned (.int .i64 (Br.cmpR a b)) ∧ w = w' := by
  have HC := Lib.hid (bcompare a b w)
  generalize Br.cmpR a b = r at HC ⊢
  go_enter Tryd.func8, Tryd.ntmps8
  go_wp2_with fail
  refine HC.out.mono ?_
  rintro e w1 ⟨rfl, rfl⟩
  go_wp2_with fail
  go_ret
  exact ⟨rfl, rfl⟩
end Go.Proofs.YtnlhacgihmelhaaDoor
end

section
namespace Go.Proofs.YtnlhacgihmelhaaDoor
open Go.RowKit

theorem Br.pre_size {s p : ByteArray} (h : Br.pre p.data.toList s.data.toList = true) : p.size ≤ s.size := by
  obtain ⟨c, h⟩ := Br.pre_iff.1 h
  have := congrArg List.length h
  rw [List.length_append, Br.len_list, Br.len_list] at this
  omega
theorem Br.pre_take {s p : ByteArray} (_h : p.size ≤ s.size) : ((s.extract 0 p.size).toList == p.toList) = Br.pre p.data.toList s.data.toList := by
  rw [Bool.eq_iff_iff, Br.pre_iff, beq_iff_eq, Lib.toList_data, Lib.toList_data, Lib.extract_data]
  simp only [List.drop_zero, Nat.sub_zero]
  constructor
  · intro h2
    exact ⟨s.data.toList.drop p.size, by rw [← h2]; simp⟩
  · rintro ⟨c, h2⟩
    rw [h2, ← Br.len_list p, List.take_left']
    rfl
theorem bprefix0 (s p : ByteArray) (w : World) (_hs : s.size ≤ 1000000) (_hp : p.size ≤ 1000000) : Calls Tryd.prog 24 #[.string s, .string p] w fun e w' => e = .returned (.bool (Br.pre p.data.toList s.data.toList)) ∧ w = w' := by
  by_cases h : p.size ≤ s.size
  · have e := Br.pre_take h
    have d1 : decide ((p.size : Int) ≤ (s.size : Int)) = true := decide_eq_true (by omega)
    have n1 : (p.size : Int) ≤ (s.size : Int) := by omega
    cases hc : Br.pre p.data.toList s.data.toList with
    | true =>
      rw [hc] at e
      clear hc
      go_enter Tryd.func24, Tryd.ntmps24
      go_wp2_with fail
      go_ret
      exact ⟨rfl, rfl⟩
    | false =>
      rw [hc] at e
      clear hc
      go_enter Tryd.func24, Tryd.ntmps24
      go_wp2_with fail
      go_ret
      exact ⟨rfl, rfl⟩
  · have d1 : decide ((p.size : Int) ≤ (s.size : Int)) = false := decide_eq_false (by omega)
    have e : Br.pre p.data.toList s.data.toList = false := by
      rw [← Bool.not_eq_true]
      exact fun h2 => h (Br.pre_size h2)
    rw [e]
    have n1 : ¬ ((p.size : Int) ≤ (s.size : Int)) := by omega
    clear h e
    go_enter Tryd.func24, Tryd.ntmps24
    go_wp2_with fail
    go_ret
    exact ⟨rfl, rfl⟩
theorem bprefix (s p : ByteArray) (w : World) (hs : s.size ≤ 1000000) (hp : p.size ≤ 1000000) : Calls Tryd.prog 18 #[.string s, .string p] w fun e w' => e = .returned (.bool (Br.pre p.data.toList s.data.toList)) ∧ w = w' := by
  have HC := Lib.hid (bprefix0 s p w hs hp)
  generalize Br.pre p.data.toList s.data.toList = r at HC ⊢
  go_enter Tryd.func18, Tryd.ntmps18
  go_wp2_with fail
  refine HC.out.mono ?_
  rintro e w1 ⟨rfl, rfl⟩
  go_wp2_with fail
  go_ret
  exact ⟨rfl, rfl⟩
end Go.Proofs.YtnlhacgihmelhaaDoor
end

section
namespace Go.Proofs.YtnlhacgihmelhaaDoor
open Go.RowKit

theorem Br.nil_extract (s : ByteArray) : s.extract 0 0 = ⟨#[]⟩ := by
  apply ByteArray.ext
  simp
theorem Br.byte_wrap (b : UInt8) : wrap64 (b.toNat : Int) = (b.toNat : Int) := by
  have := UInt8.toNat_lt b
  rw [wrap64]
  omega
theorem bUnder (s r : ByteArray) (w : World) (hs : s.size ≤ 1000000) (hr : r.size ≤ 1000000) : Calls Tryd.prog 10 #[.string s, .string r] w fun e w' => e = .returned (.bool (Br.under s r)) ∧ w = w' := by
  have HM := bMay s w hs
  have HP := Lib.hid (bprefix s r w hs hr)
  unfold Br.under
  generalize Br.pre r.data.toList s.data.toList = q at HP ⊢
  cases hm : Br.may s with
  | true =>
    rw [hm] at HM
    have HM := Lib.hid HM
    clear hm
    go_enter Tryd.func10, Tryd.ntmps10
    go_wp2_with fail
    refine HM.out.mono ?_
    rintro e w1 ⟨rfl, rfl⟩
    go_wp2_with fail
    refine HP.out.mono ?_
    rintro e w1 ⟨rfl, rfl⟩
    go_wp2_with fail
    go_ret
    exact ⟨by simp, rfl⟩
  | false =>
    rw [hm] at HM
    have HM := Lib.hid HM
    clear hm
    go_enter Tryd.func10, Tryd.ntmps10
    go_wp2_with fail
    refine HM.out.mono ?_
    rintro e w1 ⟨rfl, rfl⟩
    go_wp2_with fail
    go_ret
    exact ⟨by simp, rfl⟩
theorem Br.conv1 (w : World) (n : Int) (b : UInt8) (h : n % 256 = (b.toNat : Int)) :
    (convert 131 9 (.slice (some ⟨w.heap.size, 0, none⟩) 1 1)).run Tryd.prog (w.alloc (.cells #[.int .u8 (n % 256)] 5)) = .ok (.string ⟨#[b]⟩) (w.alloc (.cells #[.int .u8 (n % 256)] 5)) := by
  rw [h]
  exact run_convert_bytes_back (P := Tryd.prog) (w.alloc (.cells #[.int .u8 (b.toNat : Int)] 5)) 131 9 5 ⟨w.heap.size, 0, none⟩ 1 [b] Tryd.underlying131 Tryd.underlying5 Tryd.underlying9 (fun j hj => by
    rw [Addr.add_mid, cell_of_row _ _ _ _ _ _ (heap_alloc_new w _)]
    have hj' : j = 0 := by simp at hj; omega
    subst hj'
    rfl)
theorem Br.byte_of {n : Int} (h : 1 ≤ n ∧ n ≤ 16) : n % 256 = ((UInt8.ofNat n.toNat).toNat : Int) := by
  rw [UInt8.toNat_ofNat']
  omega
set_option maxHeartbeats 800000 in
theorem bKid (s : ByteArray) (n : Int) (w : World) (hs : s.size ≤ 1000000) (_hn : -9223372036854775808 ≤ n ∧ n ≤ 9223372036854775807) : Calls Tryd.prog 57 #[.string s, .int .i64 n] w fun e w' => e = .returned (.tuple #[.string (Br.kidT s n), .bool (Br.kidOk s n)]) ∧ Below w.heap.size w w' := by
  have HM := bMay s w hs
  have HI := biskid n w
  cases hm : Br.may s with
  | false =>
    have e1 : Br.kidOk s n = false := by unfold Br.kidOk; rw [hm]; rfl
    have e2 : Br.kidT s n = ⟨#[]⟩ := by unfold Br.kidT; rw [e1]; rfl
    rw [e1, e2]
    rw [hm] at HM
    have HM := Lib.hid HM
    clear hm e1 e2 HI
    go_enter Tryd.func57, Tryd.ntmps57
    go_wp2_with fail
    refine HM.out.mono ?_
    rintro e w1 ⟨rfl, rfl⟩
    go_wp2_with fail
    refine bodyPost_ret (results_tmp2 rfl _ _ _) rfl ?_
    exact ⟨rfl, Below.refl _ _⟩
  | true =>
    cases hk : Br.kidN n with
    | false =>
      have e1 : Br.kidOk s n = false := by unfold Br.kidOk; rw [hm, hk]; rfl
      have e2 : Br.kidT s n = ⟨#[]⟩ := by unfold Br.kidT; rw [e1]; rfl
      rw [e1, e2]
      rw [hm] at HM
      rw [hk] at HI
      have HM := Lib.hid HM
      have HI := Lib.hid HI
      clear hm e1 e2 hk
      go_enter Tryd.func57, Tryd.ntmps57
      go_wp2_with fail
      refine HM.out.mono ?_
      rintro e w1 ⟨rfl, rfl⟩
      go_wp2_with fail
      refine HI.out.mono ?_
      rintro e w1 ⟨rfl, rfl⟩
      go_wp2_with fail
      refine bodyPost_ret (results_tmp2 rfl _ _ _) rfl ?_
      exact ⟨rfl, Below.refl _ _⟩
    | true =>
      by_cases h12 : s.size = 12
      · have e1 : Br.kidOk s n = false := by unfold Br.kidOk; rw [hm, hk, decide_eq_true h12]; rfl
        have e2 : Br.kidT s n = ⟨#[]⟩ := by unfold Br.kidT; rw [e1]; rfl
        have d12 : ((s.size : Int) == 12) = true := by rw [beq_iff_eq]; omega
        rw [e1, e2]
        rw [hm] at HM
        rw [hk] at HI
        have HM := Lib.hid HM
        have HI := Lib.hid HI
        clear hm e1 e2 hk h12
        go_enter Tryd.func57, Tryd.ntmps57
        go_wp2_with fail
        refine HM.out.mono ?_
        rintro e w1 ⟨rfl, rfl⟩
        go_wp2_with fail
        refine HI.out.mono ?_
        rintro e w1 ⟨rfl, rfl⟩
        go_wp2_with fail
        refine bodyPost_ret (results_tmp2 rfl _ _ _) rfl ?_
        exact ⟨rfl, Below.refl _ _⟩
      · have e1 : Br.kidOk s n = true := by unfold Br.kidOk; rw [hm, hk, decide_eq_false h12]; rfl
        have e2 : Br.kidT s n = s ++ ⟨#[UInt8.ofNat n.toNat]⟩ := by unfold Br.kidT; rw [e1]; rfl
        have d12 : ((s.size : Int) == 12) = false := by rw [beq_eq_false_iff_ne]; omega
        rw [e1]
        obtain ⟨b, hb⟩ : ∃ b : UInt8, b = UInt8.ofNat n.toNat := ⟨_, rfl⟩
        rw [← hb] at e2
        have HE := Lib.hid e2
        have hcv := Br.conv1 w n b (by rw [hb]; exact Br.byte_of (by unfold Br.kidN at hk; rw [Bool.and_eq_true, decide_eq_true_iff, decide_eq_true_iff] at hk; omega))
        have hsz : s.size + 1 ≤ maxLen := by unfold maxLen; omega
        rw [hm] at HM
        rw [hk] at HI
        have HM := Lib.hid HM
        have HI := Lib.hid HI
        clear hm e1 e2 hk h12 hb
        go_enter Tryd.func57, Tryd.ntmps57
        go_wp2_with fail
        refine HM.out.mono ?_
        rintro e w1 ⟨rfl, rfl⟩
        go_wp2_with fail
        refine HI.out.mono ?_
        rintro e w1 ⟨rfl, rfl⟩
        go_wp2_with fail
        refine bodyPost_ret (results_tmp2 rfl _ _ _) rfl ?_
        exact ⟨by rw [HE.out]; rfl, (Below.refl _ _).alloc (Nat.le_refl _) _⟩

end Go.Proofs.YtnlhacgihmelhaaDoor
end
