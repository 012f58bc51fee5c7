/-
  Contracts of branch's isKid, may, May, last, compare, Compare.
  strings.Clone, strings.HasPrefix.
  Contracts of branch's text, Parent, Last, Kid, Under, both, Common.
  The document's May, Parent, Last, Kid, Under, Compare, Common (layer 12).
  The document's Kid, Under, Compare, Common (layer 12).
-/
import Derived.Test.YtepnofklmdofmaaGreatDoorBrM
import Derived.Laws.Unary
import Derived.Sort.Walk0
import Derived.WalkKit
import Derived.WalkSpells
import Derived.WalkLawsBesides
import Derived.WalkSmall
import Derived.Lib.Strings
import Derived.Lib.Slices
import Derived.Lib.Small
import Derived.Lib.Walk
import Derived.Deep.OwnRows
import Derived.Deep.AppendLies
import Derived.Deep.DeepCutAuto
import Derived.Deep.CutBlock
import Derived.Deep.RegionHeld3
import Derived.BigRegion
import Derived.ProofKit
import Derived.Laws.Cover1
import Derived.StillTailTactics
import Derived.BigQuiet
import Derived.Test.YtepnofklmdofmaaGreatDoorLowOpen
import Derived.Lib.ConvBytes
section
namespace Go.Proofs.YtepnofklmdofmaaGreatDoor
open Go.RowKit

set_option maxHeartbeats 400000 in
theorem biskid (n : Int) (w : World) : Calls Tryz.prog 93 #[.int .i64 n] w fun e w' => e = .returned (.bool (Br.kidN n)) ∧ w = w' := by
  by_cases h0 : 1 ≤ n
  · have b0 : decide (1 ≤ n) = true := by simpa using h0
    by_cases h1 : n ≤ 16
    · have b1 : decide (n ≤ 16) = true := by simpa using h1
      have e : Br.kidN n = true := by unfold Br.kidN; rw [b0, b1]; rfl
      rw [e]
      clear h0 h1 e
      go_enter Tryz.func93, Tryz.ntmps93
      go_wp2_with fail
      go_ret
      exact ⟨rfl, rfl⟩
    · have b1 : decide (n ≤ 16) = false := by simpa using h1
      have e : Br.kidN n = false := by unfold Br.kidN; rw [b0, b1]; rfl
      rw [e]
      clear h0 h1 e
      go_enter Tryz.func93, Tryz.ntmps93
      go_wp2_with fail
      go_ret
      exact ⟨rfl, rfl⟩
  · have b0 : decide (1 ≤ n) = false := by simpa using h0
    have e : Br.kidN n = false := by unfold Br.kidN; rw [b0]; rfl
    rw [e]
    clear h0 e
    go_enter Tryz.func93, Tryz.ntmps93
    go_wp2_with fail
    go_ret
    exact ⟨rfl, rfl⟩

theorem Br.byte_at (s : ByteArray) (k : Nat) (h : k < s.size) : s.data.toList[k]'(by simpa using h) = s[k] := rfl
theorem Br.ok_kid (b : UInt8) : Br.kidN (wrap64 (b.toNat : Int)) = Br.okB b := by
  have e : wrap64 (b.toNat : Int) = (b.toNat : Int) := by
    have := UInt8.toNat_lt b
    rw [wrap64]
    omega
  rw [e]
  unfold Br.kidN Br.okB
  rw [Bool.eq_iff_iff]
  simp
  omega

set_option maxHeartbeats 400000 in
theorem bmay (s : ByteArray) (w : World) (hs : s.size ≤ 1000000) : Calls Tryz.prog 59 #[.string s] w fun e w' => e = .returned (.bool (Br.may s)) ∧ w = w' := by
  by_cases hl : s.size ≤ 12
  · have b0 : decide ((12 : Int) < (s.size : Int)) = false := decide_eq_false (by omega)
    have b1 : ¬ ((12 : Int) < (s.size : Int)) := by omega
    go_enter Tryz.func59, Tryz.ntmps59
    go_wp2_with fail
    go_loop [9] (fun i => ∃ k : Nat, k ≤ s.size ∧ i = .int .i64 k ∧ Hid (∀ b ∈ s.data.toList.take k, Br.okB b = true)) (fun i => s.size - (intOf i).toNat)
    case atStart => exact ⟨0, Nat.zero_le _, rfl, fun b hb => by simp at hb⟩
    case round =>
      obtain ⟨k, hk, rfl, HN⟩ := hrel
      by_cases hlt : k < s.size
      · have k0 : (0 : Int) ≤ (k : Int) := by omega
        have k1 : (k : Int) < (s.size : Int) := by omega
        have HT : Hid (s.data.toList.take (k + 1) = s.data.toList.take k ++ [s[k]]) := by
          show _ = _
          rw [List.take_succ_eq_append_getElem (by simpa using hlt), Br.byte_at s k hlt]
        have HI := Lib.hid (biskid (wrap64 (s[k].toNat : Int)) w)
        cases he : Br.okB s[k] with
        | true =>
          have HC := HI.out
          rw [Br.ok_kid, he] at HC
          have HC := Lib.hid HC
          have HE := Lib.hid he
          clear he HI
          go_wp2_with fail
          with_reducible refine HC.out.mono ?_
          rintro e w1 ⟨rfl, rfl⟩
          go_wp2_with fail
          go_round
          case rel => exact ⟨k + 1, by omega, by go_num, fun b hb => by
            rw [HT.out, List.mem_append, List.mem_singleton] at hb
            rcases hb with hb | rfl
            · exact HN.out b hb
            · exact HE.out⟩
          case measure => simp [intOf]; omega
        | false =>
          have HC := HI.out
          rw [Br.ok_kid, he] at HC
          have HC := Lib.hid HC
          have HD : Hid (Br.may s = false) := by
            show _ = _
            rw [← Bool.not_eq_true]
            intro h
            have := (Br.mayL_iff.1 h).2 s[k] (by
              have : s[k] ∈ s.data.toList.take (k + 1) := by rw [HT.out]; simp
              exact List.mem_of_mem_take this)
            rw [he] at this
            cases this
          clear he HI
          go_wp2_with fail
          with_reducible refine HC.out.mono ?_
          rintro e w1 ⟨rfl, rfl⟩
          go_wp2_with fail
          go_ret
          exact ⟨by rw [HD.out]; rfl, rfl⟩
      · have k1 : ¬ ((k : Int) < (s.size : Int)) := by omega
        have HD : Hid (Br.may s = true) := by
          show _ = _
          refine Br.mayL_iff.2 ⟨by rw [Br.len_list]; exact hl, fun b hb => HN.out b ?_⟩
          rw [List.take_of_length_le (by rw [Br.len_list]; omega)]
          exact hb
        go_wp2_with fail
        go_ret
        exact ⟨by rw [HD.out]; rfl, rfl⟩
  · have b0 : decide ((12 : Int) < (s.size : Int)) = true := decide_eq_true (by omega)
    have b1 : (12 : Int) < (s.size : Int) := by omega
    have HD : Hid (Br.may s = false) := by
      show _ = _
      rw [← Bool.not_eq_true]
      intro h
      exact hl (Br.may_size h)
    clear hl
    go_enter Tryz.func59, Tryz.ntmps59
    go_wp2_with fail
    go_ret
    exact ⟨by rw [HD.out]; rfl, rfl⟩

theorem bMay (s : ByteArray) (w : World) (hs : s.size ≤ 1000000) : Calls Tryz.prog 40 #[.string s] w fun e w' => e = .returned (.bool (Br.may s)) ∧ w = w' := by
  have HC := Lib.hid (bmay s w hs)
  go_enter Tryz.func40, Tryz.ntmps40
  go_wp2_with fail
  refine HC.out.mono ?_
  rintro e w1 ⟨rfl, rfl⟩
  go_wp2_with fail
  go_ret
  exact ⟨rfl, rfl⟩

/-- Where the last byte stands. -/
theorem blast (s : ByteArray) (w : World) (hs : s.size ≤ 1000000) : Calls Tryz.prog 69 #[.string s] w fun e w' => e = .returned (.tuple #[.int .i64 (if Br.kidP s then ((s.size - 1 : Nat) : Int) else 0), .bool (Br.kidP s)]) ∧ w = w' := by
  have HC := bmay s w hs
  by_cases h0 : s.size = 0
  · have e : s = ⟨#[]⟩ := by
      apply ByteArray.ext
      exact Array.eq_empty_of_size_eq_zero h0
    have e2 : Br.kidP s = false := by unfold Br.kidP; rw [decide_eq_true h0]; rfl
    rw [e2]
    clear e2 HC h0 hs
    subst e
    go_enter Tryz.func69, Tryz.ntmps69
    go_wp2_with fail
    refine bodyPost_ret (results_tmp2 rfl _ _ _) rfl ?_
    exact ⟨rfl, rfl⟩
  · have hne : (s.toList == []) = false := by
      rw [beq_eq_false_iff_ne]
      intro h
      have := congrArg List.length h
      rw [Lib.toList_data, Br.len_list] at this
      exact h0 this
    have h1 : ((s.size - 1 : Nat) : Int) = (s.size : Int) - 1 := by omega
    cases hm : Br.may s with
    | true =>
      have e2 : Br.kidP s = true := by unfold Br.kidP; rw [decide_eq_false h0, hm]; rfl
      rw [e2, h1]
      rw [hm] at HC
      have HC := Lib.hid HC
      clear hm e2 h1
      go_enter Tryz.func69, Tryz.ntmps69
      go_wp2_with fail
      refine HC.out.mono ?_
      rintro e w1 ⟨rfl, rfl⟩
      go_wp2_with fail
      refine bodyPost_ret (results_tmp2 rfl _ _ _) rfl ?_
      exact ⟨by simp, rfl⟩
    | false =>
      have e2 : Br.kidP s = false := by unfold Br.kidP; rw [hm]; simp
      rw [e2]
      rw [hm] at HC
      have HC := Lib.hid HC
      clear hm e2 h1
      go_enter Tryz.func69, Tryz.ntmps69
      go_wp2_with fail
      refine HC.out.mono ?_
      rintro e w1 ⟨rfl, rfl⟩
      go_wp2_with fail
      refine bodyPost_ret (results_tmp2 rfl _ _ _) rfl ?_
      exact ⟨rfl, rfl⟩

theorem bisnan (s : ByteArray) (w : World) : Calls Tryz.prog 126 #[.string s] w fun e w' => e = .returned (.bool false) ∧ w = w' := by
  have h2 : ((s.toList == s.toList) : Bool) = true := by simp
  go_enter Tryz.func126, Tryz.ntmps126
  go_wp2_with fail
  go_ret
  exact ⟨by first | rfl | (simp only [*]; rfl), rfl⟩
theorem Br.less_eq (x y : ByteArray) : Op.bytesLess x.toList y.toList = decide (x.data.toList < y.data.toList) := by
  rw [bytesLess_eq, Lib.toList_data, Lib.toList_data]
theorem bcmp (a b : ByteArray) (w : World) : Calls Tryz.prog 101 #[.string a, .string b] w fun e w' => e = .returned (.int .i64 (Br.cmpR a b)) ∧ w = w' := by
  obtain ⟨c1, c2, c3⟩ := Br.cmp_bytes a.data.toList b.data.toList
  have hl := Br.less_eq a b
  unfold Br.cmpR
  by_cases h1 : a.data.toList < b.data.toList
  · have d1 : Op.bytesLess a.toList b.toList = true := by rw [hl]; simpa using h1
    have e : Lib.compareBytes a.data.toList b.data.toList = -1 := by
      have := c1.2 h1
      omega
    rw [e]
    clear c1 c2 c3 hl h1 e
    go_enter Tryz.func101, Tryz.ntmps101
    go_wp2_with (go_at_call 126; refine (bisnan _ _).mono ?_; rintro e w' ⟨rfl, rfl⟩)
    go_ret
    exact ⟨rfl, rfl⟩
  · have d1 : Op.bytesLess a.toList b.toList = false := by rw [hl]; simpa using h1
    by_cases h2 : a.data.toList = b.data.toList
    · have d2 : (a.toList == b.toList) = true := by rw [Lib.toList_data, Lib.toList_data]; simpa using h2
      have e : Lib.compareBytes a.data.toList b.data.toList = 0 := c2.2 h2
      rw [e]
      clear c1 c2 c3 hl h1 h2 e
      go_enter Tryz.func101, Tryz.ntmps101
      go_wp2_with (go_at_call 126; refine (bisnan _ _).mono ?_; rintro e w' ⟨rfl, rfl⟩)
      go_ret
      exact ⟨rfl, rfl⟩
    · have d2 : (a.toList == b.toList) = false := by rw [Lib.toList_data, Lib.toList_data]; simpa using h2
      have e : Lib.compareBytes a.data.toList b.data.toList = 1 := by
        have a1 : ¬ Lib.compareBytes a.data.toList b.data.toList < 0 := fun h => h1 (c1.1 h)
        have a2 : ¬ Lib.compareBytes a.data.toList b.data.toList = 0 := fun h => h2 (c2.1 h)
        omega
      rw [e]
      clear c1 c2 c3 hl h1 h2 e
      go_enter Tryz.func101, Tryz.ntmps101
      go_wp2_with (go_at_call 126; refine (bisnan _ _).mono ?_; rintro e w' ⟨rfl, rfl⟩)
      go_ret
      exact ⟨rfl, rfl⟩
theorem bcompare (a b : ByteArray) (w : World) : Calls Tryz.prog 71 #[.string a, .string b] w fun e w' => e = .returned (.int .i64 (Br.cmpR a b)) ∧ w = w' := by
  have HC := Lib.hid (bcmp a b w)
  generalize Br.cmpR a b = r at HC ⊢
  go_enter Tryz.func71, Tryz.ntmps71
  go_wp2_with fail
  refine HC.out.mono ?_
  rintro e w1 ⟨rfl, rfl⟩
  go_wp2_with fail
  go_ret
  exact ⟨rfl, rfl⟩
end Go.Proofs.YtepnofklmdofmaaGreatDoor
end

section
namespace Go.Proofs.YtepnofklmdofmaaGreatDoor
open Go.RowKit

theorem bclone (s : ByteArray) (w : World) (hlim : s.size ≤ 281474976710656) :
    Calls Tryz.prog 68 #[.string s] w fun e w' => e = .returned (.string s) ∧ Below w.heap.size w w' := by
  have HC : Hid (∀ w, Calls Tryz.prog 98 #[.string s] w fun e w' => e = .returned (.string s) ∧ Below w.heap.size w w') := fun w => Sh.stringslite_Clone s w hlim
  clear hlim
  go_enter Tryz.func68, Tryz.ntmps68
  go_wp2_with fail
  refine (HC.out _).mono ?_
  rintro e w' ⟨rfl, hb⟩
  have HB := Lib.hid hb
  clear hb
  go_wp2_with fail
  go_ret
  exact ⟨rfl, HB.out⟩
theorem Br.pre_size {s p : ByteArray} (h : Br.pre p.data.toList s.data.toList = true) : p.size ≤ s.size := by
  obtain ⟨c, h⟩ := Br.pre_iff.1 h
  have := congrArg List.length h
  rw [List.length_append, Br.len_list, Br.len_list] at this
  omega
theorem Br.pre_take {s p : ByteArray} (_h : p.size ≤ s.size) : ((s.extract 0 p.size).toList == p.toList) = Br.pre p.data.toList s.data.toList := by
  rw [Bool.eq_iff_iff, Br.pre_iff, beq_iff_eq, Lib.toList_data, Lib.toList_data, Lib.extract_data]
  simp only [List.drop_zero, Nat.sub_zero]
  constructor
  · intro h2
    exact ⟨s.data.toList.drop p.size, by rw [← h2]; simp⟩
  · rintro ⟨c, h2⟩
    rw [h2, ← Br.len_list p, List.take_left']
    rfl
end Go.Proofs.YtepnofklmdofmaaGreatDoor
end

section
namespace Go.Proofs.YtepnofklmdofmaaGreatDoor
open Go.RowKit

theorem btext (s : ByteArray) (w : World) (hs : s.size ≤ 1000000) : Calls Tryz.prog 72 #[.string s] w fun e w' => e = .returned (.string s) ∧ Below w.heap.size w w' := by
  have HC := Lib.hid (bclone s w (by omega))
  go_enter Tryz.func72, Tryz.ntmps72
  go_wp2_with fail
  refine HC.out.mono ?_
  rintro e w1 ⟨rfl, hb⟩
  have HB := Lib.hid hb
  clear hb
  go_wp2_with fail
  go_ret
  exact ⟨rfl, HB.out⟩
theorem Br.nil_extract (s : ByteArray) : s.extract 0 0 = ⟨#[]⟩ := by
  apply ByteArray.ext
  simp
theorem Br.byte_wrap (b : UInt8) : wrap64 (b.toNat : Int) = (b.toNat : Int) := by
  have := UInt8.toNat_lt b
  rw [wrap64]
  omega
theorem bLast (s : ByteArray) (w : World) (hs : s.size ≤ 1000000) : Calls Tryz.prog 49 #[.string s] w fun e w' => e = .returned (.int .i64 (Br.lastN s)) ∧ w = w' := by
  have HL := blast s w hs
  unfold Br.lastN
  cases hk : Br.kidP s with
  | true =>
    have h0 : s.size ≠ 0 := by
      intro h
      unfold Br.kidP at hk
      rw [decide_eq_true h] at hk
      simp at hk
    obtain ⟨n, hn⟩ : ∃ n, s.size - 1 = n := ⟨_, rfl⟩
    rw [hk, if_pos rfl, hn] at HL
    have n0 : (0 : Int) ≤ (n : Int) := by omega
    have n1 : (n : Int) < (s.size : Int) := by omega
    have hlt : n < s.size := by omega
    have HE : Hid (wrap64 (s[n].toNat : Int) = if true = true then ((s.data.toList[s.size - 1]?.getD 0).toNat : Int) else 0) := by
      show _ = _
      rw [if_pos rfl, hn, List.getElem?_eq_getElem (by simpa using hlt), Option.getD_some, Br.byte_wrap]
      rfl
    generalize (if true = true then ((s.data.toList[s.size - 1]?.getD 0).toNat : Int) else 0) = V at HE ⊢
    have HL := Lib.hid HL
    clear hk h0 hn
    go_enter Tryz.func49, Tryz.ntmps49
    go_wp2_with fail
    refine HL.out.mono ?_
    rintro e w1 ⟨rfl, rfl⟩
    go_wp2_with fail
    go_ret
    exact ⟨by rw [← HE.out]; rfl, rfl⟩
  | false =>
    rw [hk] at HL
    have HL := Lib.hid HL
    clear hk
    go_enter Tryz.func49, Tryz.ntmps49
    go_wp2_with fail
    refine HL.out.mono ?_
    rintro e w1 ⟨rfl, rfl⟩
    go_wp2_with fail
    go_ret
    exact ⟨rfl, rfl⟩
theorem Br.conv1 (w : World) (n : Int) (b : UInt8) (h : n % 256 = (b.toNat : Int)) :
    (convert 193 9 (.slice (some ⟨w.heap.size, 0, none⟩) 1 1)).run Tryz.prog (w.alloc (.cells #[.int .u8 (n % 256)] 5)) = .ok (.string ⟨#[b]⟩) (w.alloc (.cells #[.int .u8 (n % 256)] 5)) := by
  rw [h]
  exact run_convert_bytes_back (P := Tryz.prog) (w.alloc (.cells #[.int .u8 (b.toNat : Int)] 5)) 193 9 5 ⟨w.heap.size, 0, none⟩ 1 [b] Tryz.underlying193 Tryz.underlying5 Tryz.underlying9 (fun j hj => by
    rw [Addr.add_mid, cell_of_row _ _ _ _ _ _ (heap_alloc_new w _)]
    have hj' : j = 0 := by simp at hj; omega
    subst hj'
    rfl)
theorem Br.byte_of {n : Int} (h : 1 ≤ n ∧ n ≤ 16) : n % 256 = ((UInt8.ofNat n.toNat).toNat : Int) := by
  rw [UInt8.toNat_ofNat']
  omega
set_option maxHeartbeats 800000 in
theorem bKid (s : ByteArray) (n : Int) (w : World) (hs : s.size ≤ 1000000) (_hn : -9223372036854775808 ≤ n ∧ n ≤ 9223372036854775807) : Calls Tryz.prog 138 #[.string s, .int .i64 n] w fun e w' => e = .returned (.tuple #[.string (Br.kidT s n), .bool (Br.kidOk s n)]) ∧ Below w.heap.size w w' := by
  have HM := bMay s w hs
  have HI := biskid n w
  cases hm : Br.may s with
  | false =>
    have e1 : Br.kidOk s n = false := by unfold Br.kidOk; rw [hm]; rfl
    have e2 : Br.kidT s n = ⟨#[]⟩ := by unfold Br.kidT; rw [e1]; rfl
    rw [e1, e2]
    rw [hm] at HM
    have HM := Lib.hid HM
    clear hm e1 e2 HI
    go_enter Tryz.func138, Tryz.ntmps138
    go_wp2_with fail
    refine HM.out.mono ?_
    rintro e w1 ⟨rfl, rfl⟩
    go_wp2_with fail
    refine bodyPost_ret (results_tmp2 rfl _ _ _) rfl ?_
    exact ⟨rfl, Below.refl _ _⟩
  | true =>
    cases hk : Br.kidN n with
    | false =>
      have e1 : Br.kidOk s n = false := by unfold Br.kidOk; rw [hm, hk]; rfl
      have e2 : Br.kidT s n = ⟨#[]⟩ := by unfold Br.kidT; rw [e1]; rfl
      rw [e1, e2]
      rw [hm] at HM
      rw [hk] at HI
      have HM := Lib.hid HM
      have HI := Lib.hid HI
      clear hm e1 e2 hk
      go_enter Tryz.func138, Tryz.ntmps138
      go_wp2_with fail
      refine HM.out.mono ?_
      rintro e w1 ⟨rfl, rfl⟩
      go_wp2_with fail
      refine HI.out.mono ?_
      rintro e w1 ⟨rfl, rfl⟩
      go_wp2_with fail
      refine bodyPost_ret (results_tmp2 rfl _ _ _) rfl ?_
      exact ⟨rfl, Below.refl _ _⟩
    | true =>
      by_cases h12 : s.size = 12
      · have e1 : Br.kidOk s n = false := by unfold Br.kidOk; rw [hm, hk, decide_eq_true h12]; rfl
        have e2 : Br.kidT s n = ⟨#[]⟩ := by unfold Br.kidT; rw [e1]; rfl
        have d12 : ((s.size : Int) == 12) = true := by rw [beq_iff_eq]; omega
        rw [e1, e2]
        rw [hm] at HM
        rw [hk] at HI
        have HM := Lib.hid HM
        have HI := Lib.hid HI
        clear hm e1 e2 hk h12
        go_enter Tryz.func138, Tryz.ntmps138
        go_wp2_with fail
        refine HM.out.mono ?_
        rintro e w1 ⟨rfl, rfl⟩
        go_wp2_with fail
        refine HI.out.mono ?_
        rintro e w1 ⟨rfl, rfl⟩
        go_wp2_with fail
        refine bodyPost_ret (results_tmp2 rfl _ _ _) rfl ?_
        exact ⟨rfl, Below.refl _ _⟩
      · have e1 : Br.kidOk s n = true := by unfold Br.kidOk; rw [hm, hk, decide_eq_false h12]; rfl
        have e2 : Br.kidT s n = s ++ ⟨#[UInt8.ofNat n.toNat]⟩ := by unfold Br.kidT; rw [e1]; rfl
        have d12 : ((s.size : Int) == 12) = false := by rw [beq_eq_false_iff_ne]; omega
        rw [e1]
        obtain ⟨b, hb⟩ : ∃ b : UInt8, b = UInt8.ofNat n.toNat := ⟨_, rfl⟩
        rw [← hb] at e2
        have HE := Lib.hid e2
        have hcv := Br.conv1 w n b (by rw [hb]; exact Br.byte_of (by unfold Br.kidN at hk; rw [Bool.and_eq_true, decide_eq_true_iff, decide_eq_true_iff] at hk; omega))
        have hsz : s.size + 1 ≤ maxLen := by unfold maxLen; omega
        rw [hm] at HM
        rw [hk] at HI
        have HM := Lib.hid HM
        have HI := Lib.hid HI
        clear hm e1 e2 hk h12 hb
        go_enter Tryz.func138, Tryz.ntmps138
        go_wp2_with fail
        refine HM.out.mono ?_
        rintro e w1 ⟨rfl, rfl⟩
        go_wp2_with fail
        refine HI.out.mono ?_
        rintro e w1 ⟨rfl, rfl⟩
        go_wp2_with fail
        refine bodyPost_ret (results_tmp2 rfl _ _ _) rfl ?_
        exact ⟨by rw [HE.out]; rfl, (Below.refl _ _).alloc (Nat.le_refl _) _⟩

end Go.Proofs.YtepnofklmdofmaaGreatDoor
end

section
namespace Go.Proofs.YtepnofklmdofmaaGreatDoor
open Go.RowKit

set_option maxHeartbeats 400000 in
theorem rMay12 (s : ByteArray) (w : World) (hs : s.size ≤ 1000000) : Calls Tryz.prog 61 #[.string s] w fun e w' => e = .returned (.bool (Br.may s)) ∧ w = w' := by
  go_enter Tryz.func61, Tryz.ntmps61
  go_wp2_with fail
  go_loop [3] (fun i => ∃ k : Nat, k ≤ s.size ∧ i = .int .i64 k ∧ Hid (∀ b ∈ s.data.toList.take k, Br.okB b = true)) (fun i => s.size - (intOf i).toNat)
  case atStart => exact ⟨0, Nat.zero_le _, rfl, fun b hb => by simp at hb⟩
  case round =>
    obtain ⟨k, hk, rfl, HN⟩ := hrel
    by_cases hlt : k < s.size
    · have k0 : (0 : Int) ≤ (k : Int) := by omega
      have k1 : (k : Int) < (s.size : Int) := by omega
      have HT : Hid (s.data.toList.take (k + 1) = s.data.toList.take k ++ [s[k]]) := by
        show _ = _
        rw [List.take_succ_eq_append_getElem (by simpa using hlt), Br.byte_at s k hlt]
      have hN : ∀ b : UInt8, b = s[k] → Br.okB b = false → Br.may s = false := fun b hb he => by
        rw [← Bool.not_eq_true]
        intro h
        have := (Br.mayL_iff.1 h).2 s[k] (by
          have : s[k] ∈ s.data.toList.take (k + 1) := by rw [HT.out]; simp
          exact List.mem_of_mem_take this)
        rw [← hb, he] at this
        cases this
      by_cases h1 : s[k].toNat < 1
      · have d1 : decide ((s[k].toNat : Int) < 1) = true := decide_eq_true (by omega)
        have HD := Lib.hid (hN _ rfl (by unfold Br.okB; rw [decide_eq_false (by omega)]; rfl))
        clear h1 hN
        go_wp2_with fail
        go_ret
        exact ⟨by rw [HD.out]; rfl, rfl⟩
      · have d1 : decide ((s[k].toNat : Int) < 1) = false := decide_eq_false (by omega)
        by_cases h2 : 16 < s[k].toNat
        · have d2 : decide ((16 : Int) < (s[k].toNat : Int)) = true := decide_eq_true (by omega)
          have HD := Lib.hid (hN _ rfl (by unfold Br.okB; rw [decide_eq_false (p := s[k].toNat ≤ 16) (by omega)]; simp))
          clear h1 h2 hN
          go_wp2_with fail
          go_ret
          exact ⟨by rw [HD.out]; rfl, rfl⟩
        · have d2 : decide ((16 : Int) < (s[k].toNat : Int)) = false := decide_eq_false (by omega)
          have HE : Hid (Br.okB s[k] = true) := by
            show _ = _
            unfold Br.okB
            rw [decide_eq_true (by omega), decide_eq_true (by omega)]
            rfl
          clear h1 h2 hN
          go_wp2_with fail
          go_round
          case rel => exact ⟨k + 1, by omega, by go_num, fun b hb => by
            rw [HT.out, List.mem_append, List.mem_singleton] at hb
            rcases hb with hb | rfl
            · exact HN.out b hb
            · exact HE.out⟩
          case measure => simp [intOf]; omega
    · have k1 : ¬ ((k : Int) < (s.size : Int)) := by omega
      have HD : Hid (Br.may s = decide (s.size ≤ 12)) := by
        show _ = _
        unfold Br.may Br.mayL
        rw [Br.len_list, List.all_eq_true.2 (fun b hb => HN.out b (by rw [List.take_of_length_le (by rw [Br.len_list]; omega)]; exact hb)), Bool.and_true]
      by_cases h12 : s.size ≤ 12
      · have d1 : decide ((s.size : Int) ≤ 12) = true := decide_eq_true (by omega)
        have HD2 : Hid (Br.may s = true) := by rw [HD.out]; exact decide_eq_true h12
        clear h12
        go_wp2_with fail
        go_ret
        exact ⟨by rw [HD2.out]; first | rfl | (simp only [*]; rfl), rfl⟩
      · have d1 : decide ((s.size : Int) ≤ 12) = false := decide_eq_false (by omega)
        have HD2 : Hid (Br.may s = false) := by rw [HD.out]; exact decide_eq_false h12
        clear h12
        go_wp2_with fail
        go_ret
        exact ⟨by rw [HD2.out]; first | rfl | (simp only [*]; rfl), rfl⟩

theorem Br.ne_nil {s : ByteArray} (h0 : s.size ≠ 0) : (s.toList == []) = false := by
  rw [beq_eq_false_iff_ne]
  intro h
  have := congrArg List.length h
  rw [Lib.toList_data, Br.len_list] at this
  exact h0 this
theorem Br.is_nil {s : ByteArray} (h0 : s.size = 0) : s = ⟨#[]⟩ := by
  apply ByteArray.ext
  exact Array.eq_empty_of_size_eq_zero h0
end Go.Proofs.YtepnofklmdofmaaGreatDoor
end

section
namespace Go.Proofs.YtepnofklmdofmaaGreatDoor
open Go.RowKit

set_option maxHeartbeats 800000 in
theorem rKid12 (s : ByteArray) (n : Int) (w : World) (hs : s.size ≤ 1000000) (hn : -9223372036854775808 ≤ n ∧ n ≤ 9223372036854775807) : Calls Tryz.prog 84 #[.string s, .int .i64 n] w fun e w' => e = .returned (.tuple #[.string (Br.kidT s n), .bool (Br.kidOk s n)]) ∧ Below w.heap.size w w' := by
  have HM := rMay12 s w hs
  have hno : Br.kidOk s n = false → Br.kidT s n = ⟨#[]⟩ := fun e => by unfold Br.kidT; rw [e]; rfl
  cases hm : Br.may s with
  | false =>
    have e1 : Br.kidOk s n = false := by unfold Br.kidOk; rw [hm]; rfl
    rw [hno e1, e1]
    rw [hm] at HM
    have HM := Lib.hid HM
    clear hm e1 hno
    go_enter Tryz.func84, Tryz.ntmps84
    go_wp2_with fail
    refine HM.out.mono ?_
    rintro e w1 ⟨rfl, rfl⟩
    go_wp2_with fail
    refine bodyPost_ret (results_tmp2 rfl _ _ _) rfl ?_
    exact ⟨rfl, Below.refl _ _⟩
  | true =>
    have h12 := Br.may_size hm
    by_cases h1 : n < 1
    · have e1 : Br.kidOk s n = false := by unfold Br.kidOk Br.kidN; rw [decide_eq_false (p := 1 ≤ n) (by omega)]; simp
      have d1 : decide (n < 1) = true := decide_eq_true h1
      rw [hno e1, e1]
      rw [hm] at HM
      have HM := Lib.hid HM
      clear hm e1 hno h1
      go_enter Tryz.func84, Tryz.ntmps84
      go_wp2_with fail
      refine HM.out.mono ?_
      rintro e w1 ⟨rfl, rfl⟩
      go_wp2_with fail
      refine bodyPost_ret (results_tmp2 rfl _ _ _) rfl ?_
      exact ⟨rfl, Below.refl _ _⟩
    · have d1 : decide (n < 1) = false := decide_eq_false h1
      by_cases h2 : 16 < n
      · have e1 : Br.kidOk s n = false := by unfold Br.kidOk Br.kidN; rw [decide_eq_false (p := n ≤ 16) (by omega)]; simp
        have d2 : decide (16 < n) = true := decide_eq_true h2
        rw [hno e1, e1]
        rw [hm] at HM
        have HM := Lib.hid HM
        clear hm e1 hno h1 h2
        go_enter Tryz.func84, Tryz.ntmps84
        go_wp2_with fail
        refine HM.out.mono ?_
        rintro e w1 ⟨rfl, rfl⟩
        go_wp2_with fail
        refine bodyPost_ret (results_tmp2 rfl _ _ _) rfl ?_
        exact ⟨rfl, Below.refl _ _⟩
      · have d2 : decide (16 < n) = false := decide_eq_false h2
        have hk : Br.kidN n = true := by unfold Br.kidN; rw [decide_eq_true (by omega), decide_eq_true (by omega)]; rfl
        by_cases h3 : s.size = 12
        · have e1 : Br.kidOk s n = false := by unfold Br.kidOk; rw [hm, hk, decide_eq_true h3]; rfl
          have d3 : decide ((12 : Int) ≤ (s.size : Int)) = true := decide_eq_true (by omega)
          rw [hno e1, e1]
          rw [hm] at HM
          have HM := Lib.hid HM
          clear hm e1 hno h1 h2 h3 hk h12
          go_enter Tryz.func84, Tryz.ntmps84
          go_wp2_with fail
          refine HM.out.mono ?_
          rintro e w1 ⟨rfl, rfl⟩
          go_wp2_with fail
          refine bodyPost_ret (results_tmp2 rfl _ _ _) rfl ?_
          exact ⟨rfl, Below.refl _ _⟩
        · have e1 : Br.kidOk s n = true := by unfold Br.kidOk; rw [hm, hk, decide_eq_false h3]; rfl
          have e2 : Br.kidT s n = s ++ ⟨#[UInt8.ofNat n.toNat]⟩ := by unfold Br.kidT; rw [e1]; rfl
          have d3 : decide ((12 : Int) ≤ (s.size : Int)) = false := decide_eq_false (by omega)
          rw [e1]
          obtain ⟨b, hb⟩ : ∃ b : UInt8, b = UInt8.ofNat n.toNat := ⟨_, rfl⟩
          rw [← hb] at e2
          have HE := Lib.hid e2
          have hcv := Br.conv1 w n b (by rw [hb]; exact Br.byte_of (by omega))
          have hsz : s.size + 1 ≤ maxLen := by unfold maxLen; omega
          rw [hm] at HM
          have HM := Lib.hid HM
          clear hm e1 e2 hk h12 hb hno h1 h2 h3
          go_enter Tryz.func84, Tryz.ntmps84
          go_wp2_with fail
          refine HM.out.mono ?_
          rintro e w1 ⟨rfl, rfl⟩
          go_wp2_with fail
          refine bodyPost_ret (results_tmp2 rfl _ _ _) rfl ?_
          exact ⟨by rw [HE.out]; rfl, (Below.refl _ _).alloc (Nat.le_refl _) _⟩
theorem Br.may_pre {s p : ByteArray} (h : Br.pre p.data.toList s.data.toList = true) (hs : Br.may s = true) : Br.may p = true := by
  obtain ⟨c, h⟩ := Br.pre_iff.1 h
  unfold Br.may at hs ⊢
  rw [h] at hs
  exact Br.mayL_pre hs
namespace Br
/-- Behind n bytes that are alike. -/
theorem cmp_more {a b : List UInt8} {n : Nat} (ha : n < a.length) (hb : n < b.length) (h : n ≤ lcp a b) :
    (a[n] < b[n] → Lib.compareBytes a b = -1) ∧ (b[n] < a[n] → Lib.compareBytes a b = 1) := by
  induction a generalizing b n with
  | nil => simp at ha
  | cons x a ih =>
    cases b with
    | nil => simp at hb
    | cons y b =>
      cases n with
      | zero =>
        simp only [List.getElem_cons_zero]
        unfold Lib.compareBytes
        constructor
        · intro h1
          rw [if_pos h1]
        · intro h1
          rw [if_neg (fun h2 => absurd (UInt8.lt_trans h1 h2) (by simp)), if_pos h1]
      | succ n =>
        simp only [List.getElem_cons_succ]
        unfold lcp at h
        split at h
        · rename_i hxy
          subst hxy
          unfold Lib.compareBytes
          rw [if_neg (by simp), if_neg (by simp)]
          exact ih (by simpa using ha) (by simpa using hb) (by omega)
        · omega
theorem cmp_end {a b : List UInt8} (h : a.length ≤ lcp a b ∨ b.length ≤ lcp a b) : (a.length < b.length → Lib.compareBytes a b = -1) ∧ (b.length < a.length → Lib.compareBytes a b = 1) ∧ (a.length = b.length → Lib.compareBytes a b = 0) := by
  induction a generalizing b with
  | nil =>
    cases b with
    | nil => simp [Lib.compareBytes]
    | cons y b => simp [Lib.compareBytes]
  | cons x a ih =>
    cases b with
    | nil => simp [Lib.compareBytes]
    | cons y b =>
      unfold lcp at h
      split at h
      · rename_i hxy
        subst hxy
        unfold Lib.compareBytes
        rw [if_neg (by simp), if_neg (by simp)]
        have := ih (b := b) (by simp only [List.length_cons] at h; omega)
        simpa using this
      · simp at h
end Br

end Go.Proofs.YtepnofklmdofmaaGreatDoor
end
