/-
  partition of numbers.
-/
import Derived.Test.YtfhengihdlojmaaUsF
import Derived.Sort.WalkC4
namespace Go.Proofs.Ytfhengihdlojmaa
open Go.RowKit Go.Sort

set_option maxRecDepth 20000 in
set_option maxHeartbeats 16000000 in
theorem upart {w0 : World} {B : Nat} {rest : List Value} {d : Array Int} {w : World} (S : Us.Row w0 B rest d w) (cap a b pivot : Nat) (hap : a ≤ pivot) (hpb : pivot < b) (hb : b ≤ d.size) (hsz : d.size ≤ 1000000) :
    Calls Try.prog 55 #[.slice (some ⟨B, 0, none⟩) d.size cap, .int .i64 (a : Int), .int .i64 (b : Int), .int .i64 (pivot : Int)] w fun e w' => (∃ (m : Nat) (wp : Bool), e = .returned (.tuple #[.int .i64 (m : Int), .bool wp]) ∧ m = (Sort.partition ltInt d a b pivot).1 ∧ wp = (Sort.partition ltInt d a b pivot).2.1) ∧ Us.Row w0 B rest (Sort.partition ltInt d a b pivot).2.2 w' := by
  have S0 := Lib.hid S
  obtain ⟨p, hp⟩ : ∃ p : Addr, p = ⟨B, 0, none⟩ := ⟨_, rfl⟩
  rw [← hp]
  have HP := Lib.hid hp
  obtain ⟨b1, hb1⟩ : ∃ b1, b1 = b - 1 := ⟨_, rfl⟩
  obtain ⟨i0, hi0⟩ : ∃ i0, i0 = a + 1 := ⟨_, rfl⟩
  have zb : (b : Int) - 1 = (b1 : Int) := by omega
  have zi : (a : Int) + 1 = (i0 : Int) := by omega
  have hb9 : (b : Int) ≤ 1000000 := by omega
  have hsz2 : (d.size : Int) ≤ 1000000 := by omega
  have ba : a < d.size := by omega
  have bp : pivot < d.size := by omega
  have ya : (a : Int) < (d.size : Int) := by omega
  have yp : (pivot : Int) < (d.size : Int) := by omega
  have hb2 : b1 < d.size := by omega
  have HAB : Hid (b1 = b - 1 ∧ a ≤ b1 ∧ i0 = a + 1) := ⟨hb1, by omega, hi0⟩
  have hai0 : a < i0 := by omega
  have hib : i0 ≤ b1 + 1 := by omega
  clear S hp hb1 hi0
  have HSZ0 : Hid ((swp d a pivot).size = d.size) := by show _ = _; rw [size_swp]
  obtain ⟨d1, hd1⟩ : ∃ d1, d1 = swp d a pivot := ⟨_, rfl⟩
  have HD1 := Lib.hid hd1
  go_enter Try.func55, Try.ntmps55
  have S1 := Lib.hid ((S0.out.swap HP.out (i := a) (j := pivot) (by omega) (by omega)).drew)
  have l1 := S0.out.cell HP.out (t := a) (by omega)
  have l2 := S0.out.cell HP.out (t := pivot) (by omega)
  have f1 := S0.out.frz HP.out a
  have f2 := S0.out.frz HP.out pivot
  obtain ⟨u, c2⟩ := S0.out.c2 HP.out (i := a) (j := pivot) (by omega) (by omega) d[pivot]!
  obtain ⟨x, hx⟩ : ∃ x, x = d[a]! := ⟨_, rfl⟩
  obtain ⟨y, hy⟩ : ∃ x, x = d[pivot]! := ⟨_, rfl⟩
  rw [← hx, ← hy] at S1
  rw [← hx] at l1
  rw [← hy] at l2 c2
  clear hx hy S0
  go_wp2_with fail
  go_region
  clear l1 l2 f1 f2 c2
  generalize ((w.setCell (p.add a) (.int .u64 y)).setCell (p.add pivot) (.int .u64 x)).drew = w1 at S1 ⊢
  rw [← hd1] at HSZ0 S1
  clear hd1
  have hs1 : d1.size = d.size := HSZ0.out
  go_upto_block 0 with fail
  go_cut [10] (fun v wx => ∃ i : Nat, v = .int .i64 (i : Int) ∧ i0 ≤ i ∧ i ≤ b1 + 1 ∧ Hid (Us.Row w0 B rest d1 wx) ∧ Hid (i = scanUp (fun x => ltInt x d1[a]!) d1 b1 i0))
  case first =>
    go_wp2_with fail
    go_loopw [10] (fun vi wx => ∃ i : Nat, vi = .int .i64 (i : Int) ∧ i0 ≤ i ∧ i ≤ b1 + 1 ∧ Hid (Us.Row w0 B rest d1 wx) ∧ Hid (scanUp (fun x => ltInt x d1[a]!) d1 b1 i = scanUp (fun x => ltInt x d1[a]!) d1 b1 i0)) (fun vi _ => b1 + 1 - (intOf vi).toNat)
    case atStart => exact ⟨i0, rfl, Nat.le_refl _, by omega, S1, rfl⟩
    case round =>
      clear S1
      obtain ⟨i, rfl, hi1, hi2, S2, HU⟩ := hrel
      by_cases hle : i ≤ b1
      · have g0 : decide ((i : Int) ≤ (b1 : Int)) = true := by simpa using hle
        have y1 : (i : Int) < (d.size : Int) := by omega
        have b1' : i < d1.size := by omega
        have ba' : a < d1.size := by omega
        cases hv : ltInt d1[i]! d1[a]! with
        | false =>
          have HS : Hid (i = scanUp (fun x => ltInt x d1[a]!) d1 b1 i0) := by
            show _ = _
            rw [← HU.out, scanUp_end (fun x => ltInt x d1[a]!) _ _ _ (.inr hv)]
          have HV := Lib.hid hv
          clear hv
          have l1 := S2.out.cell HP.out (t := i) (by omega)
          have l2 := S2.out.cell HP.out (t := a) (by omega)
          have hxy := uless d1[i]! d1[a]!
          rw [HV.out] at hxy
          obtain ⟨x, hx⟩ : ∃ x, x = d1[i]! := ⟨_, rfl⟩
          obtain ⟨y, hy⟩ : ∃ x, x = d1[a]! := ⟨_, rfl⟩
          rw [← hx] at hxy l1
          rw [← hy] at hxy l2
          have HXY : Hid (∀ W, Calls Try.prog 53 #[.int .u64 x, .int .u64 y] W fun e w' => e = .returned (.bool false) ∧ W = w') := hxy
          clear hx hy hxy HV
          go_wp2_with fail
          go_quiet ((go_at_call 53; exact Calls.quiet_of_same ((HXY.out _).mono fun _ _ h => ⟨h.1, h.2.symm⟩)))
          have S9 := Lib.hid (S2.out.drewN nq)
          clear l1 l2 S2 HXY
          generalize wr.drewN nq = w9 at S9 ⊢
          clear nq
          go_wp2_with fail
          go_meet
          exact ⟨i, rfl, hi1, hi2, S9, HS⟩
        | true =>
          have HS : Hid (scanUp (fun x => ltInt x d1[a]!) d1 b1 (i + 1) = scanUp (fun x => ltInt x d1[a]!) d1 b1 i0) := by
            show _ = _
            rw [← HU.out, scanUp_go (fun x => ltInt x d1[a]!) _ _ _ hle hv]
          have HV := Lib.hid hv
          clear hv
          have l1 := S2.out.cell HP.out (t := i) (by omega)
          have l2 := S2.out.cell HP.out (t := a) (by omega)
          have hxy := uless d1[i]! d1[a]!
          rw [HV.out] at hxy
          obtain ⟨x, hx⟩ : ∃ x, x = d1[i]! := ⟨_, rfl⟩
          obtain ⟨y, hy⟩ : ∃ x, x = d1[a]! := ⟨_, rfl⟩
          rw [← hx] at hxy l1
          rw [← hy] at hxy l2
          have HXY : Hid (∀ W, Calls Try.prog 53 #[.int .u64 x, .int .u64 y] W fun e w' => e = .returned (.bool true) ∧ W = w') := hxy
          clear hx hy hxy HV
          go_wp2_with fail
          go_quiet ((go_at_call 53; exact Calls.quiet_of_same ((HXY.out _).mono fun _ _ h => ⟨h.1, h.2.symm⟩)))
          have S9 := Lib.hid (S2.out.drewN nq)
          clear l1 l2 S2 HXY
          generalize wr.drewN nq = w9 at S9 ⊢
          clear nq
          go_wp2_with fail
          go_roundw
          case rel => exact ⟨i + 1, by go_num, by omega, by omega, S9, HS⟩
          case measure => simp [intOf] <;> omega
      · have g0 : decide ((i : Int) ≤ (b1 : Int)) = false := by simpa using hle
        have HS : Hid (i = scanUp (fun x => ltInt x d1[a]!) d1 b1 i0) := by
          show _ = _
          rw [← HU.out, scanUp_end (fun x => ltInt x d1[a]!) _ _ _ (.inl hle)]
        go_wp2_with fail
        go_quiet (fail)
        have S9 := Lib.hid (S2.out.drewN nq)
        clear S2
        generalize wr.drewN nq = w9 at S9 ⊢
        clear nq
        go_wp2_with fail
        go_meet
        exact ⟨i, rfl, hi1, hi2, S9, HS⟩
  case rest =>
    clear S1
    obtain ⟨i, rfl, hi1, hi2, S1, HU1⟩ := hcut
    go_upto_block 2 with fail
    go_cut [11] (fun v wx => ∃ j : Nat, v = .int .i64 (j : Int) ∧ j ≤ b1 ∧ i ≤ j + 1 ∧ Hid (Us.Row w0 B rest d1 wx) ∧ Hid (j = scanDown (fun x => !ltInt x d1[a]!) d1 i b1))
    case first =>
      go_wp2_with fail
      go_loopw [11] (fun vj wx => ∃ j : Nat, vj = .int .i64 (j : Int) ∧ j ≤ b1 ∧ i ≤ j + 1 ∧ Hid (Us.Row w0 B rest d1 wx) ∧ Hid (scanDown (fun x => !ltInt x d1[a]!) d1 i j = scanDown (fun x => !ltInt x d1[a]!) d1 i b1)) (fun vj _ => (intOf vj).toNat)
      case atStart => exact ⟨b1, rfl, Nat.le_refl _, by omega, S1, rfl⟩
      case round =>
        clear S1
        obtain ⟨j, rfl, hj1, hj2, S2, HU⟩ := hrel
        by_cases hle : i ≤ j
        · have g0 : decide ((i : Int) ≤ (j : Int)) = true := by simpa using hle
          have y1 : (j : Int) < (d.size : Int) := by omega
          have b1' : j < d1.size := by omega
          have ba' : a < d1.size := by omega
          cases hv : ltInt d1[j]! d1[a]! with
          | true =>
            have HS : Hid (j = scanDown (fun x => !ltInt x d1[a]!) d1 i b1) := by
              show _ = _
              rw [← HU.out, scanDown_end (fun x => !ltInt x d1[a]!) _ _ _ (.inr (by simp only [hv]; rfl))]
            have HV := Lib.hid hv
            clear hv
            have l1 := S2.out.cell HP.out (t := j) (by omega)
            have l2 := S2.out.cell HP.out (t := a) (by omega)
            have hxy := uless d1[j]! d1[a]!
            rw [HV.out] at hxy
            obtain ⟨x, hx⟩ : ∃ x, x = d1[j]! := ⟨_, rfl⟩
            obtain ⟨y, hy⟩ : ∃ x, x = d1[a]! := ⟨_, rfl⟩
            rw [← hx] at hxy l1
            rw [← hy] at hxy l2
            have HXY : Hid (∀ W, Calls Try.prog 53 #[.int .u64 x, .int .u64 y] W fun e w' => e = .returned (.bool true) ∧ W = w') := hxy
            clear hx hy hxy HV
            go_wp2_with fail
            go_quiet ((go_at_call 53; exact Calls.quiet_of_same ((HXY.out _).mono fun _ _ h => ⟨h.1, h.2.symm⟩)))
            have S9 := Lib.hid (S2.out.drewN nq)
            clear l1 l2 S2 HXY
            generalize wr.drewN nq = w9 at S9 ⊢
            clear nq
            go_wp2_with fail
            go_meet
            exact ⟨j, rfl, hj1, hj2, S9, HS⟩
          | false =>
            have HS : Hid (scanDown (fun x => !ltInt x d1[a]!) d1 i (j - 1) = scanDown (fun x => !ltInt x d1[a]!) d1 i b1) := by
              show _ = _
              rw [← HU.out, scanDown_go (fun x => !ltInt x d1[a]!) _ _ _ hle (by omega) (by simp only [hv]; rfl)]
            have HV := Lib.hid hv
            clear hv
            have l1 := S2.out.cell HP.out (t := j) (by omega)
            have l2 := S2.out.cell HP.out (t := a) (by omega)
            have hxy := uless d1[j]! d1[a]!
            rw [HV.out] at hxy
            obtain ⟨x, hx⟩ : ∃ x, x = d1[j]! := ⟨_, rfl⟩
            obtain ⟨y, hy⟩ : ∃ x, x = d1[a]! := ⟨_, rfl⟩
            rw [← hx] at hxy l1
            rw [← hy] at hxy l2
            have HXY : Hid (∀ W, Calls Try.prog 53 #[.int .u64 x, .int .u64 y] W fun e w' => e = .returned (.bool false) ∧ W = w') := hxy
            clear hx hy hxy HV
            go_wp2_with fail
            go_quiet ((go_at_call 53; exact Calls.quiet_of_same ((HXY.out _).mono fun _ _ h => ⟨h.1, h.2.symm⟩)))
            have S9 := Lib.hid (S2.out.drewN nq)
            clear l1 l2 S2 HXY
            generalize wr.drewN nq = w9 at S9 ⊢
            clear nq
            go_wp2_with fail
            go_roundw
            case rel => exact ⟨j - 1, by first | (congr 1; omega) | congr 1, by omega, by omega, S9, HS⟩
            case measure => simp [intOf] <;> omega
        · have g0 : decide ((i : Int) ≤ (j : Int)) = false := by simpa using hle
          have HS : Hid (j = scanDown (fun x => !ltInt x d1[a]!) d1 i b1) := by
            show _ = _
            rw [← HU.out, scanDown_end (fun x => !ltInt x d1[a]!) _ _ _ (.inl hle)]
          go_wp2_with fail
          go_quiet (fail)
          have S9 := Lib.hid (S2.out.drewN nq)
          clear S2
          generalize wr.drewN nq = w9 at S9 ⊢
          clear nq
          go_wp2_with fail
          go_meet
          exact ⟨j, rfl, hj1, hj2, S9, HS⟩
    case rest =>
      clear S1
      obtain ⟨j, rfl, hj1, hj2, S1, HU2⟩ := hcut
      rename World => wz
      have bj : j < d1.size := by omega
      have ba1 : a < d1.size := by omega
      have yj : (j : Int) < (d.size : Int) := by omega
      by_cases hlt : j < i
      · have g1 : (j : Int) < (i : Int) := by omega
        have HE : Hid (Sort.partition ltInt d a b pivot = (j, true, swp d1 j a)) := by
          show _ = _
          exact part_first_break ltInt d a b pivot HAB.out.2.2 HAB.out.1 HD1.out HU1.out HU2.out hlt
        clear HU1 HU2
        have S8 := Lib.hid ((S1.out.swap HP.out (i := j) (j := a) (by omega) (by omega)).drew)
        have l1 := S1.out.cell HP.out (t := j) (by omega)
        have l2 := S1.out.cell HP.out (t := a) (by omega)
        have f1 := S1.out.frz HP.out j
        have f2 := S1.out.frz HP.out a
        obtain ⟨u, c2⟩ := S1.out.c2 HP.out (i := j) (j := a) (by omega) (by omega) d1[a]!
        obtain ⟨x, hx⟩ : ∃ x, x = d1[j]! := ⟨_, rfl⟩
        obtain ⟨y, hy⟩ : ∃ x, x = d1[a]! := ⟨_, rfl⟩
        rw [← hx, ← hy] at S8
        rw [← hx] at l1
        rw [← hy] at l2 c2
        clear hx hy S1
        go_wp2_with fail
        go_region
        clear l1 l2 f1 f2 c2
        generalize ((wz.setCell (p.add j) (.int .u64 y)).setCell (p.add a) (.int .u64 x)).drew = w8 at S8 ⊢
        go_wp2_with fail
        refine bodyPost_ret (results_tmp2 rfl _ _ _) rfl ?_
        exact ⟨⟨j, true, rfl, by rw [HE.out], by rw [HE.out]⟩, by rw [HE.out]; exact S8.out⟩
      · have g1 : ¬ ((j : Int) < (i : Int)) := by omega
        have HLT : Hid (i < j) := part_scans_lt ltInt a i0 b1 d1 (by omega) HU1.out HU2.out (by omega)
        have HPT : Hid (Sort.partition ltInt d a b pivot = ((partLoop ltInt a (i + 1) (j - 1) (swp d1 i j)).1, false, swp (partLoop ltInt a (i + 1) (j - 1) (swp d1 i j)).2 (partLoop ltInt a (i + 1) (j - 1) (swp d1 i j)).1 a)) := by
          show _ = _
          exact part_first_go ltInt d a b pivot HAB.out.2.2 HAB.out.1 HD1.out HU1.out HU2.out (by omega)
        have bi : i < d1.size := by omega
        have yi : (i : Int) < (d.size : Int) := by omega
        have HSZ : Hid ((swp d1 i j).size = d.size) := by show _ = _; rw [size_swp]; exact hs1
        obtain ⟨i9, hi9⟩ : ∃ i9, i9 = i + 1 := ⟨_, rfl⟩
        obtain ⟨j9, hj9⟩ : ∃ j9, j9 = j - 1 := ⟨_, rfl⟩
        have z9 : (i : Int) + 1 = (i9 : Int) := by omega
        have z8 : (j : Int) - 1 = (j9 : Int) := by have := HLT.out; omega
        have hij9 : i9 ≤ j9 + 1 := by have := HLT.out; omega
        have hai9 : a < i9 := by omega
        have hj9d : j9 < d.size := by omega
        rw [← hi9, ← hj9] at HPT
        clear HU1 HU2 hi9 hj9
        have S8 := Lib.hid ((S1.out.swap HP.out (i := i) (j := j) (by omega) (by omega)).drew)
        have l1 := S1.out.cell HP.out (t := i) (by omega)
        have l2 := S1.out.cell HP.out (t := j) (by omega)
        have f1 := S1.out.frz HP.out i
        have f2 := S1.out.frz HP.out j
        obtain ⟨u, c2⟩ := S1.out.c2 HP.out (i := i) (j := j) (by omega) (by omega) d1[j]!
        obtain ⟨x, hx⟩ : ∃ x, x = d1[i]! := ⟨_, rfl⟩
        obtain ⟨y, hy⟩ : ∃ x, x = d1[j]! := ⟨_, rfl⟩
        rw [← hx, ← hy] at S8
        rw [← hx] at l1
        rw [← hy] at l2 c2
        clear hx hy S1
        go_wp2_with fail
        go_region
        clear l1 l2 f1 f2 c2
        generalize ((wz.setCell (p.add i) (.int .u64 y)).setCell (p.add j) (.int .u64 x)).drew = w8 at S8 ⊢
        generalize swp d1 i j = d2 at S8 HPT HSZ
        have hs2 : d2.size = d.size := HSZ.out
        go_wp2_with fail
        go_loopw [10, 11] (fun vi vj wr => ∃ (i j : Nat) (dk : Array Int), vi = .int .i64 i ∧ vj = .int .i64 j ∧ a < i ∧ i ≤ j + 1 ∧ j < d.size ∧ dk.size = d.size ∧ Hid (Us.Row w0 B rest dk wr) ∧ Hid (partLoop ltInt a i j dk = partLoop ltInt a i9 j9 d2)) (fun vi vj _ => (intOf vj + 1 - intOf vi).toNat)
        case atStart => exact ⟨i9, j9, d2, rfl, rfl, hai9, hij9, hj9d, hs2, S8.out, rfl⟩
        case round =>
          clear S8 hij9 hai9 hj9d z9 z8 bi yi bj yj g1 hlt hi1 hi2 hj1 hj2 HLT
          obtain ⟨i, j, dk, rfl, rfl, hai, hij, hjd, hsk, S1, HI⟩ := hrel
          go_upto_block 6 with fail
          go_cut [10] (fun v wx => ∃ i2 : Nat, v = .int .i64 (i2 : Int) ∧ i ≤ i2 ∧ i2 ≤ j + 1 ∧ Hid (Us.Row w0 B rest dk wx) ∧ Hid (i2 = scanUp (fun x => ltInt x dk[a]!) dk j i))
          case first =>
            go_wp2_with fail
            go_loopw [10] (fun vi wx => ∃ i2 : Nat, vi = .int .i64 (i2 : Int) ∧ i ≤ i2 ∧ i2 ≤ j + 1 ∧ Hid (Us.Row w0 B rest dk wx) ∧ Hid (scanUp (fun x => ltInt x dk[a]!) dk j i2 = scanUp (fun x => ltInt x dk[a]!) dk j i)) (fun vi _ => j + 1 - (intOf vi).toNat)
            case atStart => exact ⟨i, rfl, Nat.le_refl _, by omega, S1, rfl⟩
            case round =>
              clear S1
              obtain ⟨i2, rfl, hi1, hi2, S2, HU⟩ := hrel
              by_cases hle : i2 ≤ j
              · have g0 : decide ((i2 : Int) ≤ (j : Int)) = true := by simpa using hle
                have y1 : (i2 : Int) < (d.size : Int) := by omega
                have b1' : i2 < dk.size := by omega
                have ba' : a < dk.size := by omega
                cases hv : ltInt dk[i2]! dk[a]! with
                | false =>
                  have HS : Hid (i2 = scanUp (fun x => ltInt x dk[a]!) dk j i) := by
                    show _ = _
                    rw [← HU.out, scanUp_end (fun x => ltInt x dk[a]!) _ _ _ (.inr hv)]
                  have HV := Lib.hid hv
                  clear hv
                  have l1 := S2.out.cell HP.out (t := i2) (by omega)
                  have l2 := S2.out.cell HP.out (t := a) (by omega)
                  have hxy := uless dk[i2]! dk[a]!
                  rw [HV.out] at hxy
                  obtain ⟨x, hx⟩ : ∃ x, x = dk[i2]! := ⟨_, rfl⟩
                  obtain ⟨y, hy⟩ : ∃ x, x = dk[a]! := ⟨_, rfl⟩
                  rw [← hx] at hxy l1
                  rw [← hy] at hxy l2
                  have HXY : Hid (∀ W, Calls Try.prog 53 #[.int .u64 x, .int .u64 y] W fun e w' => e = .returned (.bool false) ∧ W = w') := hxy
                  clear hx hy hxy HV
                  go_wp2_with fail
                  go_quiet ((go_at_call 53; exact Calls.quiet_of_same ((HXY.out _).mono fun _ _ h => ⟨h.1, h.2.symm⟩)))
                  have S9 := Lib.hid (S2.out.drewN nq)
                  clear l1 l2 S2 HXY
                  generalize wr.drewN nq = w9 at S9 ⊢
                  clear nq
                  go_wp2_with fail
                  go_meet
                  exact ⟨i2, rfl, hi1, hi2, S9, HS⟩
                | true =>
                  have HS : Hid (scanUp (fun x => ltInt x dk[a]!) dk j (i2 + 1) = scanUp (fun x => ltInt x dk[a]!) dk j i) := by
                    show _ = _
                    rw [← HU.out, scanUp_go (fun x => ltInt x dk[a]!) _ _ _ hle hv]
                  have HV := Lib.hid hv
                  clear hv
                  have l1 := S2.out.cell HP.out (t := i2) (by omega)
                  have l2 := S2.out.cell HP.out (t := a) (by omega)
                  have hxy := uless dk[i2]! dk[a]!
                  rw [HV.out] at hxy
                  obtain ⟨x, hx⟩ : ∃ x, x = dk[i2]! := ⟨_, rfl⟩
                  obtain ⟨y, hy⟩ : ∃ x, x = dk[a]! := ⟨_, rfl⟩
                  rw [← hx] at hxy l1
                  rw [← hy] at hxy l2
                  have HXY : Hid (∀ W, Calls Try.prog 53 #[.int .u64 x, .int .u64 y] W fun e w' => e = .returned (.bool true) ∧ W = w') := hxy
                  clear hx hy hxy HV
                  go_wp2_with fail
                  go_quiet ((go_at_call 53; exact Calls.quiet_of_same ((HXY.out _).mono fun _ _ h => ⟨h.1, h.2.symm⟩)))
                  have S9 := Lib.hid (S2.out.drewN nq)
                  clear l1 l2 S2 HXY
                  generalize wr.drewN nq = w9 at S9 ⊢
                  clear nq
                  go_wp2_with fail
                  go_roundw
                  case rel => exact ⟨i2 + 1, by go_num, by omega, by omega, S9, HS⟩
                  case measure => simp [intOf] <;> omega
              · have g0 : decide ((i2 : Int) ≤ (j : Int)) = false := by simpa using hle
                have HS : Hid (i2 = scanUp (fun x => ltInt x dk[a]!) dk j i) := by
                  show _ = _
                  rw [← HU.out, scanUp_end (fun x => ltInt x dk[a]!) _ _ _ (.inl hle)]
                go_wp2_with fail
                go_quiet (fail)
                have S9 := Lib.hid (S2.out.drewN nq)
                clear S2
                generalize wr.drewN nq = w9 at S9 ⊢
                clear nq
                go_wp2_with fail
                go_meet
                exact ⟨i2, rfl, hi1, hi2, S9, HS⟩
          case rest =>
            clear S1
            obtain ⟨i2, rfl, hi1, hi2, S1, HU⟩ := hcut
            go_upto_block 8 with fail
            go_cut [11] (fun v wx => ∃ j2 : Nat, v = .int .i64 (j2 : Int) ∧ j2 ≤ j ∧ i2 ≤ j2 + 1 ∧ Hid (Us.Row w0 B rest dk wx) ∧ Hid (j2 = scanDown (fun x => !ltInt x dk[a]!) dk i2 j))
            case first =>
              go_wp2_with fail
              go_loopw [11] (fun vj wx => ∃ j2 : Nat, vj = .int .i64 (j2 : Int) ∧ j2 ≤ j ∧ i2 ≤ j2 + 1 ∧ Hid (Us.Row w0 B rest dk wx) ∧ Hid (scanDown (fun x => !ltInt x dk[a]!) dk i2 j2 = scanDown (fun x => !ltInt x dk[a]!) dk i2 j)) (fun vj _ => (intOf vj).toNat)
              case atStart => exact ⟨j, rfl, Nat.le_refl _, by omega, S1, rfl⟩
              case round =>
                clear S1
                obtain ⟨j2, rfl, hj1, hj2, S2, HU⟩ := hrel
                by_cases hle : i2 ≤ j2
                · have g0 : decide ((i2 : Int) ≤ (j2 : Int)) = true := by simpa using hle
                  have y1 : (j2 : Int) < (d.size : Int) := by omega
                  have b1' : j2 < dk.size := by omega
                  have ba' : a < dk.size := by omega
                  cases hv : ltInt dk[j2]! dk[a]! with
                  | true =>
                    have HS : Hid (j2 = scanDown (fun x => !ltInt x dk[a]!) dk i2 j) := by
                      show _ = _
                      rw [← HU.out, scanDown_end (fun x => !ltInt x dk[a]!) _ _ _ (.inr (by simp only [hv]; rfl))]
                    have HV := Lib.hid hv
                    clear hv
                    have l1 := S2.out.cell HP.out (t := j2) (by omega)
                    have l2 := S2.out.cell HP.out (t := a) (by omega)
                    have hxy := uless dk[j2]! dk[a]!
                    rw [HV.out] at hxy
                    obtain ⟨x, hx⟩ : ∃ x, x = dk[j2]! := ⟨_, rfl⟩
                    obtain ⟨y, hy⟩ : ∃ x, x = dk[a]! := ⟨_, rfl⟩
                    rw [← hx] at hxy l1
                    rw [← hy] at hxy l2
                    have HXY : Hid (∀ W, Calls Try.prog 53 #[.int .u64 x, .int .u64 y] W fun e w' => e = .returned (.bool true) ∧ W = w') := hxy
                    clear hx hy hxy HV
                    go_wp2_with fail
                    go_quiet ((go_at_call 53; exact Calls.quiet_of_same ((HXY.out _).mono fun _ _ h => ⟨h.1, h.2.symm⟩)))
                    have S9 := Lib.hid (S2.out.drewN nq)
                    clear l1 l2 S2 HXY
                    generalize wr.drewN nq = w9 at S9 ⊢
                    clear nq
                    go_wp2_with fail
                    go_meet
                    exact ⟨j2, rfl, hj1, hj2, S9, HS⟩
                  | false =>
                    have HS : Hid (scanDown (fun x => !ltInt x dk[a]!) dk i2 (j2 - 1) = scanDown (fun x => !ltInt x dk[a]!) dk i2 j) := by
                      show _ = _
                      rw [← HU.out, scanDown_go (fun x => !ltInt x dk[a]!) _ _ _ hle (by omega) (by simp only [hv]; rfl)]
                    have HV := Lib.hid hv
                    clear hv
                    have l1 := S2.out.cell HP.out (t := j2) (by omega)
                    have l2 := S2.out.cell HP.out (t := a) (by omega)
                    have hxy := uless dk[j2]! dk[a]!
                    rw [HV.out] at hxy
                    obtain ⟨x, hx⟩ : ∃ x, x = dk[j2]! := ⟨_, rfl⟩
                    obtain ⟨y, hy⟩ : ∃ x, x = dk[a]! := ⟨_, rfl⟩
                    rw [← hx] at hxy l1
                    rw [← hy] at hxy l2
                    have HXY : Hid (∀ W, Calls Try.prog 53 #[.int .u64 x, .int .u64 y] W fun e w' => e = .returned (.bool false) ∧ W = w') := hxy
                    clear hx hy hxy HV
                    go_wp2_with fail
                    go_quiet ((go_at_call 53; exact Calls.quiet_of_same ((HXY.out _).mono fun _ _ h => ⟨h.1, h.2.symm⟩)))
                    have S9 := Lib.hid (S2.out.drewN nq)
                    clear l1 l2 S2 HXY
                    generalize wr.drewN nq = w9 at S9 ⊢
                    clear nq
                    go_wp2_with fail
                    go_roundw
                    case rel => exact ⟨j2 - 1, by first | (congr 1; omega) | congr 1, by omega, by omega, S9, HS⟩
                    case measure => simp [intOf] <;> omega
                · have g0 : decide ((i2 : Int) ≤ (j2 : Int)) = false := by simpa using hle
                  have HS : Hid (j2 = scanDown (fun x => !ltInt x dk[a]!) dk i2 j) := by
                    show _ = _
                    rw [← HU.out, scanDown_end (fun x => !ltInt x dk[a]!) _ _ _ (.inl hle)]
                  go_wp2_with fail
                  go_quiet (fail)
                  have S9 := Lib.hid (S2.out.drewN nq)
                  clear S2
                  generalize wr.drewN nq = w9 at S9 ⊢
                  clear nq
                  go_wp2_with fail
                  go_meet
                  exact ⟨j2, rfl, hj1, hj2, S9, HS⟩
            case rest =>
              clear S1
              obtain ⟨j2, rfl, hj1, hj2, S1, HD⟩ := hcut
              rename World => wz
              have bj : j2 < dk.size := by omega
              have bka : a < dk.size := by omega
              have yj : (j2 : Int) < (d.size : Int) := by omega
              by_cases hlt : j2 < i2
              · have g1 : (j2 : Int) < (i2 : Int) := by omega
                have HE : Hid (partLoop ltInt a i9 j9 d2 = (j2, dk)) := by
                  show _ = _
                  rw [← HI.out]
                  exact part_break ltInt a i j dk HU.out HD.out hlt
                clear HU HD HI
                have S8 := Lib.hid ((S1.out.swap HP.out (i := j2) (j := a) (by omega) (by omega)).drew)
                have l1 := S1.out.cell HP.out (t := j2) (by omega)
                have l2 := S1.out.cell HP.out (t := a) (by omega)
                have f1 := S1.out.frz HP.out j2
                have f2 := S1.out.frz HP.out a
                obtain ⟨u, c2⟩ := S1.out.c2 HP.out (i := j2) (j := a) (by omega) (by omega) dk[a]!
                obtain ⟨x, hx⟩ : ∃ x, x = dk[j2]! := ⟨_, rfl⟩
                obtain ⟨y, hy⟩ : ∃ x, x = dk[a]! := ⟨_, rfl⟩
                rw [← hx, ← hy] at S8
                rw [← hx] at l1
                rw [← hy] at l2 c2
                clear hx hy S1
                go_wp2_with fail
                go_region
                clear l1 l2 f1 f2 c2
                generalize ((wz.setCell (p.add j2) (.int .u64 y)).setCell (p.add a) (.int .u64 x)).drew = w8 at S8 ⊢
                go_wp2_with fail
                refine bodyPost_ret (results_tmp2 rfl _ _ _) rfl ?_
                have HF : Sort.partition ltInt d a b pivot = (j2, false, swp dk j2 a) := by rw [HPT.out, HE.out]
                exact ⟨⟨j2, false, rfl, by rw [HF], by rw [HF]⟩, by rw [HF]; exact S8.out⟩
              · have g1 : ¬ ((j2 : Int) < (i2 : Int)) := by omega
                have HLT : Hid (i2 < j2) := part_scans_lt ltInt a i j dk (by omega) HU.out HD.out (by omega)
                have HN : Hid (partLoop ltInt a (i2 + 1) (j2 - 1) (swp dk i2 j2) = partLoop ltInt a i9 j9 d2) := by
                  show _ = _
                  rw [← HI.out, part_go ltInt a i j dk HU.out HD.out (by omega)]
                have bi : i2 < dk.size := by omega
                have yi : (i2 : Int) < (d.size : Int) := by omega
                have HSZ2 : Hid ((swp dk i2 j2).size = d.size) := by show _ = _; rw [size_swp]; exact hsk
                clear HU HD HI
                have S8 := Lib.hid ((S1.out.swap HP.out (i := i2) (j := j2) (by omega) (by omega)).drew)
                have l1 := S1.out.cell HP.out (t := i2) (by omega)
                have l2 := S1.out.cell HP.out (t := j2) (by omega)
                have f1 := S1.out.frz HP.out i2
                have f2 := S1.out.frz HP.out j2
                obtain ⟨u, c2⟩ := S1.out.c2 HP.out (i := i2) (j := j2) (by omega) (by omega) dk[j2]!
                obtain ⟨x, hx⟩ : ∃ x, x = dk[i2]! := ⟨_, rfl⟩
                obtain ⟨y, hy⟩ : ∃ x, x = dk[j2]! := ⟨_, rfl⟩
                rw [← hx, ← hy] at S8
                rw [← hx] at l1
                rw [← hy] at l2 c2
                clear hx hy S1
                go_wp2_with fail
                go_region
                clear l1 l2 f1 f2 c2
                generalize ((wz.setCell (p.add i2) (.int .u64 y)).setCell (p.add j2) (.int .u64 x)).drew = w8 at S8 ⊢
                go_wp2_with fail
                go_roundw
                case rel => exact ⟨i2 + 1, j2 - 1, swp dk i2 j2, by go_num, by have := HLT.out; first | (congr 1; omega) | congr 1, by omega, by have := HLT.out; omega, by omega, HSZ2.out, S8.out, HN.out⟩
                case measure => have := HLT.out; simp [intOf] <;> omega
end Go.Proofs.Ytfhengihdlojmaa
