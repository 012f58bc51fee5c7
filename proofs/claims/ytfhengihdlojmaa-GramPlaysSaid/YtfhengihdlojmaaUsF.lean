/-
  partitionEqual of numbers.
-/
import Derived.Test.YtfhengihdlojmaaUsE
import Derived.Sort.WalkC
import Derived.Deep.DeepCutAuto
import Derived.Deep.CutBlock
namespace Go.Proofs.Ytfhengihdlojmaa
open Go.RowKit Go.Sort

set_option maxRecDepth 20000 in
set_option maxHeartbeats 8000000 in
theorem upartEq {w0 : World} {B : Nat} {rest : List Value} {d : Array Int} {w : World} (S : Us.Row w0 B rest d w) (cap a b pivot : Nat) (hap : a ≤ pivot) (hpb : pivot < b) (hb : b ≤ d.size) (hsz : d.size ≤ 1000000) :
    Calls Try.prog 54 #[.slice (some ⟨B, 0, none⟩) d.size cap, .int .i64 (a : Int), .int .i64 (b : Int), .int .i64 (pivot : Int)] w fun e w' => (∃ m : Nat, e = .returned (.int .i64 (m : Int)) ∧ m = (partitionEqual ltInt d a b pivot).1) ∧ Us.Row w0 B rest (partitionEqual ltInt d a b pivot).2 w' := by
  have S0 := Lib.hid S
  obtain ⟨p, hp⟩ : ∃ p : Addr, p = ⟨B, 0, none⟩ := ⟨_, rfl⟩
  rw [← hp]
  have HP := Lib.hid hp
  obtain ⟨b1, hb1⟩ : ∃ b1, b1 = b - 1 := ⟨_, rfl⟩
  have zb : (b : Int) - 1 = (b1 : Int) := by omega
  have hb9 : (b : Int) ≤ 1000000 := by omega
  have hsz2 : (d.size : Int) ≤ 1000000 := by omega
  have ba : a < d.size := by omega
  have bp : pivot < d.size := by omega
  have ya : (a : Int) < (d.size : Int) := by omega
  have yp : (pivot : Int) < (d.size : Int) := by omega
  have hb2 : b1 < d.size := by omega
  have HAB : Hid (b1 = b - 1 ∧ a ≤ b1) := ⟨hb1, by omega⟩
  clear S hp hb1
  have HSZ0 : Hid ((swp d a pivot).size = d.size) := by show _ = _; rw [size_swp]
  go_enter Try.func54, Try.ntmps54
  have S1 := Lib.hid ((S0.out.swap HP.out (i := a) (j := pivot) (by omega) (by omega)).drew)
  have l1 := S0.out.cell HP.out (t := a) (by omega)
  have l2 := S0.out.cell HP.out (t := pivot) (by omega)
  have f1 := S0.out.frz HP.out a
  have f2 := S0.out.frz HP.out pivot
  obtain ⟨u, c2⟩ := S0.out.c2 HP.out (i := a) (j := pivot) (by omega) (by omega) d[pivot]!
  obtain ⟨x, hx⟩ : ∃ x, x = d[a]! := ⟨_, rfl⟩
  obtain ⟨y, hy⟩ : ∃ x, x = d[pivot]! := ⟨_, rfl⟩
  rw [← hx, ← hy] at S1
  rw [← hx] at l1
  rw [← hy] at l2 c2
  clear hx hy S0
  go_wp2_with fail
  go_region
  clear l1 l2 f1 f2 c2
  generalize ((w.setCell (p.add a) (.int .u64 y)).setCell (p.add pivot) (.int .u64 x)).drew = w1 at S1 ⊢
  have HPE : Hid (partitionEqual ltInt d a b pivot = partEqLoop ltInt a (a + 1) b1 (swp d a pivot)) := by
    show _ = _
    unfold partitionEqual
    rw [HAB.out.1]
  generalize swp d a pivot = d1 at S1 HPE HSZ0
  have hs1 : d1.size = d.size := HSZ0.out
  go_wp2_with fail
  go_loopw [9, 10] (fun vi vj wr => ∃ (i j : Nat) (dk : Array Int), vi = .int .i64 i ∧ vj = .int .i64 j ∧ a < i ∧ i ≤ j + 1 ∧ j < d.size ∧ dk.size = d.size ∧ Hid (Us.Row w0 B rest dk wr) ∧ Hid (partEqLoop ltInt a i j dk = partEqLoop ltInt a (a + 1) b1 d1)) (fun vi vj _ => (intOf vj + 1 - intOf vi).toNat)
  case atStart => exact ⟨a + 1, b1, d1, by go_num, rfl, by omega, by have := HAB.out; omega, hb2, hs1, S1.out, rfl⟩
  case round =>
    clear S1
    obtain ⟨i, j, dk, rfl, rfl, hai, hij, hjd, hsk, S1, HI⟩ := hrel
    go_upto_block 2 with fail
    go_cut [9] (fun v wx => ∃ i2 : Nat, v = .int .i64 (i2 : Int) ∧ i ≤ i2 ∧ i2 ≤ j + 1 ∧ Hid (Us.Row w0 B rest dk wx) ∧ Hid (i2 = scanUp (fun x => !ltInt dk[a]! x) dk j i))
    case first =>
      go_wp2_with fail
      go_loopw [9] (fun vi wx => ∃ i2 : Nat, vi = .int .i64 (i2 : Int) ∧ i ≤ i2 ∧ i2 ≤ j + 1 ∧ Hid (Us.Row w0 B rest dk wx) ∧ Hid (scanUp (fun x => !ltInt dk[a]! x) dk j i2 = scanUp (fun x => !ltInt dk[a]! x) dk j i)) (fun vi _ => j + 1 - (intOf vi).toNat)
      case atStart => exact ⟨i, rfl, Nat.le_refl _, by omega, S1, rfl⟩
      case round =>
        clear S1
        obtain ⟨i2, rfl, hi1, hi2, S2, HU⟩ := hrel
        by_cases hle : i2 ≤ j
        · have g0 : decide ((i2 : Int) ≤ (j : Int)) = true := by simpa using hle
          have y1 : (i2 : Int) < (d.size : Int) := by omega
          have b1' : i2 < dk.size := by omega
          have ba' : a < dk.size := by omega
          cases hv : ltInt dk[a]! dk[i2]! with
          | true =>
            have HS : Hid (i2 = scanUp (fun x => !ltInt dk[a]! x) dk j i) := by
              show _ = _
              rw [← HU.out, scanUp_end _ _ _ _ (.inr (by simp only [hv]; rfl))]
            have HV := Lib.hid hv
            clear hv
            have l1 := S2.out.cell HP.out (t := a) (by omega)
            have l2 := S2.out.cell HP.out (t := i2) (by omega)
            have hxy := uless dk[a]! dk[i2]!
            rw [HV.out] at hxy
            obtain ⟨x, hx⟩ : ∃ x, x = dk[a]! := ⟨_, rfl⟩
            obtain ⟨y, hy⟩ : ∃ x, x = dk[i2]! := ⟨_, rfl⟩
            rw [← hx] at hxy l1
            rw [← hy] at hxy l2
            have HXY : Hid (∀ W, Calls Try.prog 53 #[.int .u64 x, .int .u64 y] W fun e w' => e = .returned (.bool true) ∧ W = w') := hxy
            clear hx hy hxy HV
            go_wp2_with fail
            go_quiet ((go_at_call 53; exact Calls.quiet_of_same ((HXY.out _).mono fun _ _ h => ⟨h.1, h.2.symm⟩)))
            have S9 := Lib.hid (S2.out.drewN nq)
            clear l1 l2 S2 HXY
            generalize wr.drewN nq = w9 at S9 ⊢
            clear nq
            go_wp2_with fail
            go_meet
            exact ⟨i2, rfl, hi1, hi2, S9, HS⟩
          | false =>
            have HS : Hid (scanUp (fun x => !ltInt dk[a]! x) dk j (i2 + 1) = scanUp (fun x => !ltInt dk[a]! x) dk j i) := by
              show _ = _
              rw [← HU.out, scanUp_go _ _ _ _ hle (by simp only [hv]; rfl)]
            have HV := Lib.hid hv
            clear hv
            have l1 := S2.out.cell HP.out (t := a) (by omega)
            have l2 := S2.out.cell HP.out (t := i2) (by omega)
            have hxy := uless dk[a]! dk[i2]!
            rw [HV.out] at hxy
            obtain ⟨x, hx⟩ : ∃ x, x = dk[a]! := ⟨_, rfl⟩
            obtain ⟨y, hy⟩ : ∃ x, x = dk[i2]! := ⟨_, rfl⟩
            rw [← hx] at hxy l1
            rw [← hy] at hxy l2
            have HXY : Hid (∀ W, Calls Try.prog 53 #[.int .u64 x, .int .u64 y] W fun e w' => e = .returned (.bool false) ∧ W = w') := hxy
            clear hx hy hxy HV
            go_wp2_with fail
            go_quiet ((go_at_call 53; exact Calls.quiet_of_same ((HXY.out _).mono fun _ _ h => ⟨h.1, h.2.symm⟩)))
            have S9 := Lib.hid (S2.out.drewN nq)
            clear l1 l2 S2 HXY
            generalize wr.drewN nq = w9 at S9 ⊢
            clear nq
            go_wp2_with fail
            go_roundw
            case rel => exact ⟨i2 + 1, by go_num, by omega, by omega, S9, HS⟩
            case measure => simp [intOf] <;> omega
        · have g0 : decide ((i2 : Int) ≤ (j : Int)) = false := by simpa using hle
          have HS : Hid (i2 = scanUp (fun x => !ltInt dk[a]! x) dk j i) := by
            show _ = _
            rw [← HU.out, scanUp_end _ _ _ _ (.inl hle)]
          go_wp2_with fail
          go_quiet (fail)
          have S9 := Lib.hid (S2.out.drewN nq)
          clear S2
          generalize wr.drewN nq = w9 at S9 ⊢
          clear nq
          go_wp2_with fail
          go_meet
          exact ⟨i2, rfl, hi1, hi2, S9, HS⟩
    case rest =>
      clear S1
      obtain ⟨i2, rfl, hi1, hi2, S1, HU⟩ := hcut
      go_upto_block 4 with fail
      go_cut [10] (fun v wx => ∃ j2 : Nat, v = .int .i64 (j2 : Int) ∧ j2 ≤ j ∧ i2 ≤ j2 + 1 ∧ Hid (Us.Row w0 B rest dk wx) ∧ Hid (j2 = scanDown (fun x => ltInt dk[a]! x) dk i2 j))
      case first =>
        go_wp2_with fail
        go_loopw [10] (fun vj wx => ∃ j2 : Nat, vj = .int .i64 (j2 : Int) ∧ j2 ≤ j ∧ i2 ≤ j2 + 1 ∧ Hid (Us.Row w0 B rest dk wx) ∧ Hid (scanDown (fun x => ltInt dk[a]! x) dk i2 j2 = scanDown (fun x => ltInt dk[a]! x) dk i2 j)) (fun vj _ => (intOf vj).toNat)
        case atStart => exact ⟨j, rfl, Nat.le_refl _, by omega, S1, rfl⟩
        case round =>
          clear S1
          obtain ⟨j2, rfl, hj1, hj2, S2, HU⟩ := hrel
          by_cases hle : i2 ≤ j2
          · have g0 : decide ((i2 : Int) ≤ (j2 : Int)) = true := by simpa using hle
            have y1 : (j2 : Int) < (d.size : Int) := by omega
            have b1' : j2 < dk.size := by omega
            have ba' : a < dk.size := by omega
            cases hv : ltInt dk[a]! dk[j2]! with
            | false =>
              have HS : Hid (j2 = scanDown (fun x => ltInt dk[a]! x) dk i2 j) := by
                show _ = _
                rw [← HU.out, scanDown_end _ _ _ _ (.inr hv)]
              have HV := Lib.hid hv
              clear hv
              have l1 := S2.out.cell HP.out (t := a) (by omega)
              have l2 := S2.out.cell HP.out (t := j2) (by omega)
              have hxy := uless dk[a]! dk[j2]!
              rw [HV.out] at hxy
              obtain ⟨x, hx⟩ : ∃ x, x = dk[a]! := ⟨_, rfl⟩
              obtain ⟨y, hy⟩ : ∃ x, x = dk[j2]! := ⟨_, rfl⟩
              rw [← hx] at hxy l1
              rw [← hy] at hxy l2
              have HXY : Hid (∀ W, Calls Try.prog 53 #[.int .u64 x, .int .u64 y] W fun e w' => e = .returned (.bool false) ∧ W = w') := hxy
              clear hx hy hxy HV
              go_wp2_with fail
              go_quiet ((go_at_call 53; exact Calls.quiet_of_same ((HXY.out _).mono fun _ _ h => ⟨h.1, h.2.symm⟩)))
              have S9 := Lib.hid (S2.out.drewN nq)
              clear l1 l2 S2 HXY
              generalize wr.drewN nq = w9 at S9 ⊢
              clear nq
              go_wp2_with fail
              go_meet
              exact ⟨j2, rfl, hj1, hj2, S9, HS⟩
            | true =>
              have HS : Hid (scanDown (fun x => ltInt dk[a]! x) dk i2 (j2 - 1) = scanDown (fun x => ltInt dk[a]! x) dk i2 j) := by
                show _ = _
                rw [← HU.out, scanDown_go _ _ _ _ hle (by omega) hv]
              have HV := Lib.hid hv
              clear hv
              have l1 := S2.out.cell HP.out (t := a) (by omega)
              have l2 := S2.out.cell HP.out (t := j2) (by omega)
              have hxy := uless dk[a]! dk[j2]!
              rw [HV.out] at hxy
              obtain ⟨x, hx⟩ : ∃ x, x = dk[a]! := ⟨_, rfl⟩
              obtain ⟨y, hy⟩ : ∃ x, x = dk[j2]! := ⟨_, rfl⟩
              rw [← hx] at hxy l1
              rw [← hy] at hxy l2
              have HXY : Hid (∀ W, Calls Try.prog 53 #[.int .u64 x, .int .u64 y] W fun e w' => e = .returned (.bool true) ∧ W = w') := hxy
              clear hx hy hxy HV
              go_wp2_with fail
              go_quiet ((go_at_call 53; exact Calls.quiet_of_same ((HXY.out _).mono fun _ _ h => ⟨h.1, h.2.symm⟩)))
              have S9 := Lib.hid (S2.out.drewN nq)
              clear l1 l2 S2 HXY
              generalize wr.drewN nq = w9 at S9 ⊢
              clear nq
              go_wp2_with fail
              go_roundw
              case rel => exact ⟨j2 - 1, by first | (congr 1; omega) | congr 1, by omega, by omega, S9, HS⟩
              case measure => simp [intOf] <;> omega
          · have g0 : decide ((i2 : Int) ≤ (j2 : Int)) = false := by simpa using hle
            have HS : Hid (j2 = scanDown (fun x => ltInt dk[a]! x) dk i2 j) := by
              show _ = _
              rw [← HU.out, scanDown_end _ _ _ _ (.inl hle)]
            go_wp2_with fail
            go_quiet (fail)
            have S9 := Lib.hid (S2.out.drewN nq)
            clear S2
            generalize wr.drewN nq = w9 at S9 ⊢
            clear nq
            go_wp2_with fail
            go_meet
            exact ⟨j2, rfl, hj1, hj2, S9, HS⟩
      case rest =>
        clear S1
        obtain ⟨j2, rfl, hj1, hj2, S1, HD⟩ := hcut
        rename World => wz
        by_cases hlt : j2 < i2
        · have g1 : (j2 : Int) < (i2 : Int) := by omega
          have HE : Hid ((partitionEqual ltInt d a b pivot) = (i2, dk)) := by
            show _ = _
            rw [HPE.out, ← HI.out]
            exact partEq_break ltInt a i j dk HU.out HD.out hlt
          go_wp2_with fail
          go_ret
          refine ⟨⟨i2, rfl, by rw [HE.out]⟩, by rw [HE.out]; exact S1.out⟩
        · have g1 : ¬ ((j2 : Int) < (i2 : Int)) := by omega
          have HLT : Hid (i2 < j2) := scans_lt ltInt a i j dk (by omega) HU.out HD.out (by omega)
          have HN : Hid (partEqLoop ltInt a (i2 + 1) (j2 - 1) (swp dk i2 j2) = partEqLoop ltInt a (a + 1) b1 d1) := by
            show _ = _
            rw [← HI.out, partEq_go ltInt a i j dk HU.out HD.out (by omega)]
          have bi : i2 < dk.size := by omega
          have bj : j2 < dk.size := by omega
          have yi : (i2 : Int) < (d.size : Int) := by omega
          have yj : (j2 : Int) < (d.size : Int) := by omega
          have HSZ : Hid ((swp dk i2 j2).size = d.size) := by show _ = _; rw [size_swp]; exact hsk
          clear HU HD HI
          have S8 := Lib.hid ((S1.out.swap HP.out (i := i2) (j := j2) (by omega) (by omega)).drew)
          have l1 := S1.out.cell HP.out (t := i2) (by omega)
          have l2 := S1.out.cell HP.out (t := j2) (by omega)
          have f1 := S1.out.frz HP.out i2
          have f2 := S1.out.frz HP.out j2
          obtain ⟨u, c2⟩ := S1.out.c2 HP.out (i := i2) (j := j2) (by omega) (by omega) dk[j2]!
          obtain ⟨x, hx⟩ : ∃ x, x = dk[i2]! := ⟨_, rfl⟩
          obtain ⟨y, hy⟩ : ∃ x, x = dk[j2]! := ⟨_, rfl⟩
          rw [← hx, ← hy] at S8
          rw [← hx] at l1
          rw [← hy] at l2 c2
          clear hx hy S1
          go_wp2_with fail
          go_region
          clear l1 l2 f1 f2 c2
          generalize ((wz.setCell (p.add i2) (.int .u64 y)).setCell (p.add j2) (.int .u64 x)).drew = w8 at S8 ⊢
          go_wp2_with fail
          go_roundw
          case rel => exact ⟨i2 + 1, j2 - 1, swp dk i2 j2, by go_num, by have := HLT.out; first | (congr 1; omega) | congr 1, by omega, by have := HLT.out; omega, by omega, HSZ.out, S8.out, HN.out⟩
          case measure => have := HLT.out; simp [intOf] <;> omega
end Go.Proofs.Ytfhengihdlojmaa
