/-
  Insertion sort of numbers.
-/
import Derived.Test.YtfhengihdlojmaaUsA
import Derived.BigQuiet
namespace Go.Proofs.Ytfhengihdlojmaa
open Go.RowKit Go.Sort

set_option maxRecDepth 20000 in
set_option maxHeartbeats 4000000 in
theorem uinsertion {w0 : World} {B : Nat} {rest : List Value} {d : Array Int} {w : World} (S : Us.Row w0 B rest d w) (cap a b : Nat) (hab : a ≤ b) (hb : b ≤ d.size) (hsz : d.size ≤ 1000000) :
    Calls Try.prog 47 #[.slice (some ⟨B, 0, none⟩) d.size cap, .int .i64 (a : Int), .int .i64 (b : Int)] w fun e w' => e = .returned (.tuple #[]) ∧ Us.Row w0 B rest (insertionSort ltInt d a b) w' := by
  have S0 := Lib.hid S
  obtain ⟨p, hp⟩ : ∃ p : Addr, p = ⟨B, 0, none⟩ := ⟨_, rfl⟩
  rw [← hp]
  have HP := Lib.hid hp
  have hbz : (b : Int) ≤ (d.size : Int) := by omega
  have hsz2 : (d.size : Int) ≤ 1000000 := by omega
  clear S hp
  go_enter Try.func47, Try.ntmps47
  go_wp2_with fail
  go_loopw [6] (fun vi wr => ∃ (i : Nat) (dk : Array Int), vi = .int .i64 i ∧ a < i ∧ i ≤ b + 1 ∧ dk.size = d.size ∧ Hid (Us.Row w0 B rest dk wr) ∧ Hid (insOuter ltInt a b i dk = insOuter ltInt a b (a + 1) d)) (fun vi _ => b + 1 - (intOf vi).toNat)
  case atStart => exact ⟨a + 1, d, by go_num, by omega, by omega, rfl, S0.out, rfl⟩
  case round =>
    clear S0
    obtain ⟨i, dk, rfl, hai, hib, hsk, S1, HO⟩ := hrel
    by_cases hlt : i < b
    · have hltz : (i : Int) < (b : Int) := by omega
      go_wp2_with fail
      go_loopw [7] (fun vj wr2 => ∃ (j : Nat) (dj : Array Int), vj = .int .i64 j ∧ a ≤ j ∧ j ≤ i ∧ dj.size = d.size ∧ Hid (Us.Row w0 B rest dj wr2) ∧ Hid (insInner ltInt a j dj = insInner ltInt a i dk)) (fun vj _ => (intOf vj).toNat)
      case atStart => exact ⟨i, dk, rfl, by omega, Nat.le_refl _, hsk, S1.out, rfl⟩
      case round =>
        clear S1
        obtain ⟨j, dj, rfl, haj, hji, hsj, SJ, HI⟩ := hrel
        have OUT : Hid ((j ≤ a ∨ ltInt dj[j]! dj[j - 1]! = false) → insOuter ltInt a b (i + 1) dj = insOuter ltInt a b (a + 1) d) := fun hs => by
          rw [← HO.out, insOuter_go _ _ _ _ _ hlt, ← HI.out, insInner_stop _ _ _ _ hs]
        by_cases hja : a < j
        · obtain ⟨q, hq⟩ : ∃ q, q = j - 1 := ⟨_, rfl⟩
          rw [← hq] at OUT
          have zq : (j : Int) - 1 = (q : Int) := by omega
          have g0 : decide ((a : Int) < (j : Int)) = true := by simpa using hja
          have g1 : (j : Int) < (d.size : Int) := by omega
          have g2 : (q : Int) < (d.size : Int) := by omega
          have HQ := Lib.hid hq
          have q1 : q < dj.size := by omega
          have j1 : j < dj.size := by omega
          clear hq
          have l1 := SJ.out.cell HP.out (t := j) (by omega)
          have l2 := SJ.out.cell HP.out (t := q) (by omega)
          have hxy := uless dj[j]! dj[q]!
          cases hv : ltInt dj[j]! dj[q]! with
          | true =>
            rw [hv] at hxy
            have HN : Hid (insInner ltInt a q (swp dj j q) = insInner ltInt a i dk) := by
              show _ = _
              rw [← HI.out, insInner_go ltInt a j dj hja (by rw [← HQ.out]; exact hv), ← HQ.out]
            have S3 := fun W (h : Us.Row w0 B rest dj W) => (h.swap HP.out (i := j) (j := q) (by omega) (by omega)).drew
            have C2 := fun W (h : Us.Row w0 B rest dj W) => h.c2 HP.out (i := j) (j := q) (by omega) (by omega) dj[q]!
            have L1 := fun W (h : Us.Row w0 B rest dj W) => h.cell HP.out (t := j) (by omega)
            have L2 := fun W (h : Us.Row w0 B rest dj W) => h.cell HP.out (t := q) (by omega)
            obtain ⟨x, hx⟩ : ∃ x, x = dj[j]! := ⟨_, rfl⟩
            obtain ⟨y, hy⟩ : ∃ x, x = dj[q]! := ⟨_, rfl⟩
            rw [← hx] at hxy l1 S3 L1
            rw [← hy] at hxy l2 S3 C2 L2
            have HXY : Hid (∀ W, Calls Try.prog 53 #[.int .u64 x, .int .u64 y] W fun e w' => e = .returned (.bool true) ∧ W = w') := hxy
            have HS3 := Lib.hid S3
            have HC2 := Lib.hid C2
            have HL1 := Lib.hid L1
            have HL2 := Lib.hid L2
            have HSZ : Hid ((swp dj j q).size = d.size) := by show _ = _; rw [size_swp]; exact hsj
            clear hx hy hxy S3 C2 L1 L2 hv OUT HI j1 q1
            go_wp2_with fail
            go_quiet ((go_at_call 53; exact Calls.quiet_of_same ((HXY.out _).mono fun _ _ h => ⟨h.1, h.2.symm⟩)))
            have S2 := SJ.out.drewN nq
            clear l1 l2 SJ
            generalize wr.drewN nq = w2 at S2 ⊢
            have l1 := HL1.out w2 S2
            have l2 := HL2.out w2 S2
            have f1 := S2.frz HP.out j
            have f2 := S2.frz HP.out q
            obtain ⟨u, c2⟩ := HC2.out w2 S2
            have S4 := Lib.hid (HS3.out w2 S2)
            clear S2
            go_wp2_with fail
            go_region
            clear l1 l2 f1 f2 c2
            generalize ((w2.setCell (p.add j) (.int .u64 y)).setCell (p.add q) (.int .u64 x)).drew = w3 at S4 ⊢
            go_wp2_with fail
            go_roundw
            case rel => exact ⟨q, swp dj j q, rfl, by have := HQ.out; omega, by have := HQ.out; omega, HSZ.out, S4.out, HN.out⟩
            case measure => have := HQ.out; simp [intOf]; omega
          | false =>
            rw [hv] at hxy
            have HO2 := Lib.hid (OUT.out (.inr hv))
            obtain ⟨x, hx⟩ : ∃ x, x = dj[j]! := ⟨_, rfl⟩
            obtain ⟨y, hy⟩ : ∃ x, x = dj[q]! := ⟨_, rfl⟩
            rw [← hx] at hxy l1
            rw [← hy] at hxy l2
            have HXY : Hid (∀ W, Calls Try.prog 53 #[.int .u64 x, .int .u64 y] W fun e w' => e = .returned (.bool false) ∧ W = w') := hxy
            clear hx hy hxy hv OUT HI j1 q1
            go_wp2_with fail
            go_quiet ((go_at_call 53; exact Calls.quiet_of_same ((HXY.out _).mono fun _ _ h => ⟨h.1, h.2.symm⟩)))
            have S2 := Lib.hid (SJ.out.drewN nq)
            clear l1 l2 SJ
            generalize wr.drewN nq = w2 at S2 ⊢
            go_wp2_with fail
            go_roundw
            case rel => exact ⟨i + 1, dj, by go_num, by omega, by omega, hsj, S2.out, HO2.out⟩
            case measure => simp [intOf]; omega
        · have g0 : decide ((a : Int) < (j : Int)) = false := by simpa using hja
          have HO2 := Lib.hid (OUT.out (.inl (by omega)))
          clear OUT HI
          go_wp2_with fail
          go_quiet (fail)
          have S2 := Lib.hid (SJ.out.drewN nq)
          clear SJ
          generalize wr.drewN nq = w2 at S2 ⊢
          go_wp2_with fail
          go_roundw
          case rel => exact ⟨i + 1, dj, by go_num, by omega, by omega, hsj, S2.out, HO2.out⟩
          case measure => simp [intOf]; omega
    · have hltz : ¬ ((i : Int) < (b : Int)) := by omega
      have HE : Hid (dk = insertionSort ltInt d a b) := by
        show _ = _
        unfold insertionSort
        rw [← HO.out, insOuter_stop _ _ _ _ _ hlt]
      go_wp2_with fail
      go_end0
      exact ⟨rfl, by rw [← HE.out]; exact S1.out⟩
end Go.Proofs.Ytfhengihdlojmaa
