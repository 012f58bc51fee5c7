/-
  siftDown of numbers.
-/
import Derived.Test.YtfhengihdlojmaaUsB
import Derived.Sort.WalkB2
namespace Go.Proofs.Ytfhengihdlojmaa
open Go.RowKit Go.Sort

namespace Us
/-- Where a round of siftDown looks. -/
structure SiftPl (first root c e x1 x2 : Nat) : Prop where
  c : c = 2 * root + 1
  e : e = 2 * root + 2
  x1 : x1 = first + (2 * root + 1)
  x2 : x2 = first + (2 * root + 2)
end Us

set_option maxRecDepth 20000 in
set_option maxHeartbeats 4000000 in
theorem usift {w0 : World} {B : Nat} {rest : List Value} {d : Array Int} {w : World} (S : Us.Row w0 B rest d w) (cap lo hi first : Nat) (hlo : lo ≤ hi) (hb : first + hi ≤ d.size) (hsz : d.size ≤ 1000000) :
    Calls Try.prog 58 #[.slice (some ⟨B, 0, none⟩) d.size cap, .int .i64 (lo : Int), .int .i64 (hi : Int), .int .i64 (first : Int)] w fun e w' => e = .returned (.tuple #[]) ∧ Us.Row w0 B rest (siftDown ltInt hi first lo d) w' := by
  have S0 := Lib.hid S
  obtain ⟨p, hp⟩ : ∃ p : Addr, p = ⟨B, 0, none⟩ := ⟨_, rfl⟩
  rw [← hp]
  have HP := Lib.hid hp
  have hsz2 : (d.size : Int) ≤ 1000000 := by omega
  have hh2 : (hi : Int) ≤ 1000000 := by omega
  have hf2 : (first : Int) ≤ 1000000 := by omega
  clear S hp
  go_enter Try.func58, Try.ntmps58
  go_wp2_with fail
  go_loopw [8] (fun vi wr => ∃ (root : Nat) (dk : Array Int), vi = .int .i64 root ∧ root ≤ hi ∧ dk.size = d.size ∧ Hid (Us.Row w0 B rest dk wr) ∧ Hid (siftDown ltInt hi first root dk = siftDown ltInt hi first lo d)) (fun vi _ => hi - (intOf vi).toNat)
  case atStart => exact ⟨lo, d, rfl, hlo, rfl, S0.out, rfl⟩
  case round =>
    clear S0
    obtain ⟨root, dk, rfl, hrt, hsk, S1, HI⟩ := hrel
    have hr9 : (root : Int) ≤ 1000000 := by omega
    obtain ⟨c, hc⟩ : ∃ c, c = 2 * root + 1 := ⟨_, rfl⟩
    obtain ⟨e, he⟩ : ∃ e, e = 2 * root + 2 := ⟨_, rfl⟩
    obtain ⟨r1, hr1⟩ : ∃ r1, r1 = first + root := ⟨_, rfl⟩
    obtain ⟨x1, hx1⟩ : ∃ x1, x1 = first + (2 * root + 1) := ⟨_, rfl⟩
    obtain ⟨x2, hx2⟩ : ∃ x2, x2 = first + (2 * root + 2) := ⟨_, rfl⟩
    have HX : Hid (Us.SiftPl first root c e x1 x2) := ⟨hc, he, hx1, hx2⟩
    have HR1 : Hid (r1 = first + root) := hr1
    have zc : 2 * (root : Int) + 1 = (c : Int) := by omega
    have ze : (c : Int) + 1 = (e : Int) := by omega
    have zr1 : (first : Int) + (root : Int) = (r1 : Int) := by omega
    have zx1 : (first : Int) + (c : Int) = (x1 : Int) := by omega
    have zx2 : (x1 : Int) + 1 = (x2 : Int) := by omega
    have zx3 : (first : Int) + (e : Int) = (x2 : Int) := by omega
    have c9 : (c : Int) ≤ 2000001 := by omega
    have e9 : (e : Int) ≤ 2000002 := by omega
    by_cases hlc : hi ≤ c
    · have gc : (hi : Int) ≤ (c : Int) := by omega
      have HE : Hid (dk = siftDown ltInt hi first lo d) := by
        show _ = _
        rw [← HI.out, sd_end _ _ (by omega)]
      clear hc he hr1 hx1 hx2
      go_wp2_with fail
      go_end0
      exact ⟨rfl, by rw [← HE.out]; exact S1.out⟩
    · have gc : ¬ ((hi : Int) ≤ (c : Int)) := by omega
      have b1 : x1 < dk.size := by omega
      have b3 : r1 < dk.size := by omega
      have y1 : (x1 : Int) < (d.size : Int) := by omega
      have y3 : (r1 : Int) < (d.size : Int) := by omega
      by_cases hle : e < hi
      · have ge : decide ((e : Int) < (hi : Int)) = true := by simpa using hle
        have b2 : x2 < dk.size := by omega
        have y2 : (x2 : Int) < (d.size : Int) := by omega
        clear hc he hr1 hx1 hx2
        cases hv : ltInt dk[x1]! dk[x2]! with
        | true =>
          have HV1 : Hid (ltInt dk[first + (2 * root + 1)]! dk[first + (2 * root + 2)]! = true) := by
            show _ = _
            rw [← HX.out.x1, ← HX.out.x2]; exact hv
          have HLE : Hid (2 * root + 2 < hi) := by have := HX.out.e; show _ < _; omega
          have HV := Lib.hid hv
          clear hv
          have l1 := S1.out.cell HP.out (t := x1) (by omega)
          have l2 := S1.out.cell HP.out (t := x2) (by omega)
          have hxy := uless dk[x1]! dk[x2]!
          rw [HV.out] at hxy
          obtain ⟨x, hx⟩ : ∃ x, x = dk[x1]! := ⟨_, rfl⟩
          obtain ⟨y, hy⟩ : ∃ x, x = dk[x2]! := ⟨_, rfl⟩
          rw [← hx] at hxy l1
          rw [← hy] at hxy l2
          have HXY : Hid (∀ W, Calls Try.prog 53 #[.int .u64 x, .int .u64 y] W fun e w' => e = .returned (.bool true) ∧ W = w') := hxy
          clear hx hy hxy HV
          go_wp2_with fail
          go_quiet ((go_at_call 53; exact Calls.quiet_of_same ((HXY.out _).mono fun _ _ h => ⟨h.1, h.2.symm⟩)))
          have S2 := Lib.hid (S1.out.drewN nq)
          clear l1 l2 S1 HXY
          generalize wr.drewN nq = w2 at S2 ⊢
          clear nq
          cases hv3 : ltInt dk[r1]! dk[x2]! with
          | false =>
            have HV := Lib.hid hv3
            have HE : Hid (dk = siftDown ltInt hi first lo d) := by
              show _ = _
              have h3 := hv3
              rw [HR1.out, HX.out.x2] at h3
              rw [← HI.out]
              exact (sd_right_stop ltInt dk HLE.out HV1.out h3).symm
            clear hv3 HI
            have l1 := S2.out.cell HP.out (t := r1) (by omega)
            have l2 := S2.out.cell HP.out (t := x2) (by omega)
            have hxy := uless dk[r1]! dk[x2]!
            rw [HV.out] at hxy
            obtain ⟨x, hx⟩ : ∃ x, x = dk[r1]! := ⟨_, rfl⟩
            obtain ⟨y, hy⟩ : ∃ x, x = dk[x2]! := ⟨_, rfl⟩
            rw [← hx] at hxy l1
            rw [← hy] at hxy l2
            have HXY : Hid (∀ W, Calls Try.prog 53 #[.int .u64 x, .int .u64 y] W fun e w' => e = .returned (.bool false) ∧ W = w') := hxy
            clear hx hy hxy HV
            go_wp2_with fail
            go_quiet ((go_at_call 53; exact Calls.quiet_of_same ((HXY.out _).mono fun _ _ h => ⟨h.1, h.2.symm⟩)))
            have S5 := Lib.hid (S2.out.drewN nq)
            clear l1 l2 S2 HXY
            generalize w2.drewN nq = w5 at S5 ⊢
            clear nq
            go_wp2_with fail
            refine bodyPost_ret (results_none rfl _ _ _) rfl ?_
            exact ⟨rfl, by rw [← HE.out]; exact S5.out⟩
          | true =>
            have HV := Lib.hid hv3
            have HN : Hid (siftDown ltInt hi first e (swp dk r1 x2) = siftDown ltInt hi first lo d) := by
              show _ = _
              have h3 := hv3
              rw [HR1.out, HX.out.x2] at h3
              rw [← HI.out, HR1.out, HX.out.x2, HX.out.e]
              exact (sd_right_go ltInt dk HLE.out HV1.out h3).symm
            have HSZ : Hid ((swp dk r1 x2).size = d.size) := by show _ = _; rw [size_swp]; exact hsk
            clear hv3 HI
            have l1 := S2.out.cell HP.out (t := r1) (by omega)
            have l2 := S2.out.cell HP.out (t := x2) (by omega)
            have hxy := uless dk[r1]! dk[x2]!
            rw [HV.out] at hxy
            obtain ⟨x, hx⟩ : ∃ x, x = dk[r1]! := ⟨_, rfl⟩
            obtain ⟨y, hy⟩ : ∃ x, x = dk[x2]! := ⟨_, rfl⟩
            rw [← hx] at hxy l1
            rw [← hy] at hxy l2
            have HXY : Hid (∀ W, Calls Try.prog 53 #[.int .u64 x, .int .u64 y] W fun e w' => e = .returned (.bool true) ∧ W = w') := hxy
            clear hx hy hxy HV
            go_wp2_with fail
            go_quiet ((go_at_call 53; exact Calls.quiet_of_same ((HXY.out _).mono fun _ _ h => ⟨h.1, h.2.symm⟩)))
            have S5 := Lib.hid (S2.out.drewN nq)
            clear l1 l2 S2 HXY
            generalize w2.drewN nq = w5 at S5 ⊢
            clear nq
            have S6 := Lib.hid ((S5.out.swap HP.out (i := r1) (j := x2) (by omega) (by omega)).drew)
            have l1 := S5.out.cell HP.out (t := r1) (by omega)
            have l2 := S5.out.cell HP.out (t := x2) (by omega)
            have f1 := S5.out.frz HP.out r1
            have f2 := S5.out.frz HP.out x2
            obtain ⟨u, c2⟩ := S5.out.c2 HP.out (i := r1) (j := x2) (by omega) (by omega) dk[x2]!
            obtain ⟨x, hx⟩ : ∃ x, x = dk[r1]! := ⟨_, rfl⟩
            obtain ⟨y, hy⟩ : ∃ x, x = dk[x2]! := ⟨_, rfl⟩
            rw [← hx, ← hy] at S6
            rw [← hx] at l1
            rw [← hy] at l2 c2
            clear hx hy S5
            go_wp2_with fail
            go_region
            clear l1 l2 f1 f2 c2
            generalize ((w5.setCell (p.add r1) (.int .u64 y)).setCell (p.add x2) (.int .u64 x)).drew = w6 at S6 ⊢
            go_wp2_with fail
            go_roundw
            case rel => exact ⟨e, swp dk r1 x2, rfl, by have := HX.out.e; omega, HSZ.out, S6.out, HN.out⟩
            case measure => have := HX.out.e; simp [intOf]; omega
        | false =>
          have HV1 : Hid (ltInt dk[first + (2 * root + 1)]! dk[first + (2 * root + 2)]! = false) := by
            show _ = _
            rw [← HX.out.x1, ← HX.out.x2]; exact hv
          have HLC : Hid (2 * root + 1 < hi) := by have := HX.out.c; show _ < _; omega
          have HV := Lib.hid hv
          clear hv
          have l1 := S1.out.cell HP.out (t := x1) (by omega)
          have l2 := S1.out.cell HP.out (t := x2) (by omega)
          have hxy := uless dk[x1]! dk[x2]!
          rw [HV.out] at hxy
          obtain ⟨x, hx⟩ : ∃ x, x = dk[x1]! := ⟨_, rfl⟩
          obtain ⟨y, hy⟩ : ∃ x, x = dk[x2]! := ⟨_, rfl⟩
          rw [← hx] at hxy l1
          rw [← hy] at hxy l2
          have HXY : Hid (∀ W, Calls Try.prog 53 #[.int .u64 x, .int .u64 y] W fun e w' => e = .returned (.bool false) ∧ W = w') := hxy
          clear hx hy hxy HV
          go_wp2_with fail
          go_quiet ((go_at_call 53; exact Calls.quiet_of_same ((HXY.out _).mono fun _ _ h => ⟨h.1, h.2.symm⟩)))
          have S2 := Lib.hid (S1.out.drewN nq)
          clear l1 l2 S1 HXY
          generalize wr.drewN nq = w2 at S2 ⊢
          clear nq
          cases hv3 : ltInt dk[r1]! dk[x1]! with
          | false =>
            have HV := Lib.hid hv3
            have HE : Hid (dk = siftDown ltInt hi first lo d) := by
              show _ = _
              have h3 := hv3
              rw [HR1.out, HX.out.x1] at h3
              rw [← HI.out]
              exact (sd_left_stop ltInt dk HLC.out (fun _ => HV1.out) h3).symm
            clear hv3 HI
            have l1 := S2.out.cell HP.out (t := r1) (by omega)
            have l2 := S2.out.cell HP.out (t := x1) (by omega)
            have hxy := uless dk[r1]! dk[x1]!
            rw [HV.out] at hxy
            obtain ⟨x, hx⟩ : ∃ x, x = dk[r1]! := ⟨_, rfl⟩
            obtain ⟨y, hy⟩ : ∃ x, x = dk[x1]! := ⟨_, rfl⟩
            rw [← hx] at hxy l1
            rw [← hy] at hxy l2
            have HXY : Hid (∀ W, Calls Try.prog 53 #[.int .u64 x, .int .u64 y] W fun e w' => e = .returned (.bool false) ∧ W = w') := hxy
            clear hx hy hxy HV
            go_wp2_with fail
            go_quiet ((go_at_call 53; exact Calls.quiet_of_same ((HXY.out _).mono fun _ _ h => ⟨h.1, h.2.symm⟩)))
            have S5 := Lib.hid (S2.out.drewN nq)
            clear l1 l2 S2 HXY
            generalize w2.drewN nq = w5 at S5 ⊢
            clear nq
            go_wp2_with fail
            refine bodyPost_ret (results_none rfl _ _ _) rfl ?_
            exact ⟨rfl, by rw [← HE.out]; exact S5.out⟩
          | true =>
            have HV := Lib.hid hv3
            have HN : Hid (siftDown ltInt hi first c (swp dk r1 x1) = siftDown ltInt hi first lo d) := by
              show _ = _
              have h3 := hv3
              rw [HR1.out, HX.out.x1] at h3
              rw [← HI.out, HR1.out, HX.out.x1, HX.out.c]
              exact (sd_left_go ltInt dk HLC.out (fun _ => HV1.out) h3).symm
            have HSZ : Hid ((swp dk r1 x1).size = d.size) := by show _ = _; rw [size_swp]; exact hsk
            clear hv3 HI
            have l1 := S2.out.cell HP.out (t := r1) (by omega)
            have l2 := S2.out.cell HP.out (t := x1) (by omega)
            have hxy := uless dk[r1]! dk[x1]!
            rw [HV.out] at hxy
            obtain ⟨x, hx⟩ : ∃ x, x = dk[r1]! := ⟨_, rfl⟩
            obtain ⟨y, hy⟩ : ∃ x, x = dk[x1]! := ⟨_, rfl⟩
            rw [← hx] at hxy l1
            rw [← hy] at hxy l2
            have HXY : Hid (∀ W, Calls Try.prog 53 #[.int .u64 x, .int .u64 y] W fun e w' => e = .returned (.bool true) ∧ W = w') := hxy
            clear hx hy hxy HV
            go_wp2_with fail
            go_quiet ((go_at_call 53; exact Calls.quiet_of_same ((HXY.out _).mono fun _ _ h => ⟨h.1, h.2.symm⟩)))
            have S5 := Lib.hid (S2.out.drewN nq)
            clear l1 l2 S2 HXY
            generalize w2.drewN nq = w5 at S5 ⊢
            clear nq
            have S6 := Lib.hid ((S5.out.swap HP.out (i := r1) (j := x1) (by omega) (by omega)).drew)
            have l1 := S5.out.cell HP.out (t := r1) (by omega)
            have l2 := S5.out.cell HP.out (t := x1) (by omega)
            have f1 := S5.out.frz HP.out r1
            have f2 := S5.out.frz HP.out x1
            obtain ⟨u, c2⟩ := S5.out.c2 HP.out (i := r1) (j := x1) (by omega) (by omega) dk[x1]!
            obtain ⟨x, hx⟩ : ∃ x, x = dk[r1]! := ⟨_, rfl⟩
            obtain ⟨y, hy⟩ : ∃ x, x = dk[x1]! := ⟨_, rfl⟩
            rw [← hx, ← hy] at S6
            rw [← hx] at l1
            rw [← hy] at l2 c2
            clear hx hy S5
            go_wp2_with fail
            go_region
            clear l1 l2 f1 f2 c2
            generalize ((w5.setCell (p.add r1) (.int .u64 y)).setCell (p.add x1) (.int .u64 x)).drew = w6 at S6 ⊢
            go_wp2_with fail
            go_roundw
            case rel => exact ⟨c, swp dk r1 x1, rfl, by have := HX.out.c; omega, HSZ.out, S6.out, HN.out⟩
            case measure => have := HX.out.c; simp [intOf]; omega
      · have ge : decide ((e : Int) < (hi : Int)) = false := by simpa using hle
        have HLC : Hid (2 * root + 1 < hi) := by show _ < _; omega
        have HLE : Hid (¬ 2 * root + 2 < hi) := by show ¬ _; omega
        clear hc he hr1 hx1 hx2
        go_wp2_with fail
        go_quiet (fail)
        have S2 := Lib.hid (S1.out.drewN nq)
        clear S1
        generalize wr.drewN nq = w2 at S2 ⊢
        clear nq
        cases hv3 : ltInt dk[r1]! dk[x1]! with
        | false =>
          have HV := Lib.hid hv3
          have HE : Hid (dk = siftDown ltInt hi first lo d) := by
            show _ = _
            have h3 := hv3
            rw [HR1.out, HX.out.x1] at h3
            rw [← HI.out]
            exact (sd_left_stop ltInt dk HLC.out (fun h => absurd h HLE.out) h3).symm
          clear hv3 HI
          have l1 := S2.out.cell HP.out (t := r1) (by omega)
          have l2 := S2.out.cell HP.out (t := x1) (by omega)
          have hxy := uless dk[r1]! dk[x1]!
          rw [HV.out] at hxy
          obtain ⟨x, hx⟩ : ∃ x, x = dk[r1]! := ⟨_, rfl⟩
          obtain ⟨y, hy⟩ : ∃ x, x = dk[x1]! := ⟨_, rfl⟩
          rw [← hx] at hxy l1
          rw [← hy] at hxy l2
          have HXY : Hid (∀ W, Calls Try.prog 53 #[.int .u64 x, .int .u64 y] W fun e w' => e = .returned (.bool false) ∧ W = w') := hxy
          clear hx hy hxy HV
          go_wp2_with fail
          go_quiet ((go_at_call 53; exact Calls.quiet_of_same ((HXY.out _).mono fun _ _ h => ⟨h.1, h.2.symm⟩)))
          have S5 := Lib.hid (S2.out.drewN nq)
          clear l1 l2 S2 HXY
          generalize w2.drewN nq = w5 at S5 ⊢
          clear nq
          go_wp2_with fail
          refine bodyPost_ret (results_none rfl _ _ _) rfl ?_
          exact ⟨rfl, by rw [← HE.out]; exact S5.out⟩
        | true =>
          have HV := Lib.hid hv3
          have HN : Hid (siftDown ltInt hi first c (swp dk r1 x1) = siftDown ltInt hi first lo d) := by
            show _ = _
            have h3 := hv3
            rw [HR1.out, HX.out.x1] at h3
            rw [← HI.out, HR1.out, HX.out.x1, HX.out.c]
            exact (sd_left_go ltInt dk HLC.out (fun h => absurd h HLE.out) h3).symm
          have HSZ : Hid ((swp dk r1 x1).size = d.size) := by show _ = _; rw [size_swp]; exact hsk
          clear hv3 HI
          have l1 := S2.out.cell HP.out (t := r1) (by omega)
          have l2 := S2.out.cell HP.out (t := x1) (by omega)
          have hxy := uless dk[r1]! dk[x1]!
          rw [HV.out] at hxy
          obtain ⟨x, hx⟩ : ∃ x, x = dk[r1]! := ⟨_, rfl⟩
          obtain ⟨y, hy⟩ : ∃ x, x = dk[x1]! := ⟨_, rfl⟩
          rw [← hx] at hxy l1
          rw [← hy] at hxy l2
          have HXY : Hid (∀ W, Calls Try.prog 53 #[.int .u64 x, .int .u64 y] W fun e w' => e = .returned (.bool true) ∧ W = w') := hxy
          clear hx hy hxy HV
          go_wp2_with fail
          go_quiet ((go_at_call 53; exact Calls.quiet_of_same ((HXY.out _).mono fun _ _ h => ⟨h.1, h.2.symm⟩)))
          have S5 := Lib.hid (S2.out.drewN nq)
          clear l1 l2 S2 HXY
          generalize w2.drewN nq = w5 at S5 ⊢
          clear nq
          have S6 := Lib.hid ((S5.out.swap HP.out (i := r1) (j := x1) (by omega) (by omega)).drew)
          have l1 := S5.out.cell HP.out (t := r1) (by omega)
          have l2 := S5.out.cell HP.out (t := x1) (by omega)
          have f1 := S5.out.frz HP.out r1
          have f2 := S5.out.frz HP.out x1
          obtain ⟨u, c2⟩ := S5.out.c2 HP.out (i := r1) (j := x1) (by omega) (by omega) dk[x1]!
          obtain ⟨x, hx⟩ : ∃ x, x = dk[r1]! := ⟨_, rfl⟩
          obtain ⟨y, hy⟩ : ∃ x, x = dk[x1]! := ⟨_, rfl⟩
          rw [← hx, ← hy] at S6
          rw [← hx] at l1
          rw [← hy] at l2 c2
          clear hx hy S5
          go_wp2_with fail
          go_region
          clear l1 l2 f1 f2 c2
          generalize ((w5.setCell (p.add r1) (.int .u64 y)).setCell (p.add x1) (.int .u64 x)).drew = w6 at S6 ⊢
          go_wp2_with fail
          go_roundw
          case rel => exact ⟨c, swp dk r1 x1, rfl, by have := HX.out.c; omega, HSZ.out, S6.out, HN.out⟩
          case measure => have := HX.out.c; simp [intOf]; omega
end Go.Proofs.Ytfhengihdlojmaa
