/-
  partialInsertionSort of numbers.
-/
import Derived.Test.YtfhengihdlojmaaUsG
import Derived.Sort.WalkA6
namespace Go.Proofs.Ytfhengihdlojmaa
open Go.RowKit Go.Sort

namespace Us
theorem fixDown_size (a i : Nat) (d : Array Int) : (fixDown ltInt a i d).size = d.size := by
  have : ∀ (j : Nat) (d : Array Int), (shiftDown ltInt j d).size = d.size := by
    intro j
    induction j with
    | zero => intro d; rw [shiftDown]
    | succ j ih =>
      intro d
      rw [shiftDown]
      split
      · rfl
      · rw [ih, size_swp]
  unfold fixDown
  split
  · exact this _ _
  · rfl
end Us

set_option maxRecDepth 20000 in
set_option maxHeartbeats 16000000 in
theorem upartial {w0 : World} {B : Nat} {rest : List Value} {d : Array Int} {w : World} (S : Us.Row w0 B rest d w) (cap a b : Nat) (hab : a < b) (hb : b ≤ d.size) (hsz : d.size ≤ 1000000) :
    Calls Try.prog 52 #[.slice (some ⟨B, 0, none⟩) d.size cap, .int .i64 (a : Int), .int .i64 (b : Int)] w fun e w' => (∃ v : Bool, e = .returned (.bool v) ∧ v = (partialInsertionSort ltInt d a b).2) ∧ Us.Row w0 B rest (partialInsertionSort ltInt d a b).1 w' := by
  have S0 := Lib.hid S
  obtain ⟨p, hp⟩ : ∃ p : Addr, p = ⟨B, 0, none⟩ := ⟨_, rfl⟩
  rw [← hp]
  have HP := Lib.hid hp
  have hb9 : (b : Int) ≤ 1000000 := by omega
  have hsz2 : (d.size : Int) ≤ 1000000 := by omega
  have HPI : Hid (partialInsertionSort ltInt d a b = partialIns ltInt a b (5 - 0) (a + 1) d) := rfl
  clear S hp
  go_enter Try.func52, Try.ntmps52
  go_wp2_with fail
  go_loopw [7, 8] (fun vi vs wr => ∃ (i s : Nat) (dk : Array Int), vi = .int .i64 i ∧ vs = .int .i64 s ∧ a < i ∧ i ≤ b ∧ s ≤ 5 ∧ dk.size = d.size ∧ Hid (Us.Row w0 B rest dk wr) ∧ Hid (partialIns ltInt a b (5 - s) i dk = partialInsertionSort ltInt d a b)) (fun _ vs _ => 5 - (intOf vs).toNat)
  case atStart => exact ⟨a + 1, 0, d, by go_num, rfl, by omega, by omega, by omega, rfl, S0.out, HPI.out.symm⟩
  case round =>
    clear S0 HPI
    obtain ⟨i, s, dk, rfl, rfl, hai, hib, hs5, hsk, S1, HI⟩ := hrel
    by_cases hs : s < 5
    · have gs : (s : Int) < 5 := by omega
      go_upto_block 2 with fail
      go_cut [7] (fun v wx => ∃ k : Nat, v = .int .i64 (k : Int) ∧ i ≤ k ∧ k ≤ b ∧ Hid (Us.Row w0 B rest dk wx) ∧ Hid (scanSorted ltInt dk b i = k))
      case first =>
        go_wp2_with fail
        go_loopw [7] (fun vi wx => ∃ k : Nat, vi = .int .i64 (k : Int) ∧ i ≤ k ∧ k ≤ b ∧ Hid (Us.Row w0 B rest dk wx) ∧ Hid (scanSorted ltInt dk b k = scanSorted ltInt dk b i)) (fun vi _ => b - (intOf vi).toNat)
        case atStart => exact ⟨i, rfl, Nat.le_refl _, hib, S1, rfl⟩
        case round =>
          clear S1
          obtain ⟨k, rfl, hik, hkb, S2, HU⟩ := hrel
          by_cases hlt : k < b
          · have g0 : decide ((k : Int) < (b : Int)) = true := by simpa using hlt
            obtain ⟨q, hq⟩ : ∃ q, q = k - 1 := ⟨_, rfl⟩
            have HQ := Lib.hid hq
            have zq : (k : Int) - 1 = (q : Int) := by omega
            have b1 : k < dk.size := by omega
            have b2 : q < dk.size := by omega
            have y1 : (k : Int) < (d.size : Int) := by omega
            have y2 : (q : Int) < (d.size : Int) := by omega
            cases hv : ltInt dk[k]! dk[q]! with
            | true =>
              have HS : Hid (scanSorted ltInt dk b i = k) := by
                show _ = _
                rw [← HU.out, scanSorted_stop ltInt dk b k (.inr (by rw [← hq]; exact hv))]
              have HV := Lib.hid hv
              clear hv hq
              have l1 := S2.out.cell HP.out (t := k) (by omega)
              have l2 := S2.out.cell HP.out (t := q) (by omega)
              have hxy := uless dk[k]! dk[q]!
              rw [HV.out] at hxy
              obtain ⟨x, hx⟩ : ∃ x, x = dk[k]! := ⟨_, rfl⟩
              obtain ⟨y, hy⟩ : ∃ x, x = dk[q]! := ⟨_, rfl⟩
              rw [← hx] at hxy l1
              rw [← hy] at hxy l2
              have HXY : Hid (∀ W, Calls Try.prog 53 #[.int .u64 x, .int .u64 y] W fun e w' => e = .returned (.bool true) ∧ W = w') := hxy
              clear hx hy hxy HV
              go_wp2_with fail
              go_quiet ((go_at_call 53; exact Calls.quiet_of_same ((HXY.out _).mono fun _ _ h => ⟨h.1, h.2.symm⟩)))
              have S9 := Lib.hid (S2.out.drewN nq)
              clear l1 l2 S2 HXY
              generalize wr.drewN nq = w9 at S9 ⊢
              clear nq
              go_wp2_with fail
              go_meet
              exact ⟨k, rfl, hik, hkb, S9, HS⟩
            | false =>
              have HS : Hid (scanSorted ltInt dk b (k + 1) = scanSorted ltInt dk b i) := by
                show _ = _
                rw [← HU.out, ← scanSorted_go ltInt dk b k hlt (by rw [← hq]; exact hv)]
              have HV := Lib.hid hv
              clear hv hq
              have l1 := S2.out.cell HP.out (t := k) (by omega)
              have l2 := S2.out.cell HP.out (t := q) (by omega)
              have hxy := uless dk[k]! dk[q]!
              rw [HV.out] at hxy
              obtain ⟨x, hx⟩ : ∃ x, x = dk[k]! := ⟨_, rfl⟩
              obtain ⟨y, hy⟩ : ∃ x, x = dk[q]! := ⟨_, rfl⟩
              rw [← hx] at hxy l1
              rw [← hy] at hxy l2
              have HXY : Hid (∀ W, Calls Try.prog 53 #[.int .u64 x, .int .u64 y] W fun e w' => e = .returned (.bool false) ∧ W = w') := hxy
              clear hx hy hxy HV
              go_wp2_with fail
              go_quiet ((go_at_call 53; exact Calls.quiet_of_same ((HXY.out _).mono fun _ _ h => ⟨h.1, h.2.symm⟩)))
              have S9 := Lib.hid (S2.out.drewN nq)
              clear l1 l2 S2 HXY
              generalize wr.drewN nq = w9 at S9 ⊢
              clear nq
              go_wp2_with fail
              go_roundw
              case rel => exact ⟨k + 1, by go_num, by omega, by omega, S9, HS⟩
              case measure => simp [intOf]; omega
          · have g0 : decide ((k : Int) < (b : Int)) = false := by simpa using hlt
            have HS : Hid (scanSorted ltInt dk b i = k) := by
              show _ = _
              rw [← HU.out, scanSorted_stop ltInt dk b k (.inl hlt)]
            go_wp2_with fail
            go_quiet (fail)
            have S9 := Lib.hid (S2.out.drewN nq)
            clear S2
            generalize wr.drewN nq = w9 at S9 ⊢
            clear nq
            go_wp2_with fail
            go_meet
            exact ⟨k, rfl, hik, hkb, S9, HS⟩
      case rest =>
        clear S1
        obtain ⟨k, rfl, hik, hkb, S1, HK⟩ := hcut
        rename World => wz
        by_cases hkb2 : k = b
        · have gb : ((k : Int) == (b : Int)) = true := by rw [beq_iff_eq]; omega
          have HE : Hid (partialInsertionSort ltInt d a b = (dk, true)) := by
            show _ = _
            rw [← HI.out, pi_true ltInt a b s i dk hs (by rw [HK.out]; exact hkb2)]
          clear hkb2
          go_wp2_with fail
          go_ret
          exact ⟨⟨true, rfl, by rw [HE.out]⟩, by rw [HE.out]; exact S1.out⟩
        · have gb : ((k : Int) == (b : Int)) = false := by rw [beq_eq_false_iff_ne]; omega
          obtain ⟨n, hn⟩ : ∃ n, n = b - a := ⟨_, rfl⟩
          have zn : (b : Int) - (a : Int) = (n : Int) := by omega
          by_cases h50 : n < 50
          · have g50 : (n : Int) < 50 := by omega
            have HE : Hid (partialInsertionSort ltInt d a b = (dk, false)) := by
              show _ = _
              rw [← HI.out, pi_short ltInt a b s i dk hs (by rw [HK.out]; exact hkb2) (by omega)]
            clear hkb2 hn
            go_wp2_with fail
            go_ret
            exact ⟨⟨false, rfl, by rw [HE.out]⟩, by rw [HE.out]; exact S1.out⟩
          · have g50 : ¬ ((n : Int) < 50) := by omega
            obtain ⟨q, hq⟩ : ∃ q, q = k - 1 := ⟨_, rfl⟩
            have zq : (k : Int) - 1 = (q : Int) := by omega
            have HN : Hid (partialIns ltInt a b (5 - (s + 1)) k (fixUp ltInt b k (fixDown ltInt a k (swp dk k q))) = partialInsertionSort ltInt d a b) := by
              show _ = _
              rw [← HI.out, pi_go ltInt a b s i k dk hs HK.out hkb2 (by omega), hq]
            have b1 : k < dk.size := by omega
            have b2 : q < dk.size := by omega
            have y1 : (k : Int) < (d.size : Int) := by omega
            have y2 : (q : Int) < (d.size : Int) := by omega
            have HSZ : Hid ((swp dk k q).size = d.size) := by show _ = _; rw [size_swp]; exact hsk
            have HKB : Hid (a < k ∧ k < b ∧ q = k - 1) := ⟨by omega, by omega, hq⟩
            clear hkb2 hn HI HK hq
            have S3 := Lib.hid ((S1.out.swap HP.out (i := k) (j := q) (by omega) (by omega)).drew)
            have l1 := S1.out.cell HP.out (t := k) (by omega)
            have l2 := S1.out.cell HP.out (t := q) (by omega)
            have f1 := S1.out.frz HP.out k
            have f2 := S1.out.frz HP.out q
            obtain ⟨u, c2⟩ := S1.out.c2 HP.out (i := k) (j := q) (by omega) (by omega) dk[q]!
            obtain ⟨x, hx⟩ : ∃ x, x = dk[k]! := ⟨_, rfl⟩
            obtain ⟨y, hy⟩ : ∃ x, x = dk[q]! := ⟨_, rfl⟩
            rw [← hx, ← hy] at S3
            rw [← hx] at l1
            rw [← hy] at l2 c2
            clear hx hy S1
            go_wp2_with fail
            go_region
            clear l1 l2 f1 f2 c2
            generalize ((wz.setCell (p.add k) (.int .u64 y)).setCell (p.add q) (.int .u64 x)).drew = w3 at S3 ⊢
            generalize swp dk k q = d3 at S3 HN HSZ
            have hs3 : d3.size = d.size := HSZ.out
            obtain ⟨ka, hka⟩ : ∃ ka, ka = k - a := ⟨_, rfl⟩
            obtain ⟨bk, hbk⟩ : ∃ bk, bk = b - k := ⟨_, rfl⟩
            have zka : (k : Int) - (a : Int) = (ka : Int) := by omega
            have zbk : (b : Int) - (k : Int) = (bk : Int) := by omega
            go_upto_if 61 with fail
            go_cut [] (fun wx => Hid (Us.Row w0 B rest (fixDown ltInt a k d3) wx))
            case first =>
              by_cases h2 : 2 ≤ ka
              · have g2 : decide ((2 : Int) ≤ (ka : Int)) = true := by simp; omega
                have g2' : (2 : Int) ≤ (ka : Int) := by omega
                have HF : Hid (fixDown ltInt a k d3 = shiftDown ltInt q d3) := by
                  show _ = _
                  unfold fixDown
                  rw [if_pos (by omega), ← HKB.out.2.2]
                clear hka h2 hbk
                go_wp2_with fail
                go_loopw [9] (fun vj wx => ∃ (j : Nat) (dj : Array Int), vj = .int .i64 (j : Int) ∧ j ≤ q ∧ dj.size = d.size ∧ Hid (Us.Row w0 B rest dj wx) ∧ Hid (shiftDown ltInt j dj = shiftDown ltInt q d3)) (fun vj _ => (intOf vj).toNat)
                case atStart => exact ⟨q, d3, rfl, Nat.le_refl _, hs3, S3, rfl⟩
                case round =>
                  clear S3
                  obtain ⟨j, dj, rfl, hjq, hsj, SJ, HJ⟩ := hrel
                  by_cases hj1 : 1 ≤ j
                  · have gj : (1 : Int) ≤ (j : Int) := by omega
                    obtain ⟨r, hr⟩ : ∃ r, r = j - 1 := ⟨_, rfl⟩
                    have HR := Lib.hid hr
                    have zr : (j : Int) - 1 = (r : Int) := by omega
                    have c1 : j < dj.size := by omega
                    have c2' : r < dj.size := by omega
                    have z1 : (j : Int) < (d.size : Int) := by omega
                    have z2 : (r : Int) < (d.size : Int) := by omega
                    cases hv : ltInt dj[j]! dj[r]! with
                    | false =>
                      have HS : Hid (dj = fixDown ltInt a k d3) := by
                        show _ = _
                        rw [HF.out, ← HJ.out, shiftDown_stop ltInt j dj (.inr (by rw [← hr]; exact hv))]
                      have HV := Lib.hid hv
                      clear hv hr
                      have l1 := SJ.out.cell HP.out (t := j) (by omega)
                      have l2 := SJ.out.cell HP.out (t := r) (by omega)
                      have hxy := uless dj[j]! dj[r]!
                      rw [HV.out] at hxy
                      obtain ⟨x, hx⟩ : ∃ x, x = dj[j]! := ⟨_, rfl⟩
                      obtain ⟨y, hy⟩ : ∃ x, x = dj[r]! := ⟨_, rfl⟩
                      rw [← hx] at hxy l1
                      rw [← hy] at hxy l2
                      have HXY : Hid (∀ W, Calls Try.prog 53 #[.int .u64 x, .int .u64 y] W fun e w' => e = .returned (.bool false) ∧ W = w') := hxy
                      clear hx hy hxy HV
                      go_wp2_with fail
                      go_quiet ((go_at_call 53; exact Calls.quiet_of_same ((HXY.out _).mono fun _ _ h => ⟨h.1, h.2.symm⟩)))
                      have S9 := Lib.hid (SJ.out.drewN nq)
                      clear l1 l2 SJ HXY
                      generalize wr.drewN nq = w9 at S9 ⊢
                      clear nq
                      go_wp2_with fail
                      go_meet
                      show Hid _
                      rw [← HS.out]
                      exact S9
                    | true =>
                      have HS : Hid (shiftDown ltInt r (swp dj j r) = shiftDown ltInt q d3) := by
                        show _ = _
                        rw [← HJ.out, shiftDown_go ltInt j dj hj1 (by rw [← hr]; exact hv), ← hr]
                      have HSZ2 : Hid ((swp dj j r).size = d.size) := by show _ = _; rw [size_swp]; exact hsj
                      have HV := Lib.hid hv
                      clear hv hr
                      have l1 := SJ.out.cell HP.out (t := j) (by omega)
                      have l2 := SJ.out.cell HP.out (t := r) (by omega)
                      have hxy := uless dj[j]! dj[r]!
                      rw [HV.out] at hxy
                      obtain ⟨x, hx⟩ : ∃ x, x = dj[j]! := ⟨_, rfl⟩
                      obtain ⟨y, hy⟩ : ∃ x, x = dj[r]! := ⟨_, rfl⟩
                      rw [← hx] at hxy l1
                      rw [← hy] at hxy l2
                      have HXY : Hid (∀ W, Calls Try.prog 53 #[.int .u64 x, .int .u64 y] W fun e w' => e = .returned (.bool true) ∧ W = w') := hxy
                      clear hx hy hxy HV
                      go_wp2_with fail
                      go_quiet ((go_at_call 53; exact Calls.quiet_of_same ((HXY.out _).mono fun _ _ h => ⟨h.1, h.2.symm⟩)))
                      have S9 := Lib.hid (SJ.out.drewN nq)
                      clear l1 l2 SJ HXY
                      generalize wr.drewN nq = w9 at S9 ⊢
                      clear nq
                      have S10 := Lib.hid ((S9.out.swap HP.out (i := j) (j := r) (by omega) (by omega)).drew)
                      have l1 := S9.out.cell HP.out (t := j) (by omega)
                      have l2 := S9.out.cell HP.out (t := r) (by omega)
                      have f1 := S9.out.frz HP.out j
                      have f2 := S9.out.frz HP.out r
                      obtain ⟨u, c2⟩ := S9.out.c2 HP.out (i := j) (j := r) (by omega) (by omega) dj[r]!
                      obtain ⟨x, hx⟩ : ∃ x, x = dj[j]! := ⟨_, rfl⟩
                      obtain ⟨y, hy⟩ : ∃ x, x = dj[r]! := ⟨_, rfl⟩
                      rw [← hx, ← hy] at S10
                      rw [← hx] at l1
                      rw [← hy] at l2 c2
                      clear hx hy S9
                      go_wp2_with fail
                      go_region
                      clear l1 l2 f1 f2 c2
                      generalize ((w9.setCell (p.add j) (.int .u64 y)).setCell (p.add r) (.int .u64 x)).drew = w10 at S10 ⊢
                      go_wp2_with fail
                      go_roundw
                      case rel => exact ⟨r, swp dj j r, rfl, by have := HR.out; omega, HSZ2.out, S10, HS⟩
                      case measure => have := HR.out; simp [intOf]; omega
                  · have gj : ¬ ((1 : Int) ≤ (j : Int)) := by omega
                    have HS : Hid (dj = fixDown ltInt a k d3) := by
                      show _ = _
                      rw [HF.out, ← HJ.out, shiftDown_stop ltInt j dj (.inl (by omega))]
                    go_wp2_with fail
                    go_meet
                    show Hid _
                    rw [← HS.out]
                    exact SJ
              · have g2 : decide ((2 : Int) ≤ (ka : Int)) = false := by simp; omega
                have g2' : ¬ ((2 : Int) ≤ (ka : Int)) := by omega
                have HF : Hid (fixDown ltInt a k d3 = d3) := by
                  show _ = _
                  unfold fixDown
                  rw [if_neg (by omega)]
                clear hka h2 hbk
                go_wp2_with fail
                go_meet
                show Hid _
                rw [HF.out]
                exact S3
            case rest =>
              clear S3
              have S4 : Hid (Us.Row w0 B rest (fixDown ltInt a k d3) _) := hcut
              clear hcut
              rename World => wy
              have HSZ4 : Hid ((fixDown ltInt a k d3).size = d.size) := by show _ = _; rw [Us.fixDown_size]; exact hs3
              generalize fixDown ltInt a k d3 = d4 at S4 HN HSZ4
              have hs4 : d4.size = d.size := HSZ4.out
              obtain ⟨k1, hk1⟩ : ∃ k1, k1 = k + 1 := ⟨_, rfl⟩
              have zk1 : (k : Int) + 1 = (k1 : Int) := by omega
              have HK1 := Lib.hid hk1
              by_cases h2 : 2 ≤ bk
              · have g2' : (2 : Int) ≤ (bk : Int) := by omega
                have HF : Hid (fixUp ltInt b k d4 = shiftUp ltInt b k1 d4) := by
                  show _ = _
                  unfold fixUp
                  rw [if_pos (by omega), hk1]
                have hk1b : k1 ≤ b := by have := HKB.out; omega
                have hk10 : 1 ≤ k1 := by omega
                clear hka h2 hbk hk1
                go_wp2_with fail
                go_loopw [10] (fun vj wx => ∃ (j : Nat) (dj : Array Int), vj = .int .i64 (j : Int) ∧ k1 ≤ j ∧ j ≤ b ∧ dj.size = d.size ∧ Hid (Us.Row w0 B rest dj wx) ∧ Hid (shiftUp ltInt b j dj = shiftUp ltInt b k1 d4)) (fun vj _ => b - (intOf vj).toNat)
                case atStart => exact ⟨k1, d4, rfl, Nat.le_refl _, hk1b, hs4, S4, rfl⟩
                case round =>
                  clear S4
                  obtain ⟨j, dj, rfl, hkj, hjb, hsj, SJ, HJ⟩ := hrel
                  have FIN : ∀ dj', dj' = shiftUp ltInt b k1 d4 → Hid (partialIns ltInt a b (5 - (s + 1)) k dj' = partialInsertionSort ltInt d a b) := fun dj' h => by
                    show _ = _
                    rw [h, ← HF.out]; exact HN.out
                  by_cases hj1 : j < b
                  · have gj : (j : Int) < (b : Int) := by omega
                    obtain ⟨r, hr⟩ : ∃ r, r = j - 1 := ⟨_, rfl⟩
                    have HR := Lib.hid hr
                    have zr : (j : Int) - 1 = (r : Int) := by omega
                    have c1 : j < dj.size := by omega
                    have c2' : r < dj.size := by omega
                    have z1 : (j : Int) < (d.size : Int) := by omega
                    have z2 : (r : Int) < (d.size : Int) := by omega
                    cases hv : ltInt dj[j]! dj[r]! with
                    | false =>
                      have HS := FIN dj (by rw [← HJ.out, shiftUp_stop ltInt b j dj (.inr (by rw [← hr]; exact hv))])
                      have HV := Lib.hid hv
                      clear hv hr FIN
                      have l1 := SJ.out.cell HP.out (t := j) (by omega)
                      have l2 := SJ.out.cell HP.out (t := r) (by omega)
                      have hxy := uless dj[j]! dj[r]!
                      rw [HV.out] at hxy
                      obtain ⟨x, hx⟩ : ∃ x, x = dj[j]! := ⟨_, rfl⟩
                      obtain ⟨y, hy⟩ : ∃ x, x = dj[r]! := ⟨_, rfl⟩
                      rw [← hx] at hxy l1
                      rw [← hy] at hxy l2
                      have HXY : Hid (∀ W, Calls Try.prog 53 #[.int .u64 x, .int .u64 y] W fun e w' => e = .returned (.bool false) ∧ W = w') := hxy
                      clear hx hy hxy HV
                      go_wp2_with fail
                      go_quiet ((go_at_call 53; exact Calls.quiet_of_same ((HXY.out _).mono fun _ _ h => ⟨h.1, h.2.symm⟩)))
                      have S9 := Lib.hid (SJ.out.drewN nq)
                      clear l1 l2 SJ HXY
                      generalize wr.drewN nq = w9 at S9 ⊢
                      clear nq
                      go_wp2_with fail
                      go_roundw
                      case rel => exact ⟨k, s + 1, dj, rfl, by go_num, HKB.out.1, by have := HKB.out; omega, by omega, hsj, S9, HS⟩
                      case measure => simp [intOf]; omega
                    | true =>
                      have HS : Hid (shiftUp ltInt b (j + 1) (swp dj j r) = shiftUp ltInt b k1 d4) := by
                        show _ = _
                        rw [← HJ.out, shiftUp_go ltInt b j dj hj1 (by rw [← hr]; exact hv), ← hr]
                      have HSZ2 : Hid ((swp dj j r).size = d.size) := by show _ = _; rw [size_swp]; exact hsj
                      have HV := Lib.hid hv
                      clear hv hr FIN
                      have l1 := SJ.out.cell HP.out (t := j) (by omega)
                      have l2 := SJ.out.cell HP.out (t := r) (by omega)
                      have hxy := uless dj[j]! dj[r]!
                      rw [HV.out] at hxy
                      obtain ⟨x, hx⟩ : ∃ x, x = dj[j]! := ⟨_, rfl⟩
                      obtain ⟨y, hy⟩ : ∃ x, x = dj[r]! := ⟨_, rfl⟩
                      rw [← hx] at hxy l1
                      rw [← hy] at hxy l2
                      have HXY : Hid (∀ W, Calls Try.prog 53 #[.int .u64 x, .int .u64 y] W fun e w' => e = .returned (.bool true) ∧ W = w') := hxy
                      clear hx hy hxy HV
                      go_wp2_with fail
                      go_quiet ((go_at_call 53; exact Calls.quiet_of_same ((HXY.out _).mono fun _ _ h => ⟨h.1, h.2.symm⟩)))
                      have S9 := Lib.hid (SJ.out.drewN nq)
                      clear l1 l2 SJ HXY
                      generalize wr.drewN nq = w9 at S9 ⊢
                      clear nq
                      have S10 := Lib.hid ((S9.out.swap HP.out (i := j) (j := r) (by omega) (by omega)).drew)
                      have l1 := S9.out.cell HP.out (t := j) (by omega)
                      have l2 := S9.out.cell HP.out (t := r) (by omega)
                      have f1 := S9.out.frz HP.out j
                      have f2 := S9.out.frz HP.out r
                      obtain ⟨u, c2⟩ := S9.out.c2 HP.out (i := j) (j := r) (by omega) (by omega) dj[r]!
                      obtain ⟨x, hx⟩ : ∃ x, x = dj[j]! := ⟨_, rfl⟩
                      obtain ⟨y, hy⟩ : ∃ x, x = dj[r]! := ⟨_, rfl⟩
                      rw [← hx, ← hy] at S10
                      rw [← hx] at l1
                      rw [← hy] at l2 c2
                      clear hx hy S9
                      go_wp2_with fail
                      go_region
                      clear l1 l2 f1 f2 c2
                      generalize ((w9.setCell (p.add j) (.int .u64 y)).setCell (p.add r) (.int .u64 x)).drew = w10 at S10 ⊢
                      go_wp2_with fail
                      go_roundw
                      case rel => exact ⟨j + 1, swp dj j r, by go_num, by omega, by omega, HSZ2.out, S10, HS⟩
                      case measure => simp [intOf]; omega
                  · have gj : ¬ ((j : Int) < (b : Int)) := by omega
                    have HS := FIN dj (by rw [← HJ.out, shiftUp_stop ltInt b j dj (.inl hj1)])
                    clear FIN
                    go_wp2_with fail
                    go_roundw
                    case rel => exact ⟨k, s + 1, dj, rfl, by go_num, HKB.out.1, by have := HKB.out; omega, by omega, hsj, SJ, HS⟩
                    case measure => simp [intOf]; omega
              · have g2' : ¬ ((2 : Int) ≤ (bk : Int)) := by omega
                have HS : Hid (partialIns ltInt a b (5 - (s + 1)) k d4 = partialInsertionSort ltInt d a b) := by
                  show _ = _
                  rw [← HN.out]
                  unfold fixUp
                  rw [if_neg (by omega)]
                clear hka h2 hbk hk1
                go_wp2_with fail
                go_roundw
                case rel => exact ⟨k, s + 1, d4, rfl, by go_num, HKB.out.1, by have := HKB.out; omega, by omega, hs4, S4, HS⟩
                case measure => simp [intOf]; omega
    · obtain rfl : s = 5 := by omega
      have HE : Hid (partialInsertionSort ltInt d a b = (dk, false)) := by
        show _ = _
        rw [← HI.out]; exact pi_end ltInt a b i dk
      go_wp2_with fail
      go_ret
      exact ⟨⟨false, rfl, by rw [HE.out]⟩, by rw [HE.out]; exact S1.out⟩
end Go.Proofs.Ytfhengihdlojmaa
