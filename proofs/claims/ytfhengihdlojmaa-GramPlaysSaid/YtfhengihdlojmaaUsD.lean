/-
  heapSort, reverseRange of numbers.
-/
import Derived.Test.YtfhengihdlojmaaUsC
import Derived.Sort.WalkB3
namespace Go.Proofs.Ytfhengihdlojmaa
open Go.RowKit Go.Sort

set_option maxRecDepth 20000 in
set_option maxHeartbeats 4000000 in
theorem uheap {w0 : World} {B : Nat} {rest : List Value} {d : Array Int} {w : World} (S : Us.Row w0 B rest d w) (cap a b : Nat) (hab : a < b) (hb : b ≤ d.size) (hsz : d.size ≤ 1000000) :
    Calls Try.prog 48 #[.slice (some ⟨B, 0, none⟩) d.size cap, .int .i64 (a : Int), .int .i64 (b : Int)] w fun e w' => e = .returned (.tuple #[]) ∧ Us.Row w0 B rest (heapSort ltInt d a b) w' := by
  have S0 := Lib.hid S
  obtain ⟨p, hp⟩ : ∃ p : Addr, p = ⟨B, 0, none⟩ := ⟨_, rfl⟩
  rw [← hp]
  have HP := Lib.hid hp
  obtain ⟨H, hH⟩ : ∃ H, H = b - a := ⟨_, rfl⟩
  obtain ⟨h1, hh1⟩ : ∃ h1, h1 = H - 1 := ⟨_, rfl⟩
  have HHH : Hid (H = b - a ∧ h1 = H - 1 ∧ 1 ≤ H ∧ a + H = b) := ⟨hH, hh1, by omega, by omega⟩
  have zH : (b : Int) - (a : Int) = (H : Int) := by omega
  have zh : (H : Int) - 1 = (h1 : Int) := by omega
  have hb9 : (b : Int) ≤ 1000000 := by omega
  have ha9 : (a : Int) ≤ 1000000 := by omega
  have hH9 : (H : Int) ≤ 1000000 := by omega
  have HDV : Hid (∀ v : Int, v = (h1 : Int).tdiv 2 ∨ v = (h1 : Int) / 2 → v = ((h1 / 2 : Nat) : Int)) := fun v h => by
    rcases h with rfl | rfl
    · rw [Int.tdiv_eq_ediv_of_nonneg (by omega)]; omega
    · omega
  have HSF : Hid (∀ (W : World) (dk : Array Int) (lo hi : Nat), dk.size = d.size → lo ≤ hi → hi ≤ H → Us.Row w0 B rest dk W → Calls Try.prog 58 #[.slice (some p) d.size cap, .int .i64 (lo : Int), .int .i64 (hi : Int), .int .i64 (a : Int)] W fun e w' => e = .returned (.tuple #[]) ∧ Us.Row w0 B rest (siftDown ltInt hi a lo dk) w') := fun W dk lo hi hs hlo hhi hR => by
    have := usift hR cap lo hi a hlo (by omega) (by omega)
    rw [hs] at this
    rw [HP.out]
    exact this
  clear S hp hH hh1
  go_enter Try.func48, Try.ntmps48
  go_wp2_with fail
  go_loopw [9] (fun vi wr => ∃ (k : Nat) (dk : Array Int), ((∃ i : Nat, vi = .int .i64 i ∧ k = i + 1 ∧ i ≤ h1) ∨ (vi = .int .i64 (-1) ∧ k = 0)) ∧ dk.size = d.size ∧ Hid (Us.Row w0 B rest dk wr) ∧ Hid (heapBuild ltInt H a k dk = heapBuild ltInt H a (h1 / 2 + 1) d)) (fun vi _ => (intOf vi + 1).toNat)
  case atStart => exact ⟨h1 / 2 + 1, d, .inl ⟨h1 / 2, congrArg _ (HDV.out _ (by first | exact .inl rfl | exact .inr rfl)), rfl, by omega⟩, rfl, S0.out, rfl⟩
  case round =>
    clear S0
    obtain ⟨k, dk, hk, hsk, S1, HI⟩ := hrel
    rcases hk with ⟨i, rfl, rfl, hih⟩ | ⟨rfl, rfl⟩
    · have i0 : (0 : Int) ≤ (i : Int) := by omega
      have HC := Lib.hid (HSF.out wr dk i H hsk (by have := HHH.out; omega) (Nat.le_refl _) S1.out)
      have i9 : (i : Int) ≤ 1000000 := by have := HHH.out; omega
      go_wp2_with fail
      refine HC.out.mono ?_
      rintro e w2 ⟨rfl, hR2⟩
      have S2 := Lib.hid hR2
      have HSZ : Hid ((siftDown ltInt H a i dk).size = d.size) := by show _ = _; rw [size_siftDown ltInt H a (H - i) i dk (Nat.le_refl _)]; exact hsk
      clear hR2 HC S1
      go_wp2_with fail
      go_roundw
      case rel =>
        refine ⟨i, siftDown ltInt H a i dk, ?_, HSZ.out, S2.out, HI.out⟩
        rcases Nat.eq_zero_or_pos i with rfl | hp
        · exact .inr ⟨by go_num, rfl⟩
        · exact .inl ⟨i - 1, by congr 1; omega, by omega, by omega⟩
      case measure => simp [intOf] <;> omega
    · have HB : Hid (dk = heapBuild ltInt H a (h1 / 2 + 1) d) := HI.out
      clear HI
      go_wp2_with fail
      go_loopw [10] (fun vi wr2 => ∃ (k : Nat) (dj : Array Int), ((∃ i : Nat, vi = .int .i64 i ∧ k = i + 1 ∧ i ≤ h1) ∨ (vi = .int .i64 (-1) ∧ k = 0)) ∧ dj.size = d.size ∧ Hid (Us.Row w0 B rest dj wr2) ∧ Hid (heapPop ltInt a k dj = heapPop ltInt a H dk)) (fun vi _ => (intOf vi + 1).toNat)
      case atStart => exact ⟨H, dk, .inl ⟨h1, rfl, by have := HHH.out; omega, Nat.le_refl _⟩, hsk, S1.out, rfl⟩
      case round =>
        clear S1
        obtain ⟨k, dj, hk, hsj, SJ, HI⟩ := hrel
        rcases hk with ⟨i, rfl, rfl, hih⟩ | ⟨rfl, rfl⟩
        · have i0 : (0 : Int) ≤ (i : Int) := by omega
          obtain ⟨xi, hxi⟩ : ∃ xi, xi = a + i := ⟨_, rfl⟩
          have HXI := Lib.hid hxi
          have zx : (a : Int) + (i : Int) = (xi : Int) := by omega
          have hH2 := HHH.out
          have bx : xi < dj.size := by omega
          have ba : a < dj.size := by omega
          have yx : (xi : Int) < (d.size : Int) := by omega
          have ya : (a : Int) < (d.size : Int) := by omega
          have i9 : (i : Int) ≤ 1000000 := by omega
          clear hxi hH2
          have HSZ : Hid ((swp dj a xi).size = d.size) := by show _ = _; rw [size_swp]; exact hsj
          have S2 := Lib.hid ((SJ.out.swap HP.out (i := a) (j := xi) (by omega) (by omega)).drew)
          have l1 := SJ.out.cell HP.out (t := a) (by omega)
          have l2 := SJ.out.cell HP.out (t := xi) (by omega)
          have f1 := SJ.out.frz HP.out a
          have f2 := SJ.out.frz HP.out xi
          obtain ⟨u, c2⟩ := SJ.out.c2 HP.out (i := a) (j := xi) (by omega) (by omega) dj[xi]!
          obtain ⟨x, hx⟩ : ∃ x, x = dj[a]! := ⟨_, rfl⟩
          obtain ⟨y, hy⟩ : ∃ x, x = dj[xi]! := ⟨_, rfl⟩
          rw [← hx, ← hy] at S2
          rw [← hx] at l1
          rw [← hy] at l2 c2
          clear hx hy SJ
          go_wp2_with fail
          go_region
          clear l1 l2 f1 f2 c2
          generalize ((wr.setCell (p.add a) (.int .u64 y)).setCell (p.add xi) (.int .u64 x)).drew = w2 at S2 ⊢
          have HC := Lib.hid (HSF.out w2 (swp dj a xi) 0 i HSZ.out (Nat.zero_le _) (by have := HHH.out; omega) S2.out)
          have HN : Hid (heapPop ltInt a i (siftDown ltInt i a 0 (swp dj a xi)) = heapPop ltInt a H dk) := by
            show _ = _
            rw [← HI.out, HXI.out]
            rfl
          have HSZ2 : Hid ((siftDown ltInt i a 0 (swp dj a xi)).size = d.size) := by show _ = _; rw [size_siftDown ltInt i a i 0 _ (Nat.le_refl _)]; exact HSZ.out
          clear S2 HI
          go_wp2_with fail
          refine HC.out.mono ?_
          rintro e w3 ⟨rfl, hR3⟩
          have S3 := Lib.hid hR3
          clear hR3 HC
          go_wp2_with fail
          go_roundw
          case rel =>
            refine ⟨i, siftDown ltInt i a 0 (swp dj a xi), ?_, HSZ2.out, S3.out, HN.out⟩
            rcases Nat.eq_zero_or_pos i with rfl | hp
            · exact .inr ⟨by go_num, rfl⟩
            · exact .inl ⟨i - 1, by congr 1; omega, by omega, by omega⟩
          case measure => simp [intOf] <;> omega
        · have HE : Hid (dj = heapSort ltInt d a b) := by
            show _ = _
            unfold heapSort
            rw [← HHH.out.1, show H - 1 = h1 from HHH.out.2.1.symm, ← HB.out, ← HI.out]
            rfl
          go_wp2_with fail
          go_end0
          exact ⟨rfl, by rw [← HE.out]; exact SJ.out⟩

set_option maxRecDepth 20000 in
set_option maxHeartbeats 4000000 in
theorem ureverse {w0 : World} {B : Nat} {rest : List Value} {d : Array Int} {w : World} (S : Us.Row w0 B rest d w) (cap a b : Nat) (hab : a < b) (hb : b ≤ d.size) (hsz : d.size ≤ 1000000) :
    Calls Try.prog 51 #[.slice (some ⟨B, 0, none⟩) d.size cap, .int .i64 (a : Int), .int .i64 (b : Int)] w fun e w' => e = .returned (.tuple #[]) ∧ Us.Row w0 B rest (reverseRange d a b) w' := by
  have S0 := Lib.hid S
  obtain ⟨p, hp⟩ : ∃ p : Addr, p = ⟨B, 0, none⟩ := ⟨_, rfl⟩
  rw [← hp]
  have HP := Lib.hid hp
  obtain ⟨b1, hb1⟩ : ∃ b1, b1 = b - 1 := ⟨_, rfl⟩
  have HB1 : Hid (b1 = b - 1) := hb1
  have zb : (b : Int) - 1 = (b1 : Int) := by omega
  have hb9 : (b : Int) ≤ 1000000 := by omega
  have hsz2 : (d.size : Int) ≤ 1000000 := by omega
  have hb2 : b1 < d.size := by omega
  clear S hp hb1
  go_enter Try.func51, Try.ntmps51
  go_wp2_with fail
  go_loopw [6, 7] (fun vi vj wr => ∃ (i j : Nat) (dk : Array Int), vi = .int .i64 i ∧ vj = .int .i64 j ∧ i ≤ j + 2 ∧ j < d.size ∧ dk.size = d.size ∧ Hid (Us.Row w0 B rest dk wr) ∧ Hid (reverseLoop i j dk = reverseLoop a b1 d)) (fun vi vj _ => (intOf vj + 2 - intOf vi).toNat)
  case atStart => exact ⟨a, b1, d, rfl, rfl, by have := HB1.out; omega, hb2, rfl, S0.out, rfl⟩
  case round =>
    clear S0
    obtain ⟨i, j, dk, rfl, rfl, hij, hj, hsk, S1, HI⟩ := hrel
    by_cases hlt : i < j
    · have g0 : (i : Int) < (j : Int) := by omega
      have bi : i < dk.size := by omega
      have bj : j < dk.size := by omega
      have yi : (i : Int) < (d.size : Int) := by omega
      have yj : (j : Int) < (d.size : Int) := by omega
      have HSZ : Hid ((swp dk i j).size = d.size) := by show _ = _; rw [size_swp]; exact hsk
      have HN : Hid (reverseLoop (i + 1) (j - 1) (swp dk i j) = reverseLoop a b1 d) := by
        show _ = _
        rw [← HI.out]
        conv => rhs; rw [reverseLoop, if_pos hlt]
      clear HI
      have S2 := Lib.hid ((S1.out.swap HP.out (i := i) (j := j) (by omega) (by omega)).drew)
      have l1 := S1.out.cell HP.out (t := i) (by omega)
      have l2 := S1.out.cell HP.out (t := j) (by omega)
      have f1 := S1.out.frz HP.out i
      have f2 := S1.out.frz HP.out j
      obtain ⟨u, c2⟩ := S1.out.c2 HP.out (i := i) (j := j) (by omega) (by omega) dk[j]!
      obtain ⟨x, hx⟩ : ∃ x, x = dk[i]! := ⟨_, rfl⟩
      obtain ⟨y, hy⟩ : ∃ x, x = dk[j]! := ⟨_, rfl⟩
      rw [← hx, ← hy] at S2
      rw [← hx] at l1
      rw [← hy] at l2 c2
      clear hx hy S1
      go_wp2_with fail
      go_region
      clear l1 l2 f1 f2 c2
      generalize ((wr.setCell (p.add i) (.int .u64 y)).setCell (p.add j) (.int .u64 x)).drew = w2 at S2 ⊢
      go_wp2_with fail
      go_roundw
      case rel => exact ⟨i + 1, j - 1, swp dk i j, by go_num, by congr 1; omega, by omega, by omega, HSZ.out, S2.out, HN.out⟩
      case measure => simp [intOf] <;> omega
    · have g0 : ¬ ((i : Int) < (j : Int)) := by omega
      have HE : Hid (dk = reverseRange d a b) := by
        show _ = _
        unfold reverseRange
        rw [← HB1.out, ← HI.out, reverseLoop, if_neg hlt]
      go_wp2_with fail
      go_end0
      exact ⟨rfl, by rw [← HE.out]; exact S1.out⟩
end Go.Proofs.Ytfhengihdlojmaa
