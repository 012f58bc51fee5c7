/-
  order2, median, choosePivot of numbers: where a pivot may be.
-/
import Derived.Test.YtfhengihdlojmaaUsH
namespace Go.Proofs.Ytfhengihdlojmaa
open Go.RowKit Go.Sort

namespace Us
/-- A row to sort, and a counter. -/
structure Cnt (w0 : World) (B : Nat) (rest : List Value) (d : Array Int) (C s : Nat) (W : World) : Prop where
  row : Row w0 B rest d W
  cnt : W.heap[C]? = some (.cells #[.int .i64 (s : Int)] 3 (0, 0))
  lo : w0.heap.size ≤ C
  ne : C ≠ B
section
variable {w0 W : World} {B C s : Nat} {rest : List Value} {d : Array Int}
theorem Cnt.cell (h : Cnt w0 B rest d C s W) : W.cell? ⟨C, 0, none⟩ = some (.int .i64 (s : Int)) := cell_of_row _ _ 0 _ _ _ h.cnt
theorem Cnt.frz (h : Cnt w0 B rest d C s W) : W.frozen? ⟨C, 0, none⟩ = false := frozen_of_row _ _ 0 _ _ h.cnt
theorem Cnt.drewN (h : Cnt w0 B rest d C s W) (n : Nat) : Cnt w0 B rest d C s (W.drewN n) := ⟨h.row.drewN n, h.cnt, h.lo, h.ne⟩
theorem Cnt.set (h : Cnt w0 B rest d C s W) (t : Nat) : Cnt w0 B rest d C t (W.setCell ⟨C, 0, none⟩ (.int .i64 (t : Int))) := by
  refine ⟨⟨?_, ?_⟩, by rw [heap_setCell_same _ _ _ _ _ _ h.cnt]; rfl, h.lo, h.ne⟩
  · rw [Below.heap_setCell _ _ _ _ h.ne.symm]; exact h.row.row
  · exact ⟨h.row.mv.os, h.row.mv.tape, h.row.mv.output, Nat.le_trans h.row.mv.size (by simp [World.setCell]), fun i hi hb => by
      rw [Below.heap_setCell _ _ _ _ (show i ≠ C by have := h.lo; omega)]; exact h.row.mv.block i hi hb, fun _ _ h => h⟩
end
end Us

set_option maxRecDepth 20000 in
set_option maxHeartbeats 4000000 in
theorem uorder2 {w0 : World} {B C s : Nat} {rest : List Value} {d : Array Int} {w : World} (S : Us.Cnt w0 B rest d C s w) (cap a b : Nat) (ha : a < d.size) (hb : b < d.size) (hs : s ≤ 1000) :
    Calls Try.prog 64 #[.slice (some ⟨B, 0, none⟩) d.size cap, .int .i64 (a : Int), .int .i64 (b : Int), .pointer (some ⟨C, 0, none⟩)] w fun e w' =>
      ∃ x y s' : Nat, e = .returned (.tuple #[.int .i64 (x : Int), .int .i64 (y : Int)]) ∧ ((x = a ∧ y = b) ∨ (x = b ∧ y = a)) ∧ s' ≤ s + 1 ∧ Us.Cnt w0 B rest d C s' w' := by
  have SC := Lib.hid S
  obtain ⟨p, hp⟩ : ∃ p : Addr, p = ⟨B, 0, none⟩ := ⟨_, rfl⟩
  rw [← hp]
  have HP := Lib.hid hp
  have ya : (a : Int) < (d.size : Int) := by omega
  have yb : (b : Int) < (d.size : Int) := by omega
  have s9 : (s : Int) ≤ 1000 := by omega
  have l1 := SC.out.row.cell HP.out (t := b) (by omega)
  have l2 := SC.out.row.cell HP.out (t := a) (by omega)
  have hxy := uless d[b]! d[a]!
  clear S hp
  generalize hv : ltInt d[b]! d[a]! = v at hxy
  generalize d[a]! = x at hxy l2
  generalize d[b]! = y at hxy l1
  have HXY : Hid (∀ W, Calls Try.prog 53 #[.int .u64 y, .int .u64 x] W fun e w' => e = .returned (.bool v) ∧ W = w') := hxy
  clear hxy hv
  cases v with
  | true =>
    go_enter Try.func64, Try.ntmps64
    go_wp2_with fail
    go_quiet ((go_at_call 53; exact Calls.quiet_of_same ((HXY.out _).mono fun _ _ h => ⟨h.1, h.2.symm⟩)))
    have S2 := Lib.hid (SC.out.drewN nq)
    clear l1 l2 SC HXY
    generalize w.drewN nq = w2 at S2 ⊢
    have c0 := S2.out.cell
    have f0 := S2.out.frz
    have zs : (s : Int) + 1 = ((s + 1 : Nat) : Int) := by omega
    have S3 := Lib.hid (S2.out.set (s + 1))
    obtain ⟨s1, hs1⟩ : ∃ s1, s1 = s + 1 := ⟨_, rfl⟩
    rw [← hs1] at S3 zs
    have HS1 := Lib.hid hs1
    clear hs1
    go_wp2_with fail
    refine bodyPost_ret (results_tmp2 rfl _ _ _) rfl ?_
    exact ⟨b, a, s1, rfl, .inr ⟨rfl, rfl⟩, by have := HS1.out; omega, S3.out⟩
  | false =>
    go_enter Try.func64, Try.ntmps64
    go_wp2_with fail
    go_quiet ((go_at_call 53; exact Calls.quiet_of_same ((HXY.out _).mono fun _ _ h => ⟨h.1, h.2.symm⟩)))
    have S2 := Lib.hid (SC.out.drewN nq)
    clear l1 l2 SC HXY
    generalize w.drewN nq = w2 at S2 ⊢
    go_wp2_with fail
    refine bodyPost_ret (results_tmp2 rfl _ _ _) rfl ?_
    exact ⟨a, b, s, rfl, .inl ⟨rfl, rfl⟩, by omega, S2.out⟩

set_option maxRecDepth 20000 in
set_option maxHeartbeats 4000000 in
theorem umedian {w0 : World} {B C s : Nat} {rest : List Value} {d : Array Int} {w : World} (S : Us.Cnt w0 B rest d C s w) (cap a b c : Nat) (ha : a < d.size) (hb : b < d.size) (hc : c < d.size) (hs : s ≤ 900) :
    Calls Try.prog 62 #[.slice (some ⟨B, 0, none⟩) d.size cap, .int .i64 (a : Int), .int .i64 (b : Int), .int .i64 (c : Int), .pointer (some ⟨C, 0, none⟩)] w fun e w' =>
      ∃ m s' : Nat, e = .returned (.int .i64 (m : Int)) ∧ (m = a ∨ m = b ∨ m = c) ∧ s' ≤ s + 3 ∧ Us.Cnt w0 B rest d C s' w' := by
  have H1 := Lib.hid (uorder2 S cap a b ha hb (by omega))
  clear S
  go_enter Try.func62, Try.ntmps62
  go_wp2_with fail
  refine H1.out.mono ?_
  rintro e w1 ⟨x1, y1, s1, rfl, hxy1, hs1, S1⟩
  have H2 := Lib.hid (uorder2 S1 cap y1 c (by omega) hc (by omega))
  have HA := Lib.hid (And.intro hxy1 hs1)
  clear H1 hxy1 hs1 S1
  go_wp2_with fail
  refine H2.out.mono ?_
  rintro e w2 ⟨x2, y2, s2, rfl, hxy2, hs2, S2⟩
  have H3 := Lib.hid (uorder2 S2 cap x1 x2 (by have := HA.out.1; omega) (by have := HA.out.1; omega) (by have := HA.out.2; omega))
  have HB := Lib.hid (And.intro hxy2 hs2)
  clear H2 hxy2 hs2 S2
  go_wp2_with fail
  refine H3.out.mono ?_
  rintro e w3 ⟨x3, y3, s3, rfl, hxy3, hs3, S3⟩
  have HE : Hid ((y3 = a ∨ y3 = b ∨ y3 = c) ∧ s3 ≤ s + 3 ∧ Us.Cnt w0 B rest d C s3 w3) := ⟨by have := HA.out.1; have := HB.out.1; omega, by have := HA.out.2; have := HB.out.2; omega, S3⟩
  clear H3 hxy3 hs3 S3
  go_wp2_with fail
  go_ret
  exact ⟨y3, s3, rfl, HE.out⟩

set_option maxRecDepth 20000 in
set_option maxHeartbeats 4000000 in
theorem umedianAdj {w0 : World} {B C s : Nat} {rest : List Value} {d : Array Int} {w : World} (S : Us.Cnt w0 B rest d C s w) (cap a : Nat) (ha : 1 ≤ a) (hb : a + 1 < d.size) (hsz : d.size ≤ 1000000) (hs : s ≤ 900) :
    Calls Try.prog 61 #[.slice (some ⟨B, 0, none⟩) d.size cap, .int .i64 (a : Int), .pointer (some ⟨C, 0, none⟩)] w fun e w' =>
      ∃ m s' : Nat, e = .returned (.int .i64 (m : Int)) ∧ (a ≤ m + 1 ∧ m ≤ a + 1) ∧ s' ≤ s + 3 ∧ Us.Cnt w0 B rest d C s' w' := by
  obtain ⟨a1, h1⟩ : ∃ a1, a1 = a - 1 := ⟨_, rfl⟩
  obtain ⟨a2, h2⟩ : ∃ a2, a2 = a + 1 := ⟨_, rfl⟩
  have z1 : (a : Int) - 1 = (a1 : Int) := by omega
  have z2 : (a : Int) + 1 = (a2 : Int) := by omega
  have a9 : (a : Int) ≤ 1000000 := by omega
  have H1 := Lib.hid (umedian S cap a1 a a2 (by omega) (by omega) (by omega) hs)
  have HA := Lib.hid (And.intro h1 h2)
  clear S h1 h2
  go_enter Try.func61, Try.ntmps61
  go_wp2_with fail
  refine H1.out.mono ?_
  rintro e w1 ⟨m, s', rfl, hm, hs', S1⟩
  have HE : Hid ((a ≤ m + 1 ∧ m ≤ a + 1) ∧ s' ≤ s + 3 ∧ Us.Cnt w0 B rest d C s' w1) := ⟨by have := HA.out; omega, hs', S1⟩
  clear hm hs' S1 H1
  go_wp2_with fail
  go_ret
  exact ⟨m, s', rfl, HE.out⟩

set_option maxRecDepth 20000 in
set_option maxHeartbeats 8000000 in
theorem uchoose {w0 : World} {B : Nat} {rest : List Value} {d : Array Int} {w : World} (S : Us.Row w0 B rest d w) (cap a b : Nat) (hab : a < b) (hb : b ≤ d.size) (hsz : d.size ≤ 1000000) :
    Calls Try.prog 50 #[.slice (some ⟨B, 0, none⟩) d.size cap, .int .i64 (a : Int), .int .i64 (b : Int)] w fun e w' =>
      (∃ (m : Nat) (h : Int), e = .returned (.tuple #[.int .i64 (m : Int), .int .i64 h]) ∧ a ≤ m ∧ m < b ∧ (h = 0 ∨ h = 1 ∨ h = 2)) ∧ Us.Row w0 B rest d w' := by
  obtain ⟨n, hn⟩ : ∃ n, n = b - a := ⟨_, rfl⟩
  obtain ⟨q, hq⟩ : ∃ q, q = n / 4 := ⟨_, rfl⟩
  obtain ⟨q2, hq2⟩ : ∃ q2, q2 = q * 2 := ⟨_, rfl⟩
  obtain ⟨q3, hq3⟩ : ∃ q3, q3 = q * 3 := ⟨_, rfl⟩
  obtain ⟨i, hi⟩ : ∃ i, i = a + q := ⟨_, rfl⟩
  obtain ⟨j, hj⟩ : ∃ j, j = a + q2 := ⟨_, rfl⟩
  obtain ⟨k, hk⟩ : ∃ k, k = a + q3 := ⟨_, rfl⟩
  have zn : (b : Int) - (a : Int) = (n : Int) := by omega
  have zq : (n : Int) / 4 = (q : Int) := by omega
  have zq' : (n : Int).tdiv 4 = (q : Int) := by rw [Int.tdiv_eq_ediv_of_nonneg (by omega)]; omega
  have zq2 : (q : Int) * 2 = (q2 : Int) := by omega
  have zq3 : (q : Int) * 3 = (q3 : Int) := by omega
  have zi : (a : Int) + (q : Int) = (i : Int) := by omega
  have zj : (a : Int) + (q2 : Int) = (j : Int) := by omega
  have zk : (a : Int) + (q3 : Int) = (k : Int) := by omega
  have b9 : (b : Int) ≤ 1000000 := by omega
  have n9 : (n : Int) ≤ 1000000 := by omega
  have q9 : (q : Int) ≤ 1000000 := by omega
  have q29 : (q2 : Int) ≤ 1000000 := by omega
  have q39 : (q3 : Int) ≤ 1000000 := by omega
  have i9 : (i : Int) ≤ 1000000 := by omega
  have j9 : (j : Int) ≤ 1000000 := by omega
  have k9 : (k : Int) ≤ 1000000 := by omega
  obtain ⟨W, hW⟩ : ∃ W, W = w.alloc (.cells #[.int .i64 0] 3) := ⟨_, rfl⟩
  have S0 : Hid (Us.Cnt w0 B rest d w.heap.size 0 W) := by
    refine ⟨S.below (by rw [hW]; exact (Below.refl _ _).alloc (Nat.le_refl _) _), by rw [hW]; exact heap_alloc_new w _, S.mv.size, ?_⟩
    have := S.lt
    omega
  have HL : Hid (n = b - a ∧ q = n / 4 ∧ q2 = q * 2 ∧ q3 = q * 3 ∧ i = a + q ∧ j = a + q2 ∧ k = a + q3) := ⟨hn, hq, hq2, hq3, hi, hj, hk⟩
  clear S
  by_cases h8 : 8 ≤ n
  · have g8 : (8 : Int) ≤ (n : Int) := by omega
    by_cases h50 : 50 ≤ n
    · have g50 : (50 : Int) ≤ (n : Int) := by omega
      have H1 := Lib.hid (umedianAdj S0.out cap i (by omega) (by omega) hsz (by omega))
      clear hn hq hq2 hq3 hi hj hk S0 h8
      go_enter Try.func50, Try.ntmps50
      go_wp2_with fail
      rw [← hW]
      clear hW
      refine H1.out.mono ?_
      rintro e w1 ⟨m1, s1, rfl, hm1, hs1, S1⟩
      have H2 := Lib.hid (umedianAdj S1 cap j (by have := HL.out; omega) (by have := HL.out; omega) hsz (by omega))
      have HM1 := Lib.hid (And.intro hm1 hs1)
      clear H1 S1 hm1 hs1
      go_wp2_with fail
      refine H2.out.mono ?_
      rintro e w2 ⟨m2, s2, rfl, hm2, hs2, S2⟩
      have H3 := Lib.hid (umedianAdj S2 cap k (by have := HL.out; omega) (by have := HL.out; omega) hsz (by have := HM1.out; omega))
      have HM2 := Lib.hid (And.intro hm2 hs2)
      clear H2 S2 hm2 hs2
      go_wp2_with fail
      refine H3.out.mono ?_
      rintro e w3 ⟨m3, s3, rfl, hm3, hs3, S3⟩
      have H4 := Lib.hid (umedian S3 cap m1 m2 m3 (by have := HL.out; have := HM1.out; omega) (by have := HL.out; have := HM2.out; omega) (by have := HL.out; omega) (by have := HM1.out; have := HM2.out; omega))
      have HM3 := Lib.hid (And.intro hm3 hs3)
      clear H3 S3 hm3 hs3
      go_wp2_with fail
      refine H4.out.mono ?_
      rintro e w4 ⟨m, sw, rfl, hm, hs4, S4⟩
      have HMM : a ≤ m ∧ m < b := by have := HL.out; have := HM1.out; have := HM2.out; have := HM3.out; omega
      have sw9 : (sw : Int) ≤ 1000 := by have := HM1.out; have := HM2.out; have := HM3.out; omega
      have S4' := Lib.hid S4
      clear hm hs4 S4 H4
      have HM : Hid (a ≤ m ∧ m < b) := HMM
      have cc := S4'.out.cell
      have HF : Hid (Us.Row w0 B rest d _) := S4'.out.row
      clear S4'
      by_cases e0 : sw = 0
      · have g0 : ((sw : Int) == 0) = true := by rw [beq_iff_eq]; omega
        clear e0
        go_wp2_with fail
        refine bodyPost_ret (results_tmp2 rfl _ _ _) rfl ?_
        exact ⟨⟨m, 1, rfl, HM.out.1, HM.out.2, .inr (.inl rfl)⟩, HF.out⟩
      · have g0 : ((sw : Int) == 0) = false := by rw [beq_eq_false_iff_ne]; omega
        by_cases e1 : sw = 12
        · have g1 : ((sw : Int) == 12) = true := by rw [beq_iff_eq]; omega
          clear e0 e1
          go_wp2_with fail
          refine bodyPost_ret (results_tmp2 rfl _ _ _) rfl ?_
          exact ⟨⟨m, 2, rfl, HM.out.1, HM.out.2, .inr (.inr rfl)⟩, HF.out⟩
        · have g1 : ((sw : Int) == 12) = false := by rw [beq_eq_false_iff_ne]; omega
          clear e0 e1
          go_wp2_with fail
          refine bodyPost_ret (results_tmp2 rfl _ _ _) rfl ?_
          exact ⟨⟨m, 0, rfl, HM.out.1, HM.out.2, .inl rfl⟩, HF.out⟩
    · have g50 : ¬ ((50 : Int) ≤ (n : Int)) := by omega
      have H1 := Lib.hid (umedian S0.out cap i j k (by omega) (by omega) (by omega) (by omega))
      clear hn hq hq2 hq3 hi hj hk S0 h8 h50
      go_enter Try.func50, Try.ntmps50
      go_wp2_with fail
      rw [← hW]
      clear hW
      refine H1.out.mono ?_
      rintro e w4 ⟨m, sw, rfl, hm, hs4, S4⟩
      have HMM : a ≤ m ∧ m < b := by have := HL.out; omega
      have sw9 : (sw : Int) ≤ 1000 := by omega
      have S4' := Lib.hid S4
      clear hm hs4 S4 H1
      have HM : Hid (a ≤ m ∧ m < b) := HMM
      have cc := S4'.out.cell
      have HF : Hid (Us.Row w0 B rest d _) := S4'.out.row
      clear S4'
      by_cases e0 : sw = 0
      · have g0 : ((sw : Int) == 0) = true := by rw [beq_iff_eq]; omega
        clear e0
        go_wp2_with fail
        refine bodyPost_ret (results_tmp2 rfl _ _ _) rfl ?_
        exact ⟨⟨m, 1, rfl, HM.out.1, HM.out.2, .inr (.inl rfl)⟩, HF.out⟩
      · have g0 : ((sw : Int) == 0) = false := by rw [beq_eq_false_iff_ne]; omega
        by_cases e1 : sw = 12
        · have g1 : ((sw : Int) == 12) = true := by rw [beq_iff_eq]; omega
          clear e0 e1
          go_wp2_with fail
          refine bodyPost_ret (results_tmp2 rfl _ _ _) rfl ?_
          exact ⟨⟨m, 2, rfl, HM.out.1, HM.out.2, .inr (.inr rfl)⟩, HF.out⟩
        · have g1 : ((sw : Int) == 12) = false := by rw [beq_eq_false_iff_ne]; omega
          clear e0 e1
          go_wp2_with fail
          refine bodyPost_ret (results_tmp2 rfl _ _ _) rfl ?_
          exact ⟨⟨m, 0, rfl, HM.out.1, HM.out.2, .inl rfl⟩, HF.out⟩
  · have g8 : ¬ ((8 : Int) ≤ (n : Int)) := by omega
    have HM : Hid (a ≤ j ∧ j < b) := ⟨by omega, by omega⟩
    have HF : Hid (Us.Row w0 B rest d W) := S0.out.row
    have cc := S0.out.cell
    clear hn hq hq2 hq3 hi hj hk S0 h8
    go_enter Try.func50, Try.ntmps50
    go_wp2_with fail
    rw [← hW]
    refine bodyPost_ret (results_tmp2 rfl _ _ _) rfl ?_
    exact ⟨⟨j, 1, rfl, HM.out.1, HM.out.2, .inr (.inl rfl)⟩, HF.out⟩
end Go.Proofs.Ytfhengihdlojmaa
