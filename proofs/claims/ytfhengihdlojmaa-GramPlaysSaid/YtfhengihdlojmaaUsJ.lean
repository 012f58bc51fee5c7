/-
  breakPatterns of numbers: a counter that goes on by shifts; three exchanges.
-/
import Derived.Test.YtfhengihdlojmaaUsI
import Derived.Sort.Walk7a
namespace Go.Proofs.Ytfhengihdlojmaa
open Go.RowKit Go.Sort

namespace Us
/-- A row to sort, and the number that is drawn from. -/
structure Rnd (w0 : World) (B : Nat) (rest : List Value) (d : Array Int) (C r : Nat) (W : World) : Prop where
  row : Row w0 B rest d W
  cnt : W.heap[C]? = some (.cells #[.int .u64 (r : Int)] 98 (0, 0))
  lo : w0.heap.size ≤ C
  ne : C ≠ B
  lt : r < 18446744073709551616
section
variable {w0 W : World} {B C r : Nat} {rest : List Value} {d : Array Int}
theorem Rnd.cell (h : Rnd w0 B rest d C r W) : W.cell? ⟨C, 0, none⟩ = some (.int .u64 (r : Int)) := cell_of_row _ _ 0 _ _ _ h.cnt
theorem Rnd.frz (h : Rnd w0 B rest d C r W) : W.frozen? ⟨C, 0, none⟩ = false := frozen_of_row _ _ 0 _ _ h.cnt
theorem Rnd.drewN (h : Rnd w0 B rest d C r W) (n : Nat) : Rnd w0 B rest d C r (W.drewN n) := ⟨h.row.drewN n, h.cnt, h.lo, h.ne, h.lt⟩
theorem Rnd.drew (h : Rnd w0 B rest d C r W) : Rnd w0 B rest d C r W.drew := ⟨h.row.drew, h.cnt, h.lo, h.ne, h.lt⟩
theorem Rnd.set (h : Rnd w0 B rest d C r W) {t : Nat} (ht : t < 18446744073709551616) : Rnd w0 B rest d C t (W.setCell ⟨C, 0, none⟩ (.int .u64 (t : Int))) := by
  refine ⟨⟨?_, ?_⟩, by rw [heap_setCell_same _ _ _ _ _ _ h.cnt]; rfl, h.lo, h.ne, ht⟩
  · rw [Below.heap_setCell _ _ _ _ h.ne.symm]; exact h.row.row
  · exact ⟨h.row.mv.os, h.row.mv.tape, h.row.mv.output, Nat.le_trans h.row.mv.size (by simp [World.setCell]), fun i hi hb => by
      rw [Below.heap_setCell _ _ _ _ (show i ≠ C by have := h.lo; omega)]; exact h.row.mv.block i hi hb, fun _ _ h => h⟩
theorem Rnd.put (h : Rnd w0 B rest d C r W) {p : Addr} (hp : p = ⟨B, 0, none⟩) {i : Nat} (hi : i < d.size) (x : Int) : Rnd w0 B rest (d.setIfInBounds i x) C r (W.setCell (p.add i) (.int .u64 x)) := by
  refine ⟨h.row.set hp hi x, ?_, h.lo, h.ne, h.lt⟩
  rw [hp, addB, Below.heap_setCell _ _ _ _ (show C ≠ (⟨B, i, none⟩ : Addr).block from h.ne)]
  exact h.cnt
theorem Rnd.swap (h : Rnd w0 B rest d C r W) {p : Addr} (hp : p = ⟨B, 0, none⟩) {i j : Nat} (hi : i < d.size) (hj : j < d.size) :
    Rnd w0 B rest (swp d i j) C r ((W.setCell (p.add i) (.int .u64 d[j]!)).setCell (p.add j) (.int .u64 d[i]!)) :=
  (h.put hp hi _).put hp (by simpa using hj) _
end
end Us

set_option maxRecDepth 100000 in
set_option maxHeartbeats 2000000 in
theorem unext (C X : Nat) (hX : X < 18446744073709551616) (w : World) (hc : w.cell? ⟨C, 0, none⟩ = some (.int .u64 X)) (hf : w.frozen? ⟨C, 0, none⟩ = false) :
    Calls Try.prog 60 #[.pointer (some ⟨C, 0, none⟩)] w fun e w' => e = .returned (.int .u64 (xorNextN X : Nat)) ∧ w' = (w.setCell ⟨C, 0, none⟩ (.int .u64 (xorNextN X : Nat))).drewN 3 := by
  obtain ⟨A, hA⟩ : ∃ A : Nat, A = X ^^^ (X * 8192 % 18446744073709551616) := ⟨_, rfl⟩
  obtain ⟨B, hB⟩ : ∃ B : Nat, B = A ^^^ (A / 128) := ⟨_, rfl⟩
  obtain ⟨C', hC⟩ : ∃ C' : Nat, C' = B ^^^ (B * 131072 % 18446744073709551616) := ⟨_, rfl⟩
  have lA : A < 18446744073709551616 := by rw [hA]; exact Nat.xor_lt_two_pow (n := 64) (by omega) (by omega)
  have lB : B < 18446744073709551616 := by rw [hB]; exact Nat.xor_lt_two_pow (n := 64) (by omega) (by omega)
  have e1 : bits .xor .u64 (X : Int) (IntKind.u64.wrap ((X : Int) * 8192)) = (A : Int) := by
    rw [IntKind.wrap_u64, show ((X : Int) * 8192 % 18446744073709551616) = ((X * 8192 % 18446744073709551616 : Nat) : Int) by omega, bits_xor_u64_nat _ _ hX (by omega), hA]
  have e2 : bits .xor .u64 (A : Int) ((A : Int) / 128) = (B : Int) := by
    rw [show ((A : Int) / 128) = ((A / 128 : Nat) : Int) by omega, bits_xor_u64_nat _ _ lA (by omega), hB]
  have e3 : bits .xor .u64 (B : Int) (IntKind.u64.wrap ((B : Int) * 131072)) = (C' : Int) := by
    rw [IntKind.wrap_u64, show ((B : Int) * 131072 % 18446744073709551616) = ((B * 131072 % 18446744073709551616 : Nat) : Int) by omega, bits_xor_u64_nat _ _ lB (by omega), hC]
  have hv : xorNextN X = C' := by unfold xorNextN; simp only []; rw [← hA, ← hB, ← hC]
  rw [hv]
  clear hA hB hC hv
  have hss : ∀ v v', (w.setCell ⟨C, 0, none⟩ v).setCell ⟨C, 0, none⟩ v' = w.setCell ⟨C, 0, none⟩ v' := setCell_setCell w C 0
  go_enter Try.func60, Try.ntmps60
  go_wp2
  go_region
  all_goals go_wp2
  all_goals go_region
  all_goals go_wp2
  all_goals go_region
  all_goals go_wp2
  go_ret
  exact ⟨rfl, rfl⟩

set_option maxRecDepth 20000 in
theorem unpow (n : Nat) (hn : n ≤ 1000000) (w : World) :
    Calls Try.prog 59 #[.int .i64 n] w fun e w' => e = .returned (.int .u64 ((1 <<< bitsLen n : Nat) : Int)) ∧ w = w' := by
  have hLen : Hid (∀ w, Calls Try.prog 46 #[.int .u64 (n : Int)] w fun e w' => e = .returned (.int .i64 (bitsLen n : Nat)) ∧ w = w') := fun w => by
    have h := ulen n w hn
    rwa [bitLen_eq _ (by omega)] at h
  have hk : bitsLen n ≤ 62 := (bitsLen_le_iff n 62).2 (by omega)
  have hp := wrap_two_pow (bitsLen n) hk
  have hw : IntKind.u64.wrap (n : Int) = (n : Int) := by rw [IntKind.wrap_u64]; omega
  go_enter Try.func59, Try.ntmps59
  go_wp2_with fail
  refine (hLen.out _).mono ?_
  rintro e w1 ⟨rfl, rfl⟩
  go_wp2_with fail
  go_ret
  exact ⟨rfl, rfl⟩

set_option maxRecDepth 20000 in
set_option maxHeartbeats 600000 in
theorem ubreak {w0 : World} {B : Nat} {rest : List Value} {d : Array Int} {w : World} (S : Us.Row w0 B rest d w) (cap a b : Nat) (hab : a ≤ b) (hb : b ≤ d.size) (hsz : d.size ≤ 1000000) :
    Calls Try.prog 49 #[.slice (some ⟨B, 0, none⟩) d.size cap, .int .i64 (a : Int), .int .i64 (b : Int)] w fun e w' => e = .returned (.tuple #[]) ∧ ∃ d', Us.Row w0 B rest d' w' ∧ PermIn a b d d' := by
  obtain ⟨p, hp⟩ : ∃ p : Addr, p = ⟨B, 0, none⟩ := ⟨_, rfl⟩
  rw [← hp]
  have HP := Lib.hid hp
  obtain ⟨L, hL⟩ : ∃ L, L = b - a := ⟨_, rfl⟩
  have zL : (b : Int) - (a : Int) = (L : Int) := by omega
  have hL9 : (L : Int) ≤ 1000000 := by omega
  have ha9 : (a : Int) ≤ 1000000 := by omega
  have S0 := Lib.hid S
  by_cases h8 : 8 ≤ L
  · have g8 : (8 : Int) ≤ (L : Int) := by omega
    obtain ⟨W, hW⟩ : ∃ W, W = w.alloc (.cells #[.int .u64 (L : Int)] 98) := ⟨_, rfl⟩
    have SC : Hid (Us.Rnd w0 B rest d w.heap.size L W) := by
      refine ⟨S.below (by rw [hW]; exact (Below.refl _ _).alloc (Nat.le_refl _) _), by rw [hW]; exact heap_alloc_new w _, S.mv.size, ?_, by omega⟩
      have := S.lt
      omega
    obtain ⟨C, hC⟩ : ∃ C, C = w.heap.size := ⟨_, rfl⟩
    rw [← hC] at SC
    obtain ⟨M, hM⟩ : ∃ M : Nat, M = 1 <<< bitsLen L := ⟨_, rfl⟩
    have hM1 : 1 ≤ M := by rw [hM, Nat.one_shiftLeft]; exact Nat.two_pow_pos _
    have hM2 : M ≤ 2 * L := by rw [hM, Nat.one_shiftLeft]; exact two_pow_bitsLen_le (by omega)
    have HNP : Hid (∀ w, Calls Try.prog 59 #[.int .i64 (L : Int)] w fun e w' => e = .returned (.int .u64 (M : Int)) ∧ w = w') := by rw [hM]; exact fun w => unpow L (by omega) w
    have HM : Hid (1 ≤ M ∧ M ≤ 2 * L) := ⟨hM1, hM2⟩
    obtain ⟨q, hq⟩ : ∃ q, q = L / 4 := ⟨_, rfl⟩
    obtain ⟨i0, hi0⟩ : ∃ i0, i0 = a + q * 2 - 1 := ⟨_, rfl⟩
    have HL : Hid (L = b - a ∧ 8 ≤ L ∧ q = L / 4 ∧ i0 = a + q * 2 - 1 ∧ a ≤ b ∧ b ≤ d.size ∧ d.size ≤ 1000000) := ⟨hL, h8, hq, hi0, hab, hb, hsz⟩
    have hw : IntKind.u64.wrap (L : Int) = (L : Int) := by rw [IntKind.wrap_u64]; omega
    have wM : IntKind.u64.wrap ((M : Int) - 1) = (M : Int) - 1 := by rw [IntKind.wrap_u64]; omega
    have HW := Lib.hid hW
    have HC := Lib.hid hC
    have zq : (L : Int) / 4 = (q : Int) := by omega
    have zq' : (L : Int).tdiv 4 = (q : Int) := by rw [Int.tdiv_eq_ediv_of_nonneg (by omega)]; omega
    have q9 : (q : Int) ≤ 1000000 := by omega
    have zi0 : (a : Int) + (q : Int) * 2 - 1 = (i0 : Int) := by omega
    have zi2 : (a : Int) + (q : Int) * 2 + 1 = (i0 : Int) + 2 := by omega
    have i09 : (i0 : Int) ≤ 1000000 := by omega
    clear S hp hM hM1 hM2 hL hi0 h8 hq hab hb hsz
    go_enter Try.func49, Try.ntmps49
    go_wp2_with fail
    rw [← HW.out, ← HC.out]
    refine (HNP.out _).mono ?_
    rintro e w1 ⟨rfl, rfl⟩
    clear HW hW hC
    go_wp2_with fail
    go_loopw [9] (fun vi wr => ∃ (t R : Nat) (dk : Array Int), vi = .int .i64 ((i0 + t : Nat) : Int) ∧ t ≤ 3 ∧ Hid (PermIn a b d dk) ∧ Hid (Us.Rnd w0 B rest dk C R wr)) (fun vi _ => i0 + 4 - (intOf vi).toNat)
    case atStart => exact ⟨0, L, d, by congr 1, by omega, permIn_refl d a b, SC.out⟩
    case round =>
      obtain ⟨t, R, dk, rfl, ht, HPk, SK⟩ := hrel
      clear SC
      by_cases ht3 : t = 3
      · have g3 : ¬ ((i0 : Int) + (t : Int) ≤ (i0 : Int) + 2) := by omega
        subst ht3
        go_wp2_with fail
        go_end0
        exact ⟨rfl, dk, SK.out.row, HPk.out⟩
      · have lR := SK.out.lt
        have lR' := xorNextN_lt R lR
        have hNext := unext C R lR wr SK.out.cell SK.out.frz
        have S2 := Lib.hid ((SK.out.set lR').drewN 3)
        obtain ⟨R', hR'⟩ : ∃ R' : Nat, R' = xorNextN R := ⟨_, rfl⟩
        rw [← hR'] at hNext S2 lR'
        obtain ⟨O, hO⟩ : ∃ O : Nat, O = R' &&& (M - 1) := ⟨_, rfl⟩
        have lO : O ≤ M - 1 := by rw [hO]; exact Nat.and_le_right
        have eAnd : bits .and .u64 (R' : Int) ((M : Int) - 1) = (O : Int) := by
          have := HM.out
          rw [show ((M : Int) - 1) = ((M - 1 : Nat) : Int) by omega, bits_and_u64_nat _ _ lR' (by omega), hO]
        have HNX := Lib.hid hNext
        have O9 : (O : Int) ≤ 2000000 := by have := HM.out; have := HL.out; omega
        have wO : IntKind.i64.wrap (O : Int) = (O : Int) := by rw [IntKind.wrap_i64]; omega
        obtain ⟨k, hk⟩ : ∃ k, k = i0 + t := ⟨_, rfl⟩
        have HKA : Hid (a ≤ k ∧ k < b) := by have := HL.out; exact ⟨by omega, by omega⟩
        have k9 : (k : Int) ≤ 1000000 := by have := HL.out; have := HKA.out; omega
        have k0 : (k : Int) ≤ (i0 : Int) + 2 := by omega
        have kd : (k : Int) < (d.size : Int) := by have := HL.out; have := HKA.out; omega
        have HK := Lib.hid hk
        rw [← hk]
        have HO : Hid (O < 2 * L) := by have := HM.out; have := HL.out; show _ < _; omega
        have HT : Hid (t < 3) := by show _ < _; omega
        clear SK hO hR' hNext lR hk lO ht ht3
        by_cases hLO : L ≤ O
        · have gO : (L : Int) ≤ (O : Int) := by omega
          obtain ⟨m, hm⟩ : ∃ m, m = a + (O - L) := ⟨_, rfl⟩
          have HMA : Hid (a ≤ m ∧ m < b) := by have := HL.out; have := HO.out; exact ⟨by omega, by omega⟩
          have zm : (a : Int) + ((O : Int) - (L : Int)) = (m : Int) := by omega
          have HMm := Lib.hid hm
          clear hm hLO
          go_wp2_with fail
          refine HNX.out.mono ?_
          rintro e w1 ⟨rfl, rfl⟩
          generalize (wr.setCell ⟨C, 0, none⟩ (.int .u64 (R' : Int))).drewN 3 = w2 at S2 ⊢
          clear HNX
          have hkd : k < dk.size := by have := HKA.out; have := HL.out; have := HPk.out.1; omega
          have hmd : m < dk.size := by have := HMA.out; have := HL.out; have := HPk.out.1; omega
          have md : (m : Int) < (d.size : Int) := by have := HMA.out; have := HL.out; omega
          have HP2 : Hid (PermIn a b d (swp dk k m)) := permIn_trans _ _ _ a b HPk.out (swp_permIn dk a b k m HKA.out.1 HKA.out.2 HMA.out.1 HMA.out.2 (by have := HL.out; have := HPk.out.1; omega))
          have S3 := Lib.hid ((S2.out.swap HP.out hkd hmd).drew)
          have l1 := S2.out.row.cell HP.out hkd
          have l2 := S2.out.row.cell HP.out hmd
          have f1 := S2.out.row.frz HP.out k
          have f2 := S2.out.row.frz HP.out m
          obtain ⟨u, c2⟩ := S2.out.row.c2 HP.out hkd hmd dk[m]!
          obtain ⟨x, hx⟩ : ∃ x, x = dk[k]! := ⟨_, rfl⟩
          obtain ⟨y, hy⟩ : ∃ x, x = dk[m]! := ⟨_, rfl⟩
          rw [← hx, ← hy] at S3
          rw [← hx] at l1
          rw [← hy] at l2 c2
          clear hx hy S2 hkd hmd
          go_wp2_with fail
          go_region
          clear l1 l2 f1 f2 c2
          generalize ((w2.setCell (p.add k) (.int .u64 y)).setCell (p.add m) (.int .u64 x)).drew = w3 at S3 ⊢
          go_wp2_with fail
          go_roundw
          case rel => exact ⟨t + 1, R', swp dk k m, by have := HK.out; congr 1; omega, by have := HT.out; omega, HP2.out, S3.out⟩
          case measure => have := HK.out; simp [intOf] <;> omega
        · have gO : ¬ ((L : Int) ≤ (O : Int)) := by omega
          obtain ⟨m, hm⟩ : ∃ m, m = a + O := ⟨_, rfl⟩
          have HMA : Hid (a ≤ m ∧ m < b) := by have := HL.out; have := HO.out; exact ⟨by omega, by omega⟩
          have zm : (a : Int) + (O : Int) = (m : Int) := by omega
          have HMm := Lib.hid hm
          clear hm hLO
          go_wp2_with fail
          refine HNX.out.mono ?_
          rintro e w1 ⟨rfl, rfl⟩
          generalize (wr.setCell ⟨C, 0, none⟩ (.int .u64 (R' : Int))).drewN 3 = w2 at S2 ⊢
          clear HNX
          have hkd : k < dk.size := by have := HKA.out; have := HL.out; have := HPk.out.1; omega
          have hmd : m < dk.size := by have := HMA.out; have := HL.out; have := HPk.out.1; omega
          have md : (m : Int) < (d.size : Int) := by have := HMA.out; have := HL.out; omega
          have HP2 : Hid (PermIn a b d (swp dk k m)) := permIn_trans _ _ _ a b HPk.out (swp_permIn dk a b k m HKA.out.1 HKA.out.2 HMA.out.1 HMA.out.2 (by have := HL.out; have := HPk.out.1; omega))
          have S3 := Lib.hid ((S2.out.swap HP.out hkd hmd).drew)
          have l1 := S2.out.row.cell HP.out hkd
          have l2 := S2.out.row.cell HP.out hmd
          have f1 := S2.out.row.frz HP.out k
          have f2 := S2.out.row.frz HP.out m
          obtain ⟨u, c2⟩ := S2.out.row.c2 HP.out hkd hmd dk[m]!
          obtain ⟨x, hx⟩ : ∃ x, x = dk[k]! := ⟨_, rfl⟩
          obtain ⟨y, hy⟩ : ∃ x, x = dk[m]! := ⟨_, rfl⟩
          rw [← hx, ← hy] at S3
          rw [← hx] at l1
          rw [← hy] at l2 c2
          clear hx hy S2 hkd hmd
          go_wp2_with fail
          go_region
          clear l1 l2 f1 f2 c2
          generalize ((w2.setCell (p.add k) (.int .u64 y)).setCell (p.add m) (.int .u64 x)).drew = w3 at S3 ⊢
          go_wp2_with fail
          go_roundw
          case rel => exact ⟨t + 1, R', swp dk k m, by have := HK.out; congr 1; omega, by have := HT.out; omega, HP2.out, S3.out⟩
          case measure => have := HK.out; simp [intOf] <;> omega
  · have g8 : ¬ ((8 : Int) ≤ (L : Int)) := by omega
    clear S hp
    go_enter Try.func49, Try.ntmps49
    go_wp2_with fail
    go_end0
    exact ⟨rfl, d, S0.out, permIn_refl d a b⟩
end Go.Proofs.Ytfhengihdlojmaa
