/-
  The document's way of dividing, as plain facts: bits as numbers (val), texts as numbers (num).
  Contracts of the document's turn, powers, left.
  Contracts of the document's bits, Of, On, Join, Bytes.
-/
import Derived.Test.YtdmelkphankfiaaGreatSumMath
import Derived.Test.YtdmelkphankfiaaGreatLowSum
section
namespace Go.Proofs.YtdmelkphankfiaaGreat.Crc

/-- Bits as a number, the lowest first. -/
def val : List Bool → Nat
  | [] => 0
  | b :: l => b.toNat + 2 * val l

theorem val_lt (l : List Bool) : val l < 2 ^ l.length := by
  induction l with
  | nil => exact Nat.one_pos
  | cons b l ih =>
    show b.toNat + 2 * val l < 2 ^ (l.length + 1)
    have := Bool.toNat_le b
    rw [Nat.pow_succ]
    omega

theorem eq_of_half {x y : Nat} (h1 : x / 2 = y / 2) (h2 : x % 2 = y % 2) : x = y := by omega

theorem val_set (l : List Bool) (p : Nat) (h : p < l.length) : val (l.set p (!l[p])) = val l ^^^ 2 ^ p := by
  induction l generalizing p with
  | nil => simp at h
  | cons b l ih =>
    cases p with
    | zero =>
      show (!b).toNat + 2 * val l = (b.toNat + 2 * val l) ^^^ 1
      have hb := Bool.toNat_le b
      apply eq_of_half
      · rw [xor_div_two]
        show _ = _ ^^^ 0
        rw [Nat.xor_zero]
        cases b <;> simp [Bool.toNat] <;> omega
      · rw [xor_mod_two]
        cases b <;> simp [Bool.toNat] <;> omega
    | succ p =>
      have h' : p < l.length := by simpa using h
      show b.toNat + 2 * val (l.set p (!l[p])) = (b.toNat + 2 * val l) ^^^ 2 ^ (p + 1)
      rw [ih p h']
      have hb : b.toNat = 0 ∨ b.toNat = 1 := by cases b <;> simp
      have hp : 2 ^ (p + 1) = 2 * 2 ^ p := by rw [Nat.pow_succ]; omega
      apply eq_of_half
      · rw [xor_div_two, hp, Nat.mul_div_cancel_left _ (by omega)]
        have e1 : (b.toNat + 2 * (val l ^^^ 2 ^ p)) / 2 = val l ^^^ 2 ^ p := by omega
        have e2 : (b.toNat + 2 * val l) / 2 = val l := by omega
        rw [e1, e2]
      · rw [xor_mod_two, hp]
        omega

theorem val_append (l t : List Bool) : val (l ++ t) = val l + 2 ^ l.length * val t := by
  induction l with
  | nil => show val t = 0 + 2 ^ 0 * val t; simp
  | cons b l ih =>
    show b.toNat + 2 * val (l ++ t) = b.toNat + 2 * val l + 2 ^ (l.length + 1) * val t
    rw [ih, Nat.pow_succ, Nat.mul_add, ← Nat.mul_assoc, Nat.mul_comm 2 (2 ^ l.length)]
    omega
theorem val_zeros (n : Nat) : val (List.replicate n false) = 0 := by
  induction n with
  | zero => rfl
  | succ n ih => show false.toNat + 2 * val (List.replicate n false) = 0; rw [ih]; rfl

theorem val_drop (l : List Bool) (i : Nat) (h : i < l.length) : val (l.drop i) = l[i].toNat + 2 * val (l.drop (i + 1)) := by
  rw [List.drop_eq_getElem_cons h]; rfl

/-- One step of the division, where nothing is to be turned. -/
theorem step_none (l : List Bool) (i : Nat) (h : i < l.length) (hb : l[i] = false) : val (l.drop (i + 1)) = R (val (l.drop i)) := by
  rw [val_drop l i h, hb]
  show _ = R (0 + 2 * _)
  rw [Nat.zero_add, R_two]
theorem step_some (l : List Bool) (i : Nat) (h : i < l.length) (hb : l[i] = true) : val (l.drop (i + 1)) ^^^ D = R (val (l.drop i)) := by
  rw [val_drop l i h, hb]
  show _ = R (1 + 2 * _)
  unfold R
  rw [if_pos (by omega)]
  congr 1
  omega

theorem drop_set (l : List Bool) (i p : Nat) (v : Bool) (h : i ≤ p) : (l.set p v).drop i = (l.drop i).set (p - i) v := by
  rw [List.drop_set, if_neg (by omega)]

theorem val_drop_set (l : List Bool) (i p : Nat) (hp : p < l.length) (h : i ≤ p) : val ((l.set p (!l[p])).drop i) = val (l.drop i) ^^^ 2 ^ (p - i) := by
  rw [drop_set l i p _ h]
  have hl : p - i < (l.drop i).length := by rw [List.length_drop]; omega
  rw [← val_set (l.drop i) (p - i) hl]
  congr 2
  rw [List.getElem_drop]
  congr 2
  omega

/-- The divisor's powers but 32, in the document's row. -/
def powers : List Nat := [28, 27, 26, 25, 23, 22, 20, 19, 18, 14, 13, 11, 10, 9, 8, 6, 0]
/-- What the first k powers turn. -/
def Dk (k : Nat) : Nat := ((powers.take k).map fun p => 2 ^ (31 - p)).foldl (· ^^^ ·) 0
theorem Dk_all : Dk 17 = D := by decide +kernel
theorem Dk_succ : ∀ k : Fin 17, Dk (k.val + 1) = Dk k.val ^^^ 2 ^ (31 - powers.getD k.val 0) := by decide +kernel
theorem powers_le : ∀ k : Fin 17, powers.getD k.val 0 ≤ 28 := by decide +kernel

/-- A text as a number: its bits, the first one the lowest. -/
def num : List UInt8 → Nat
  | [] => 0
  | b :: l => b.toNat + 256 * num l

theorem split8 (b x : Nat) (h : b < 256) : b + 256 * x = b ^^^ 256 * x := by
  have := split_xor 8 (b + 256 * x)
  rw [show (2 : Nat) ^ 8 = 256 from rfl, show (b + 256 * x) / 256 = x by omega, show (b + 256 * x) % 256 = b by omega, Nat.xor_comm] at this
  exact this

theorem run_num (s : List UInt8) : run 0 s = Rn (8 * s.length) (num s) := by
  induction s with
  | nil => rfl
  | cons b s ih =>
    show run (Rn 8 (0 ^^^ b.toNat)) s = Rn (8 * (s.length + 1)) (b.toNat + 256 * num s)
    have h := run_xor 0 (Rn 8 b.toNat) s
    rw [Nat.zero_xor] at h
    rw [Nat.zero_xor, h, ih, split8 _ _ b.toNat_lt, Rn_xor, Nat.mul_add, Nat.mul_one, Rn_add, Rn_add, show 256 * num s = 2 ^ 8 * num s from rfl, Rn_pow, Nat.xor_comm]

theorem on_num (a : Nat) (s : List UInt8) : on a s = Rn (8 * s.length) (num s ^^^ (a ^^^ M)) ^^^ M := by
  unfold on
  have h := run_xor 0 (a ^^^ M) s
  rw [Nat.zero_xor] at h
  rw [h, run_num, ← Rn_xor]

/-- The bits of a byte, the lowest first. -/
def bit (b k : Nat) : Bool := b / 2 ^ k % 2 == 1
def bits8 (b j : Nat) : List Bool := (List.range j).map (bit b)
theorem bits8_succ (b j : Nat) : bits8 b (j + 1) = bits8 b j ++ [bit b j] := by
  unfold bits8
  rw [List.range_succ, List.map_append]; rfl
theorem bits8_len (b j : Nat) : (bits8 b j).length = j := by simp [bits8]
theorem val_bits8 (b j : Nat) : val (bits8 b j) = b % 2 ^ j := by
  induction j with
  | zero => simp [bits8, val, Nat.mod_one]
  | succ j ih =>
    rw [bits8_succ, val_append, ih, bits8_len, Nat.pow_succ, Nat.mod_mul]
    congr 2
    show (bit b j).toNat + 2 * 0 = _
    unfold bit
    rcases Nat.mod_two_eq_zero_or_one (b / 2 ^ j) with h | h <;> rw [h] <;> rfl

def textBits (s : List UInt8) : List Bool := s.flatMap fun b => bits8 b.toNat 8
theorem textBits_snoc (s : List UInt8) (b : UInt8) : textBits (s ++ [b]) = textBits s ++ bits8 b.toNat 8 := by
  unfold textBits
  rw [List.flatMap_append]
  simp
theorem textBits_len (s : List UInt8) : (textBits s).length = 8 * s.length := by
  induction s with
  | nil => rfl
  | cons b s ih =>
    show (bits8 b.toNat 8 ++ textBits s).length = _
    rw [List.length_append, bits8_len, ih, List.length_cons]
    omega
theorem val_text (s : List UInt8) : val (textBits s) = num s := by
  induction s with
  | nil => rfl
  | cons b s ih =>
    show val (bits8 b.toNat 8 ++ textBits s) = b.toNat + 256 * num s
    rw [val_append, val_bits8, bits8_len, ih]
    have := b.toNat_lt
    rw [Nat.mod_eq_of_lt this]

/-- What is left of a text's bits, turned by x. -/
def whole (s : List UInt8) : List Bool := textBits s ++ List.replicate 32 false
theorem whole_len (s : List UInt8) : (whole s).length = 8 * s.length + 32 := by
  unfold whole
  rw [List.length_append, textBits_len, List.length_replicate]
theorem val_whole (s : List UInt8) : val (whole s) = num s := by
  unfold whole
  rw [val_append, val_text, val_zeros, Nat.mul_zero, Nat.add_zero]

theorem not_bit (a i : Nat) (hi : i < 32) : (a ^^^ M) / 2 ^ i % 2 = 1 - a / 2 ^ i % 2 := by
  have h := Nat.testBit_xor a M i
  have hM : M.testBit i = true := by
    show (2 ^ 32 - 1).testBit i = true
    rw [Nat.testBit_two_pow_sub_one]; simpa using hi
  rw [hM, Nat.testBit_eq_decide_div_mod_eq, Nat.testBit_eq_decide_div_mod_eq] at h
  rcases Nat.mod_two_eq_zero_or_one (a / 2 ^ i) with e | e <;> rw [e] at h ⊢ <;>
    rcases Nat.mod_two_eq_zero_or_one ((a ^^^ M) / 2 ^ i) with e2 | e2 <;> rw [e2] at h ⊢ <;> simp at h
theorem M_bit (i : Nat) (hi : i < 32) : M / 2 ^ i % 2 = 1 := by
  have := not_bit 0 i hi
  rw [Nat.zero_xor, Nat.zero_div] at this
  exact this
theorem M_mod : M % 2 ^ 32 = M := by decide
end Go.Proofs.YtdmelkphankfiaaGreat.Crc
end

section
namespace Go.Proofs.YtdmelkphankfiaaGreat
open Go.RowKit

namespace Crc
/-- The bits l from place o of block B on. -/
def Bits (B o : Nat) (l : List Bool) (w : World) : Prop := ∀ i (h : i < l.length), w.cell? ⟨B, o + i, none⟩ = some (.bool l[i]) ∧ w.frozen? ⟨B, o + i, none⟩ = false

theorem Bits.set {B o : Nat} {l : List Bool} {w : World} (h : Bits B o l w) (q : Nat) (hq : q < l.length) (v : Bool) : Bits B o (l.set q v) (w.setCell ⟨B, o + q, none⟩ (.bool v)) := by
  intro i hi
  have hi' : i < l.length := by simpa using hi
  refine ⟨?_, by rw [World.frozen?_setCell]; exact (h i hi').2⟩
  by_cases e : i = q
  · subst e
    rw [World.cell?_setCell_same _ _ _ (h i hi').1, List.getElem_set_self]
  · rw [World.cell?_setCell_other _ _ _ _ (by intro hh; injection hh with _ h2 _; omega), List.getElem_set_ne (fun h => e h.symm)]
    exact (h i hi').1
theorem Bits.drop {B o : Nat} {l : List Bool} {w : World} (h : Bits B o l w) (k : Nat) : Bits B (o + k) (l.drop k) w := by
  intro i hi
  have hi' : k + i < l.length := by rw [List.length_drop] at hi; omega
  have := h (k + i) hi'
  rw [← Nat.add_assoc] at this
  rw [List.getElem_drop]
  exact this
end Crc

set_option maxRecDepth 20000 in
set_option maxHeartbeats 1000000 in
theorem turn_any (B o n cap base : Nat) (l : List Bool) (w : World) (hB : base ≤ B) (hn : l.length = n) (h32 : 32 ≤ n) (hbit : Crc.Bits B o l w) :
    Calls Tryz.prog 96 #[.slice (some ⟨B, o, none⟩) n cap] w
      fun e w' => e = .returned (.tuple #[]) ∧ (∃ l', l'.length = n ∧ Crc.val l' = Crc.val l ^^^ Crc.M ∧ Crc.Bits B o l' w') ∧ Below base w w' := by
  have HN := Lib.hid hn
  clear hn
  go_enter Tryz.func96, Tryz.ntmps96
  go_wp2
  go_loopw [2] (fun a wr => ∃ (i : Nat) (l' : List Bool), i ≤ 32 ∧ a = .int .i64 i ∧ l'.length = n ∧ Crc.val l' = Crc.val l ^^^ Crc.M % 2 ^ i ∧ Crc.Bits B o l' wr ∧ Below base w wr) (fun a _ => 32 - (intOf a).toNat)
  case atStart => exact ⟨0, l, by omega, rfl, HN.out, by simp [Nat.mod_one], hbit, Below.refl _ _⟩
  case round =>
    clear hbit
    obtain ⟨i, l', hi, rfl, hl, hv, hb, hbel⟩ := hrel
    have HL := Lib.hid hl
    have HV := Lib.hid hv
    have HB := Lib.hid hb
    clear hl hv hb
    by_cases hlt : i < 32
    · have hq : i < l'.length := by rw [HL.out]; omega
      have hin : i < n := by omega
      obtain ⟨hc, hf⟩ := HB.out i hq
      go_wp2
      go_roundw
      case rel =>
        refine ⟨i + 1, l'.set i (!l'[i]), by omega, by go_num, by rw [List.length_set]; exact HL.out, ?_, HB.out.set i hq _, hbel.setCell hB _⟩
        rw [Crc.val_set l' i hq, HV.out, Crc.mod_succ_bit _ _ (Crc.M_bit i hlt), Nat.xor_assoc]
      case measure => simp [intOf]; omega
    · have e : i = 32 := by omega
      have HE := Lib.hid e
      clear e
      go_wp2
      go_end0
      refine ⟨rfl, ⟨l', HL.out, ?_, HB.out⟩, hbel⟩
      have := HV.out
      rw [HE.out, Crc.M_mod] at this
      exact this

/-- The row of powers, in a block. -/
def Crc.Pows (B : Nat) (w : World) : Prop := ∀ j, j < 17 → w.cell? ⟨B, j, none⟩ = some (.int .i64 ((Crc.powers.getD j 0 : Nat) : Int))

set_option maxHeartbeats 400000 in
theorem powers_any (w : World) :
    Calls Tryz.prog 108 #[] w
      fun e w' => e = .returned (.slice (some ⟨w.heap.size, 0, none⟩) 17 17) ∧ Crc.Pows w.heap.size w' ∧ w.heap.size < w'.heap.size ∧ Below w.heap.size w w' := by
  go_enter Tryz.func108, Tryz.ntmps108
  go_wp2
  go_ret
  refine ⟨rfl, ?_, by simp, (Below.refl _ _).alloc (Nat.le_refl _) _⟩
  intro j hj
  rw [World.cell?_alloc_at _ _ _ _ rfl]
  have : j = 0 ∨ j = 1 ∨ j = 2 ∨ j = 3 ∨ j = 4 ∨ j = 5 ∨ j = 6 ∨ j = 7 ∨ j = 8 ∨ j = 9 ∨ j = 10 ∨ j = 11 ∨ j = 12 ∨ j = 13 ∨ j = 14 ∨ j = 15 ∨ j = 16 := by omega
  rcases this with rfl | rfl | rfl | rfl | rfl | rfl | rfl | rfl | rfl | rfl | rfl | rfl | rfl | rfl | rfl | rfl | rfl <;> rfl

theorem Crc.Bits.below {B o base : Nat} {l : List Bool} {w w' : World} (h : Crc.Bits B o l w) (hb : Below base w w') (hB : B < base) : Crc.Bits B o l w' := by
  intro i hi
  rw [hb.cell (p := ⟨B, o + i, none⟩) hB, hb.frozen (p := ⟨B, o + i, none⟩) hB]
  exact h i hi

set_option maxRecDepth 20000 in
set_option maxHeartbeats 4000000 in
theorem left_any (B n cap base : Nat) (l : List Bool) (w : World) (hB : base ≤ B) (hbase : base ≤ w.heap.size) (hBw : B < w.heap.size) (hn : l.length = n) (h32 : 32 ≤ n) (hlim : n ≤ 16777216) (hcap : n ≤ cap) (hbit : Crc.Bits B 0 l w) :
    Calls Tryz.prog 97 #[.slice (some ⟨B, 0, none⟩) n cap] w
      fun e w' => e = .returned (.int .u32 (Crc.Rn (n - 32) (Crc.val l) ^^^ Crc.M : Nat)) ∧ Below base w w' := by
  have HN := Lib.hid hn
  clear hn
  go_enter Tryz.func97, Tryz.ntmps97
  go_wp2_with fail
  refine (powers_any _).mono ?_
  rintro e w1 ⟨rfl, hpw, hw1, hb1⟩
  have hbit1 := hbit.below hb1 hBw
  have hbb := hb1.mono hbase
  clear hbit hb1
  go_wp2_with fail
  go_loopw [4] (fun a wr => ∃ (i : Nat) (l' : List Bool), i + 32 ≤ n ∧ a = .int .i64 i ∧ l'.length = n ∧ Crc.val (l'.drop i) = Crc.Rn i (Crc.val l) ∧ Crc.Bits B 0 l' wr ∧ Crc.Pows w.heap.size wr ∧ Below base w wr) (fun a _ => n - (intOf a).toNat)
  case atStart => exact ⟨0, l, by omega, rfl, HN.out, rfl, hbit1, hpw, hbb⟩
  case round =>
    clear hbit1 hpw hbb
    obtain ⟨i, l', hi, rfl, hl, hv, hb, hpw, hbel⟩ := hrel
    have HL := Lib.hid hl
    have HV := Lib.hid hv
    have HB := Lib.hid hb
    have HP := Lib.hid hpw
    clear hl hv hb hpw
    by_cases hlt : i + 32 < n
    · have hq : i < l'.length := by rw [HL.out]; omega
      have hin : i < n := by omega
      obtain ⟨hc, hf⟩ := HB.out i hq
      rw [Nat.zero_add] at hc hf
      cases hbv : l'[i] with
      | false =>
        rw [hbv] at hc
        have HE := Lib.hid (Crc.step_none l' i hq hbv)
        clear hbv
        go_wp2_with fail
        go_roundw
        case rel =>
          refine ⟨i + 1, l', by omega, by go_num, HL.out, ?_, HB.out, HP.out, hbel⟩
          rw [HE.out, HV.out]
          exact (Crc.Rn_R i _).symm
        case measure => simp [intOf]; omega
      | true =>
        rw [hbv] at hc
        have HE := Lib.hid (Crc.step_some l' i hq hbv)
        clear hbv
        go_wp2_with fail
        clear hc hf
        obtain ⟨wo, rfl⟩ : ∃ wo : World, wo = wr := ⟨_, rfl⟩
        go_loopw [5] (fun a wr => ∃ (k : Nat) (L : List Bool), k ≤ 17 ∧ a = .int .i64 k ∧ L.length = n ∧ Crc.val (L.drop (i + 1)) = Crc.val (l'.drop (i + 1)) ^^^ Crc.Dk k ∧ Crc.Bits B 0 L wr ∧ Crc.Pows w.heap.size wr ∧ Below base w wr) (fun a _ => 17 - (intOf a).toNat)
        case atStart => exact ⟨0, l', by omega, rfl, HL.out, by rw [show Crc.Dk 0 = 0 from rfl, Nat.xor_zero], HB.out, HP.out, hbel⟩
        case round =>
          clear HB HP hbel
          obtain ⟨k, L, hk, rfl, hl, hv, hb, hpw, hbel⟩ := hrel
          have HL2 := Lib.hid hl
          have HV2 := Lib.hid hv
          have HB := Lib.hid hb
          have HP := Lib.hid hpw
          clear hl hv hb hpw
          by_cases hk17 : k < 17
          · have hD := Crc.Dk_succ ⟨k, hk17⟩
            have hp28 := Crc.powers_le ⟨k, hk17⟩
            have hpc := HP.out k hk17
            simp only at hD hp28
            generalize Crc.powers.getD k 0 = p at hD hp28 hpc
            have HD := Lib.hid hD
            clear hD
            obtain ⟨q, hq2, hqs⟩ : ∃ q : Nat, (i : Int) + 32 - (p : Int) = (q : Int) ∧ q - (i + 1) = 31 - p := ⟨i + 32 - p, by omega, by omega⟩
            have HQ := Lib.hid hqs
            have hqi : i + 1 ≤ q := by omega
            have hqn : q < n := by omega
            have hqL : q < L.length := by rw [HL2.out]; exact hqn
            obtain ⟨hc, hf⟩ := HB.out q hqL
            rw [Nat.zero_add] at hc hf
            have hset := HB.out.set q hqL (!L[q])
            rw [Nat.zero_add] at hset
            have HS := Lib.hid hset
            have HPs : Hid (Crc.Pows w.heap.size (wr.setCell ⟨B, q, none⟩ (.bool !L[q]))) := fun j hj => by
              rw [World.cell?_setCell_other _ _ _ _ (by intro hh; injection hh with h1 _ _; omega)]
              exact HP.out j hj
            clear hqs hset
            go_wp2_with fail
            go_roundw
            case rel =>
              refine ⟨k + 1, L.set q (!L[q]), by omega, by go_num, by rw [List.length_set]; exact HL2.out, ?_, HS.out, HPs.out, hbel.setCell hB _⟩
              rw [Crc.val_drop_set L (i + 1) q hqL hqi, HV2.out, HQ.out, HD.out, Nat.xor_assoc]
            case measure => simp [intOf]; omega
          · have hke : k = 17 := by omega
            have HK := Lib.hid hke
            clear hke
            have hk17' : ¬ (k : Int) < 17 := by omega
            go_wp2_with fail
            go_roundw
            case rel =>
              refine ⟨i + 1, L, by omega, by go_num, HL2.out, ?_, HB.out, HP.out, hbel⟩
              rw [HV2.out, HK.out, Crc.Dk_all, HE.out, HV.out]
              exact (Crc.Rn_R i _).symm
            case measure => simp [intOf]; omega
    · have hdl : (l'.drop (n - 32)).length = n - (n - 32) := by rw [List.length_drop, HL.out]
      have hbd := HB.out.drop (n - 32)
      rw [Nat.zero_add] at hbd
      have HBD := Lib.hid hbd
      have HDL := Lib.hid hdl
      have HVV : Hid (Crc.val (l'.drop (n - 32)) = Crc.Rn (n - 32) (Crc.val l)) := by
        show _ = _
        have e : i = n - 32 := by omega
        rw [← e]; exact HV.out
      clear hbd hdl
      have h32' : 32 ≤ n - (n - 32) := by omega
      have hlen : n - (n - 32) = 32 := by omega
      have HLEN := Lib.hid hlen
      clear hlen
      go_wp2_with fail
      refine (turn_any B (n - 32) _ _ base _ _ hB HDL.out h32' HBD.out).mono ?_
      rintro e w2 ⟨rfl, ⟨l2, hl2, hv2, hbit2⟩, hbel2⟩
      have HL2 := Lib.hid hl2
      have HV2 := Lib.hid hv2
      have HB2 := Lib.hid hbit2
      clear hl2 hv2 hbit2
      have hbelA := hbel.trans hbel2
      go_wp2_with fail
      go_loop [8, 9] (fun x a => ∃ j : Nat, j ≤ 32 ∧ a = .int .i64 ((j : Int) - 1) ∧ x = .int .u32 ((Crc.val (l2.drop j) : Nat) : Int)) (fun _ a => (intOf a + 1).toNat)
      case atStart => exact ⟨32, by omega, rfl, by rw [List.drop_eq_nil_of_le (by rw [HL2.out, HLEN.out]; omega)]; rfl⟩
      case round =>
        obtain ⟨j, hj, rfl, rfl⟩ := hrel
        cases j with
        | zero =>
          rw [show (((0 : Nat) : Int) - 1) = -1 from rfl]
          go_wp2_with fail
          go_ret
          refine ⟨Crc.retI ?_, hbelA⟩
          rw [HV2.out, HVV.out]
        | succ j =>
          have hjl : j < l2.length := by rw [HL2.out, HLEN.out]; omega
          have hvl := Crc.val_lt (l2.drop (j + 1))
          have hvd := Crc.val_drop l2 j hjl
          have hbd : Crc.val (l2.drop (j + 1)) < 2147483648 := by
            refine Nat.lt_of_lt_of_le hvl ?_
            rw [List.length_drop, HL2.out, HLEN.out]
            exact Nat.pow_le_pow_right (by omega) (show 32 - (j + 1) ≤ 31 by omega)
          have hidx : (((j + 1 : Nat) : Int) - 1) = (j : Int) := by omega
          rw [hidx]
          obtain ⟨hc, _⟩ := HB2.out j hjl
          generalize Crc.val (l2.drop (j + 1)) = v at hvd hbd
          have HVD := Lib.hid hvd
          clear hvl hvd hidx
          cases hbv : l2[j] with
          | false =>
            rw [hbv] at hc HVD
            clear hbv
            go_wp2_with fail
            go_round
            case rel => exact ⟨j, by omega, by go_num, by rw [HVD.out, Bool.toNat_false, Nat.zero_add]; simp⟩
            case measure => simp [intOf]
          | true =>
            rw [hbv] at hc HVD
            clear hbv
            go_wp2_with fail
            go_round
            case rel => exact ⟨j, by omega, by go_num, by rw [HVD.out, Bool.toNat_true]; simp; omega⟩
            case measure => simp [intOf]
end Go.Proofs.YtdmelkphankfiaaGreat
end

section
namespace Go.Proofs.YtdmelkphankfiaaGreat
open Go.RowKit

theorem Crc.infoBool : (Tryz.prog.info? 4).map (fun i => (i.zero, i.size, i.bytes)) = some (some (.bool false), 1, 1) := by kernel_rfl

namespace Crc
theorem take_snoc (s : ByteArray) (i : Nat) (h : i < s.size) : s.data.toList.take (i + 1) = s.data.toList.take i ++ [s[i]] := by
  rw [List.take_succ_eq_append_getElem (by simpa using h)]; rfl
theorem text_step (s : ByteArray) (i : Nat) (h : i < s.size) : textBits (s.data.toList.take i) ++ bits8 s[i].toNat 8 = textBits (s.data.toList.take (i + 1)) := by
  rw [take_snoc s i h, textBits_snoc]
theorem byte_bit (b k : Nat) (hb : b < 256) : (bits BinOp.and IntKind.u8 ((b : Int) / 2 ^ k) 1 == 1) = bit b k := by
  have e : (b : Int) / 2 ^ k = ((b / 2 ^ k : Nat) : Int) := by simp
  have hl : b / 2 ^ k < 256 := Nat.lt_of_le_of_lt (Nat.div_le_self _ _) hb
  unfold bit
  rw [e]
  generalize b / 2 ^ k = q at hl
  have := bits_mask .u8 8 (by decide) wraps_u8 1 (by omega) (q : Int) (by omega) (by omega)
  have e2 : bits BinOp.and IntKind.u8 (q : Int) 1 = ((q % 2 : Nat) : Int) := by simpa using this
  rw [e2]
  rcases Nat.mod_two_eq_zero_or_one q with h | h <;> rw [h] <;> rfl
theorem bit_and (b i : Nat) (h : b < 4294967296) : bits BinOp.and IntKind.u32 ((b : Int) / 2 ^ i) 1 = ((b / 2 ^ i % 2 : Nat) : Int) := by
  have e : (b : Int) / 2 ^ i = ((b / 2 ^ i : Nat) : Int) := by simp
  have hl : b / 2 ^ i < 4294967296 := Nat.lt_of_le_of_lt (Nat.div_le_self _ _) h
  rw [e]
  generalize b / 2 ^ i = q at hl
  have := bits_mask .u32 32 (by decide) wraps_u32 1 (by omega) (q : Int) (by omega) (by omega)
  simpa using this

/-- Bits as values. -/
def vals (l : List Bool) : List Value := l.map .bool
theorem vals_snoc (l : List Bool) (b : Bool) : vals l ++ [.bool b] = vals (l ++ [b]) := by simp [vals]
theorem one_cell (w : World) (t : TypeId) (b : Bool) : ∀ j u, [Value.bool b][j]? = some u → (w.alloc (.cells #[.bool b] t)).cell? ((⟨w.heap.size, 0, none⟩ : Addr).add j) = some u := by
  intro j u h
  match j, h with
  | 0, h =>
    simp at h
    subst h
    rw [show (⟨w.heap.size, 0, none⟩ : Addr).add 0 = ⟨w.heap.size, 0, none⟩ by simp [Addr.add], World.cell?_alloc_at _ _ _ _ rfl]
    rfl
theorem one_one (b : Bool) : ∀ u ∈ [Value.bool b], u.oneCell' = true := by
  intro u hu
  simp at hu
  subst hu
  rfl
theorem text_bits (l : List UInt8) (b j : Nat) : textBits l ++ bits8 b j ++ [bit b j] = textBits l ++ bits8 b (j + 1) := by
  rw [List.append_assoc, ← bits8_succ]
end Crc

theorem Crc.Bits.ofOwn {B n cap base : Nat} {t : TypeId} {l : List Bool} {w : World} (h : w.ownsRow base t 1 (.slice (some ⟨B, 0, none⟩) n cap) n (Crc.vals l)) (hn : l.length = n) : Crc.Bits B 0 l w := by
  intro i hi
  rw [Nat.zero_add]
  refine ⟨?_, h.frozenAt i⟩
  rw [h.cellAt i (by omega)]
  simp [Crc.vals, hi]

set_option maxRecDepth 20000 in
set_option maxHeartbeats 2000000 in
theorem bits_any (s : ByteArray) (w : World) (hs : s.size ≤ 1048576) :
    Calls Tryz.prog 95 #[.string s] w
      fun e w' => e = .returned (.slice (some ⟨w.heap.size, 0, none⟩) (8 * s.size + 32) (8 * s.size + 32)) ∧ Crc.Bits w.heap.size 0 (Crc.whole s.data.toList) w' ∧ w.heap.size < w'.heap.size ∧ Below w.heap.size w w' := by
  obtain ⟨i0, hi, hz0, hz1, hz2⟩ := info_parts Crc.infoBool
  obtain ⟨N, hN, hNN⟩ : ∃ N : Nat, (8 : Int) * (s.size : Int) + 32 = (N : Int) ∧ N = 8 * s.size + 32 := ⟨8 * s.size + 32, by omega, rfl⟩
  have hNl : N ≤ 9000000 := by omega
  have HNN := Lib.hid hNN
  rw [← hNN]
  clear hNN
  go_enter Tryz.func95, Tryz.ntmps95
  go_wp2_with (at_make; refine wpList_make_own _ rfl _ _ 155 rfl w.heap.size 4 i0 (.bool false) 1 Tryz.underlying155 hi hz0 hz1 _ _ _ N rfl rfl rfl ?b2 ?b3 (Nat.le_refl _) ?_)
  case b2 => rw [hz2]; omega
  case b3 => unfold maxLen; omega
  intro w0 hown0 hgrow0
  clear hN
  have hb0 : Below w.heap.size w w0 := (Below.refl _ _).grown hgrow0 (Nat.le_refl _) (fun k h => by cases h)
  go_wp2
  go_loopw [3, 4] (fun out a wr => ∃ i : Nat, i ≤ s.size ∧ a = .int .i64 i ∧ out = .slice (some ⟨w.heap.size, 0, none⟩) (8 * i) N ∧
      wr.ownsRow w.heap.size 4 1 (.slice (some ⟨w.heap.size, 0, none⟩) (8 * i) N) (8 * i) (Crc.vals (Crc.textBits (s.data.toList.take i))) ∧ Below w.heap.size w wr ∧ w.heap.size < wr.heap.size)
    (fun _ a _ => s.size - (intOf a).toNat)
  case atStart => exact ⟨0, Nat.zero_le _, rfl, rfl, hown0, hb0, (hown0.lt _ rfl).2⟩
  case round =>
    clear hown0 hgrow0 hb0
    obtain ⟨i, hil, rfl, rfl, hown, hbel, hlt0⟩ := hrel
    by_cases hlt : i < s.size
    · go_wp2
      obtain ⟨wo, rfl⟩ : ∃ wo : World, wo = wr := ⟨_, rfl⟩
      have hbyte := s[i].toNat_lt
      have HT := Lib.hid (Crc.text_step s i hlt)
      go_loopw [3, 5] (fun out a wr => ∃ j : Nat, j ≤ 8 ∧ a = .int .i64 j ∧ out = .slice (some ⟨w.heap.size, 0, none⟩) (8 * i + j) N ∧
          wr.ownsRow w.heap.size 4 1 (.slice (some ⟨w.heap.size, 0, none⟩) (8 * i + j) N) (8 * i + j) (Crc.vals (Crc.textBits (s.data.toList.take i) ++ Crc.bits8 s[i].toNat j)) ∧ Below w.heap.size w wr ∧ w.heap.size < wr.heap.size)
        (fun _ a _ => 8 - (intOf a).toNat)
      case atStart => exact ⟨0, by omega, rfl, rfl, by rw [show Crc.bits8 s[i].toNat 0 = [] from rfl, List.append_nil, Nat.add_zero]; exact hown, hbel, hlt0⟩
      case round =>
        clear hown hbel hlt0
        obtain ⟨j, hjl, rfl, rfl, hown, hbel, hlt0⟩ := hrel
        by_cases hj8 : j < 8
        · have hroom : 8 * i + j + 1 ≤ N := by have := HNN.out; omega
          have hbit := Crc.byte_bit s[i].toNat j hbyte
          go_wp2_with (at_builtin; refine wpList_append_fits _ rfl (.tmp 22) (.tmp 31) 155 rfl w.heap.size 4 i0 1 Tryz.underlying155 hi hz1 w.heap.size (8 * i + j) N _ rfl (hown.alloc _) ⟨wr.heap.size, 0, none⟩ 1 1 [.bool (Crc.bit s[i].toNat j)] rfl rfl (Crc.one_cell _ _ _) (Crc.one_one _) hroom ?_; intro w1 hown1 hgrow1)
          go_roundw
          case rel =>
            refine ⟨j + 1, by omega, by go_num, rfl, ?_, (hbel.alloc (by omega) _).grown hgrow1 (by simp; omega) (fun k hk => by cases hk; exact Nat.le_refl _), (hown1.lt _ rfl).2⟩
            rw [Crc.vals_snoc, Crc.text_bits] at hown1
            exact hown1
          case measure => simp [intOf]; omega
        · have e8 : j = 8 := by omega
          have HE := Lib.hid e8
          clear e8
          have hj8' : ¬ (j : Int) < 8 := by omega
          go_wp2
          go_roundw
          case rel =>
            refine ⟨i + 1, by omega, by go_num, ?_, ?_, hbel, hlt0⟩
            · rw [HE.out]; rfl
            · have := hown
              rw [HE.out, HT.out] at this
              exact this
          case measure => simp [intOf]; omega
    · have hi8 : Crc.textBits (s.data.toList.take i) = Crc.textBits s.data.toList := by
        rw [List.take_of_length_le (by simp; omega)]
      have e8 : 8 * i = 8 * s.size := by omega
      rw [hi8] at hown
      have HE := Lib.hid e8
      clear hi8 e8
      go_wp2
      obtain ⟨wo, rfl⟩ : ∃ wo : World, wo = wr := ⟨_, rfl⟩
      go_loopw [3, 6] (fun out a wr => ∃ j : Nat, j ≤ 32 ∧ a = .int .i64 j ∧ out = .slice (some ⟨w.heap.size, 0, none⟩) (8 * i + j) N ∧
          wr.ownsRow w.heap.size 4 1 (.slice (some ⟨w.heap.size, 0, none⟩) (8 * i + j) N) (8 * i + j) (Crc.vals (Crc.textBits s.data.toList ++ List.replicate j false)) ∧ Below w.heap.size w wr ∧ w.heap.size < wr.heap.size)
        (fun _ a _ => 32 - (intOf a).toNat)
      case atStart => exact ⟨0, by omega, rfl, rfl, by rw [show List.replicate 0 false = [] from rfl, List.append_nil, Nat.add_zero]; exact hown, hbel, hlt0⟩
      case round =>
        clear hown hbel hlt0
        obtain ⟨j, hjl, rfl, rfl, hown, hbel, hlt0⟩ := hrel
        by_cases hj32 : j < 32
        · have hroom : 8 * i + j + 1 ≤ N := by have := HNN.out; have := HE.out; omega
          go_wp2_with (at_builtin; refine wpList_append_fits _ rfl (.tmp 37) (.tmp 38) 155 rfl w.heap.size 4 i0 1 Tryz.underlying155 hi hz1 w.heap.size (8 * i + j) N _ rfl (hown.alloc _) ⟨wr.heap.size, 0, none⟩ 1 1 [.bool false] rfl rfl (Crc.one_cell _ _ _) (Crc.one_one _) hroom ?_; intro w1 hown1 hgrow1)
          go_roundw
          case rel =>
            refine ⟨j + 1, by omega, by go_num, rfl, ?_, (hbel.alloc (by omega) _).grown hgrow1 (by simp; omega) (fun k hk => by cases hk; exact Nat.le_refl _), (hown1.lt _ rfl).2⟩
            rw [Crc.vals_snoc, List.append_assoc, show List.replicate j false ++ [false] = List.replicate (j + 1) false from List.replicate_succ'.symm] at hown1
            exact hown1
          case measure => simp [intOf]; omega
        · have e32 : j = 32 := by omega
          have HJ := Lib.hid e32
          clear e32
          have hj32' : ¬ (j : Int) < 32 := by omega
          go_wp2
          go_ret
          have eN : 8 * i + j = N := by have := HNN.out; have := HE.out; have := HJ.out; omega
          rw [HJ.out] at hown
          have eN' : 8 * i + 32 = N := by have := HNN.out; have := HE.out; omega
          refine ⟨by rw [← eN]; rfl, ?_, hlt0, hbel⟩
          exact Crc.Bits.ofOwn hown (by rw [Crc.whole_len]; simp; have := HE.out; omega)

set_option maxRecDepth 20000 in
set_option maxHeartbeats 1000000 in
theorem rof_any (s : ByteArray) (w : World) (hs : s.size ≤ 1048576) :
    Calls Tryz.prog 82 #[.string s] w fun e w' => e = .returned (.int .u32 (Crc.on 0 s.data.toList : Nat)) ∧ Below w.heap.size w w' := by
  have HL := Lib.hid (Crc.whole_len s.data.toList)
  have hv : Hid (Crc.on 0 s.data.toList = Crc.Rn (8 * s.size) (Crc.val (Crc.whole s.data.toList) ^^^ Crc.M) ^^^ Crc.M) := by
    show _ = _
    have := Crc.on_num 0 s.data.toList
    rw [Nat.zero_xor] at this
    rw [this, Crc.val_whole]
    simp
  go_enter Tryz.func82, Tryz.ntmps82
  go_wp2_with fail
  refine (bits_any s _ hs).mono ?_
  rintro e w1 ⟨rfl, hbit1, hw1, hb1⟩
  have HB1 := Lib.hid hbit1
  clear hbit1
  go_wp2_with fail
  refine (turn_any w.heap.size 0 _ _ w.heap.size _ _ (Nat.le_refl _) (by rw [HL.out]; simp) (by omega) HB1.out).mono ?_
  rintro e w2 ⟨rfl, ⟨l2, hl2, hv2, hbit2⟩, hb2⟩
  have HL2 := Lib.hid hl2
  have HV2 := Lib.hid hv2
  have HB2 := Lib.hid hbit2
  have hw2 := hb2.size
  clear hl2 hv2 hbit2
  go_wp2_with fail
  refine (left_any w.heap.size _ _ w.heap.size l2 _ (Nat.le_refl _) (by omega) (by omega) HL2.out (by omega) (by omega) (by omega) HB2.out).mono ?_
  rintro e w3 ⟨rfl, hb3⟩
  go_wp2_with fail
  go_ret
  refine ⟨Crc.retI ?_, (hb1.trans hb2).trans hb3⟩
  rw [hv.out, HV2.out]

set_option maxRecDepth 20000 in
set_option maxHeartbeats 1000000 in
theorem rbytes_any (a : Nat) (w : World) (ha : a < 4294967296) :
    Calls Tryz.prog 81 #[.int .u32 a] w fun e w' => e = .returned (.string (Crc.four a)) ∧ Below w.heap.size w w' := by
  have hc := four_conv ((a : Int) % 256) ((a : Int) / 256 % 256) ((a : Int) / 65536 % 256) ((a : Int) / 16777216) w
  go_enter Tryz.func81, Tryz.ntmps81
  go_wp2
  rw [Crc.four_nums a ha]
  go_ret
  exact ⟨rfl, (Below.refl _ _).alloc (Nat.le_refl _) _⟩

theorem Crc.infoByte : (Tryz.prog.info? 5).map (fun i => (i.zero, i.size, i.bytes)) = some (some (.int .u8 0), 1, 1) := by kernel_rfl

namespace Crc
def zeroText (n : Nat) : ByteArray := ⟨(List.replicate n (0 : UInt8)).toArray⟩
theorem zeroText_size (n : Nat) : (zeroText n).size = n := by
  show (List.replicate n (0 : UInt8)).toArray.size = n
  simp
theorem zeroText_list (n : Nat) : (zeroText n).data.toList = List.replicate n 0 := by
  show (List.replicate n (0 : UInt8)).toArray.toList = _
  simp
theorem join_zero (a b n : Nat) : on a (List.replicate n 0) ^^^ on 0 (List.replicate n 0) ^^^ b = join a b n := by
  have h := on_xor 0 a (List.replicate n 0)
  rw [Nat.zero_xor, List.length_replicate] at h
  rw [h, Nat.xor_comm (on 0 _) (Rn _ _), Nat.xor_assoc (Rn _ _), Nat.xor_self, Nat.xor_zero]
  rfl
end Crc

theorem Crc.zero_conv {B n cap base : Nat} {w : World} (h : w.ownsRow base 5 1 (.slice (some ⟨B, 0, none⟩) n cap) n (madeCells #[Value.int .u8 0] n).toList) :
    (convert 57 9 (.slice (some ⟨B, 0, none⟩) n cap)).run Tryz.prog w = .ok (.string (Crc.zeroText n)) w := by
  have hl : (List.replicate n (0 : UInt8)).length = n := List.length_replicate
  have := run_convert_bytes_back (P := Tryz.prog) w 57 9 5 ⟨B, 0, none⟩ cap (List.replicate n 0) Tryz.underlying57 Tryz.underlying5 Tryz.underlying9 (fun j hj => by
    have e : (⟨B, 0, none⟩ : Addr).add j = ⟨B, j, none⟩ := by unfold Addr.add; split <;> simp_all
    rw [e, h.cellAt j (by omega), toList_madeCells_one, List.getElem?_replicate, if_pos (by omega)]
    simp)
  rw [hl] at this
  exact this

end Go.Proofs.YtdmelkphankfiaaGreat
end
