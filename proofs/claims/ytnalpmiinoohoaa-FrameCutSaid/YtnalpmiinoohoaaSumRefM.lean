/-
  The document's way of dividing, as plain facts: bits as numbers (val), texts as numbers (num).
-/
import Derived.Test.YtnalpmiinoohoaaSumMath
namespace Go.Proofs.Ytnalpmiinoohoaa.Crc

/-- Bits as a number, the lowest first. -/
def val : List Bool → Nat
  | [] => 0
  | b :: l => b.toNat + 2 * val l

theorem val_lt (l : List Bool) : val l < 2 ^ l.length := by
  induction l with
  | nil => exact Nat.one_pos
  | cons b l ih =>
    show b.toNat + 2 * val l < 2 ^ (l.length + 1)
    have := Bool.toNat_le b
    rw [Nat.pow_succ]
    omega

theorem eq_of_half {x y : Nat} (h1 : x / 2 = y / 2) (h2 : x % 2 = y % 2) : x = y := by omega

theorem val_set (l : List Bool) (p : Nat) (h : p < l.length) : val (l.set p (!l[p])) = val l ^^^ 2 ^ p := by
  induction l generalizing p with
  | nil => simp at h
  | cons b l ih =>
    cases p with
    | zero =>
      show (!b).toNat + 2 * val l = (b.toNat + 2 * val l) ^^^ 1
      have hb := Bool.toNat_le b
      apply eq_of_half
      · rw [xor_div_two]
        show _ = _ ^^^ 0
        rw [Nat.xor_zero]
        cases b <;> simp [Bool.toNat] <;> omega
      · rw [xor_mod_two]
        cases b <;> simp [Bool.toNat] <;> omega
    | succ p =>
      have h' : p < l.length := by simpa using h
      show b.toNat + 2 * val (l.set p (!l[p])) = (b.toNat + 2 * val l) ^^^ 2 ^ (p + 1)
      rw [ih p h']
      have hb : b.toNat = 0 ∨ b.toNat = 1 := by cases b <;> simp
      have hp : 2 ^ (p + 1) = 2 * 2 ^ p := by rw [Nat.pow_succ]; omega
      apply eq_of_half
      · rw [xor_div_two, hp, Nat.mul_div_cancel_left _ (by omega)]
        have e1 : (b.toNat + 2 * (val l ^^^ 2 ^ p)) / 2 = val l ^^^ 2 ^ p := by omega
        have e2 : (b.toNat + 2 * val l) / 2 = val l := by omega
        rw [e1, e2]
      · rw [xor_mod_two, hp]
        omega

theorem val_append (l t : List Bool) : val (l ++ t) = val l + 2 ^ l.length * val t := by
  induction l with
  | nil => show val t = 0 + 2 ^ 0 * val t; simp
  | cons b l ih =>
    show b.toNat + 2 * val (l ++ t) = b.toNat + 2 * val l + 2 ^ (l.length + 1) * val t
    rw [ih, Nat.pow_succ, Nat.mul_add, ← Nat.mul_assoc, Nat.mul_comm 2 (2 ^ l.length)]
    omega
theorem val_zeros (n : Nat) : val (List.replicate n false) = 0 := by
  induction n with
  | zero => rfl
  | succ n ih => show false.toNat + 2 * val (List.replicate n false) = 0; rw [ih]; rfl

theorem val_drop (l : List Bool) (i : Nat) (h : i < l.length) : val (l.drop i) = l[i].toNat + 2 * val (l.drop (i + 1)) := by
  rw [List.drop_eq_getElem_cons h]; rfl

/-- One step of the division, where nothing is to be turned. -/
theorem step_none (l : List Bool) (i : Nat) (h : i < l.length) (hb : l[i] = false) : val (l.drop (i + 1)) = R (val (l.drop i)) := by
  rw [val_drop l i h, hb]
  show _ = R (0 + 2 * _)
  rw [Nat.zero_add, R_two]
theorem step_some (l : List Bool) (i : Nat) (h : i < l.length) (hb : l[i] = true) : val (l.drop (i + 1)) ^^^ D = R (val (l.drop i)) := by
  rw [val_drop l i h, hb]
  show _ = R (1 + 2 * _)
  unfold R
  rw [if_pos (by omega)]
  congr 1
  omega

theorem drop_set (l : List Bool) (i p : Nat) (v : Bool) (h : i ≤ p) : (l.set p v).drop i = (l.drop i).set (p - i) v := by
  rw [List.drop_set, if_neg (by omega)]

theorem val_drop_set (l : List Bool) (i p : Nat) (hp : p < l.length) (h : i ≤ p) : val ((l.set p (!l[p])).drop i) = val (l.drop i) ^^^ 2 ^ (p - i) := by
  rw [drop_set l i p _ h]
  have hl : p - i < (l.drop i).length := by rw [List.length_drop]; omega
  rw [← val_set (l.drop i) (p - i) hl]
  congr 2
  rw [List.getElem_drop]
  congr 2
  omega

/-- The divisor's powers but 32, in the document's row. -/
def powers : List Nat := [28, 27, 26, 25, 23, 22, 20, 19, 18, 14, 13, 11, 10, 9, 8, 6, 0]
/-- What the first k powers turn. -/
def Dk (k : Nat) : Nat := ((powers.take k).map fun p => 2 ^ (31 - p)).foldl (· ^^^ ·) 0
theorem Dk_all : Dk 17 = D := by decide +kernel
theorem Dk_succ : ∀ k : Fin 17, Dk (k.val + 1) = Dk k.val ^^^ 2 ^ (31 - powers.getD k.val 0) := by decide +kernel
theorem powers_le : ∀ k : Fin 17, powers.getD k.val 0 ≤ 28 := by decide +kernel

/-- A text as a number: its bits, the first one the lowest. -/
def num : List UInt8 → Nat
  | [] => 0
  | b :: l => b.toNat + 256 * num l

theorem split8 (b x : Nat) (h : b < 256) : b + 256 * x = b ^^^ 256 * x := by
  have := split_xor 8 (b + 256 * x)
  rw [show (2 : Nat) ^ 8 = 256 from rfl, show (b + 256 * x) / 256 = x by omega, show (b + 256 * x) % 256 = b by omega, Nat.xor_comm] at this
  exact this

theorem run_num (s : List UInt8) : run 0 s = Rn (8 * s.length) (num s) := by
  induction s with
  | nil => rfl
  | cons b s ih =>
    show run (Rn 8 (0 ^^^ b.toNat)) s = Rn (8 * (s.length + 1)) (b.toNat + 256 * num s)
    have h := run_xor 0 (Rn 8 b.toNat) s
    rw [Nat.zero_xor] at h
    rw [Nat.zero_xor, h, ih, split8 _ _ b.toNat_lt, Rn_xor, Nat.mul_add, Nat.mul_one, Rn_add, Rn_add, show 256 * num s = 2 ^ 8 * num s from rfl, Rn_pow, Nat.xor_comm]

theorem on_num (a : Nat) (s : List UInt8) : on a s = Rn (8 * s.length) (num s ^^^ (a ^^^ M)) ^^^ M := by
  unfold on
  have h := run_xor 0 (a ^^^ M) s
  rw [Nat.zero_xor] at h
  rw [h, run_num, ← Rn_xor]

/-- The bits of a byte, the lowest first. -/
def bit (b k : Nat) : Bool := b / 2 ^ k % 2 == 1
def bits8 (b j : Nat) : List Bool := (List.range j).map (bit b)
theorem bits8_succ (b j : Nat) : bits8 b (j + 1) = bits8 b j ++ [bit b j] := by
  unfold bits8
  rw [List.range_succ, List.map_append]; rfl
theorem bits8_len (b j : Nat) : (bits8 b j).length = j := by simp [bits8]
theorem val_bits8 (b j : Nat) : val (bits8 b j) = b % 2 ^ j := by
  induction j with
  | zero => simp [bits8, val, Nat.mod_one]
  | succ j ih =>
    rw [bits8_succ, val_append, ih, bits8_len, Nat.pow_succ, Nat.mod_mul]
    congr 2
    show (bit b j).toNat + 2 * 0 = _
    unfold bit
    rcases Nat.mod_two_eq_zero_or_one (b / 2 ^ j) with h | h <;> rw [h] <;> rfl

def textBits (s : List UInt8) : List Bool := s.flatMap fun b => bits8 b.toNat 8
theorem textBits_snoc (s : List UInt8) (b : UInt8) : textBits (s ++ [b]) = textBits s ++ bits8 b.toNat 8 := by
  unfold textBits
  rw [List.flatMap_append]
  simp
theorem textBits_len (s : List UInt8) : (textBits s).length = 8 * s.length := by
  induction s with
  | nil => rfl
  | cons b s ih =>
    show (bits8 b.toNat 8 ++ textBits s).length = _
    rw [List.length_append, bits8_len, ih, List.length_cons]
    omega
theorem val_text (s : List UInt8) : val (textBits s) = num s := by
  induction s with
  | nil => rfl
  | cons b s ih =>
    show val (bits8 b.toNat 8 ++ textBits s) = b.toNat + 256 * num s
    rw [val_append, val_bits8, bits8_len, ih]
    have := b.toNat_lt
    rw [Nat.mod_eq_of_lt this]

/-- What is left of a text's bits, turned by x. -/
def whole (s : List UInt8) : List Bool := textBits s ++ List.replicate 32 false
theorem whole_len (s : List UInt8) : (whole s).length = 8 * s.length + 32 := by
  unfold whole
  rw [List.length_append, textBits_len, List.length_replicate]
theorem val_whole (s : List UInt8) : val (whole s) = num s := by
  unfold whole
  rw [val_append, val_text, val_zeros, Nat.mul_zero, Nat.add_zero]

theorem not_bit (a i : Nat) (hi : i < 32) : (a ^^^ M) / 2 ^ i % 2 = 1 - a / 2 ^ i % 2 := by
  have h := Nat.testBit_xor a M i
  have hM : M.testBit i = true := by
    show (2 ^ 32 - 1).testBit i = true
    rw [Nat.testBit_two_pow_sub_one]; simpa using hi
  rw [hM, Nat.testBit_eq_decide_div_mod_eq, Nat.testBit_eq_decide_div_mod_eq] at h
  rcases Nat.mod_two_eq_zero_or_one (a / 2 ^ i) with e | e <;> rw [e] at h ⊢ <;>
    rcases Nat.mod_two_eq_zero_or_one ((a ^^^ M) / 2 ^ i) with e2 | e2 <;> rw [e2] at h ⊢ <;> simp at h
theorem M_bit (i : Nat) (hi : i < 32) : M / 2 ^ i % 2 = 1 := by
  have := not_bit 0 i hi
  rw [Nat.zero_xor, Nat.zero_div] at this
  exact this
theorem M_mod : M % 2 ^ 32 = M := by decide
end Go.Proofs.Ytnalpmiinoohoaa.Crc
