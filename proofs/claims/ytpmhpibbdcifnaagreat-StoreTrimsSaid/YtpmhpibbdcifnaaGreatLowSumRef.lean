/-
  The document's way of dividing, as plain facts: bits as numbers (val), texts as numbers (num).
  Contracts of the document's turn, powers, left.
  Contracts of the document's bits, Of, On, Join, Bytes.
-/
import Derived.Test.YtpmhpibbdcifnaaGreatSumMath
import Derived.Test.YtpmhpibbdcifnaaGreatLowSum
section
namespace Go.Proofs.YtpmhpibbdcifnaaGreat.Crc

/-- Bits as a number, the lowest first. -/
def val : List Bool → Nat
  | [] => 0
  | b :: l => b.toNat + 2 * val l

theorem val_lt (l : List Bool) : val l < 2 ^ l.length := by
  induction l with
  | nil => exact Nat.one_pos
  | cons b l ih =>
    show b.toNat + 2 * val l < 2 ^ (l.length + 1)
    have := Bool.toNat_le b
    rw [Nat.pow_succ]
    omega

theorem eq_of_half {x y : Nat} (h1 : x / 2 = y / 2) (h2 : x % 2 = y % 2) : x = y := by omega

theorem val_set (l : List Bool) (p : Nat) (h : p < l.length) : val (l.set p (!l[p])) = val l ^^^ 2 ^ p := by
  induction l generalizing p with
  | nil => simp at h
  | cons b l ih =>
    cases p with
    | zero =>
      show (!b).toNat + 2 * val l = (b.toNat + 2 * val l) ^^^ 1
      have hb := Bool.toNat_le b
      apply eq_of_half
      · rw [xor_div_two]
        show _ = _ ^^^ 0
        rw [Nat.xor_zero]
        cases b <;> simp [Bool.toNat] <;> omega
      · rw [xor_mod_two]
        cases b <;> simp [Bool.toNat] <;> omega
    | succ p =>
      have h' : p < l.length := by simpa using h
      show b.toNat + 2 * val (l.set p (!l[p])) = (b.toNat + 2 * val l) ^^^ 2 ^ (p + 1)
      rw [ih p h']
      have hb : b.toNat = 0 ∨ b.toNat = 1 := by cases b <;> simp
      have hp : 2 ^ (p + 1) = 2 * 2 ^ p := by rw [Nat.pow_succ]; omega
      apply eq_of_half
      · rw [xor_div_two, hp, Nat.mul_div_cancel_left _ (by omega)]
        have e1 : (b.toNat + 2 * (val l ^^^ 2 ^ p)) / 2 = val l ^^^ 2 ^ p := by omega
        have e2 : (b.toNat + 2 * val l) / 2 = val l := by omega
        rw [e1, e2]
      · rw [xor_mod_two, hp]
        omega

theorem val_append (l t : List Bool) : val (l ++ t) = val l + 2 ^ l.length * val t := by
  induction l with
  | nil => show val t = 0 + 2 ^ 0 * val t; simp
  | cons b l ih =>
    show b.toNat + 2 * val (l ++ t) = b.toNat + 2 * val l + 2 ^ (l.length + 1) * val t
    rw [ih, Nat.pow_succ, Nat.mul_add, ← Nat.mul_assoc, Nat.mul_comm 2 (2 ^ l.length)]
    omega
theorem val_zeros (n : Nat) : val (List.replicate n false) = 0 := by
  induction n with
  | zero => rfl
  | succ n ih => show false.toNat + 2 * val (List.replicate n false) = 0; rw [ih]; rfl

theorem val_drop (l : List Bool) (i : Nat) (h : i < l.length) : val (l.drop i) = l[i].toNat + 2 * val (l.drop (i + 1)) := by
  rw [List.drop_eq_getElem_cons h]; rfl

/-- One step of the division, where nothing is to be turned. -/
theorem step_none (l : List Bool) (i : Nat) (h : i < l.length) (hb : l[i] = false) : val (l.drop (i + 1)) = R (val (l.drop i)) := by
  rw [val_drop l i h, hb]
  show _ = R (0 + 2 * _)
  rw [Nat.zero_add, R_two]
theorem step_some (l : List Bool) (i : Nat) (h : i < l.length) (hb : l[i] = true) : val (l.drop (i + 1)) ^^^ D = R (val (l.drop i)) := by
  rw [val_drop l i h, hb]
  show _ = R (1 + 2 * _)
  unfold R
  rw [if_pos (by omega)]
  congr 1
  omega

theorem drop_set (l : List Bool) (i p : Nat) (v : Bool) (h : i ≤ p) : (l.set p v).drop i = (l.drop i).set (p - i) v := by
  rw [List.drop_set, if_neg (by omega)]

theorem val_drop_set (l : List Bool) (i p : Nat) (hp : p < l.length) (h : i ≤ p) : val ((l.set p (!l[p])).drop i) = val (l.drop i) ^^^ 2 ^ (p - i) := by
  rw [drop_set l i p _ h]
  have hl : p - i < (l.drop i).length := by rw [List.length_drop]; omega
  rw [← val_set (l.drop i) (p - i) hl]
  congr 2
  rw [List.getElem_drop]
  congr 2
  omega

/-- The divisor's powers but 32, in the document's row. -/
def powers : List Nat := [28, 27, 26, 25, 23, 22, 20, 19, 18, 14, 13, 11, 10, 9, 8, 6, 0]
/-- What the first k powers turn. -/
def Dk (k : Nat) : Nat := ((powers.take k).map fun p => 2 ^ (31 - p)).foldl (· ^^^ ·) 0
theorem Dk_all : Dk 17 = D := by decide +kernel
theorem Dk_succ : ∀ k : Fin 17, Dk (k.val + 1) = Dk k.val ^^^ 2 ^ (31 - powers.getD k.val 0) := by decide +kernel
theorem powers_le : ∀ k : Fin 17, powers.getD k.val 0 ≤ 28 := by decide +kernel

/-- A text as a number: its bits, the first one the lowest. -/
def num : List UInt8 → Nat
  | [] => 0
  | b :: l => b.toNat + 256 * num l

theorem split8 (b x : Nat) (h : b < 256) : b + 256 * x = b ^^^ 256 * x := by
  have := split_xor 8 (b + 256 * x)
  rw [show (2 : Nat) ^ 8 = 256 from rfl, show (b + 256 * x) / 256 = x by omega, show (b + 256 * x) % 256 = b by omega, Nat.xor_comm] at this
  exact this

theorem run_num (s : List UInt8) : run 0 s = Rn (8 * s.length) (num s) := by
  induction s with
  | nil => rfl
  | cons b s ih =>
    show run (Rn 8 (0 ^^^ b.toNat)) s = Rn (8 * (s.length + 1)) (b.toNat + 256 * num s)
    have h := run_xor 0 (Rn 8 b.toNat) s
    rw [Nat.zero_xor] at h
    rw [Nat.zero_xor, h, ih, split8 _ _ b.toNat_lt, Rn_xor, Nat.mul_add, Nat.mul_one, Rn_add, Rn_add, show 256 * num s = 2 ^ 8 * num s from rfl, Rn_pow, Nat.xor_comm]

theorem on_num (a : Nat) (s : List UInt8) : on a s = Rn (8 * s.length) (num s ^^^ (a ^^^ M)) ^^^ M := by
  unfold on
  have h := run_xor 0 (a ^^^ M) s
  rw [Nat.zero_xor] at h
  rw [h, run_num, ← Rn_xor]

/-- The bits of a byte, the lowest first. -/
def bit (b k : Nat) : Bool := b / 2 ^ k % 2 == 1
def bits8 (b j : Nat) : List Bool := (List.range j).map (bit b)
theorem bits8_succ (b j : Nat) : bits8 b (j + 1) = bits8 b j ++ [bit b j] := by
  unfold bits8
  rw [List.range_succ, List.map_append]; rfl
theorem bits8_len (b j : Nat) : (bits8 b j).length = j := by simp [bits8]
theorem val_bits8 (b j : Nat) : val (bits8 b j) = b % 2 ^ j := by
  induction j with
  | zero => simp [bits8, val, Nat.mod_one]
  | succ j ih =>
    rw [bits8_succ, val_append, ih, bits8_len, Nat.pow_succ, Nat.mod_mul]
    congr 2
    show (bit b j).toNat + 2 * 0 = _
    unfold bit
    rcases Nat.mod_two_eq_zero_or_one (b / 2 ^ j) with h | h <;> rw [h] <;> rfl

def textBits (s : List UInt8) : List Bool := s.flatMap fun b => bits8 b.toNat 8
theorem textBits_snoc (s : List UInt8) (b : UInt8) : textBits (s ++ [b]) = textBits s ++ bits8 b.toNat 8 := by
  unfold textBits
  rw [List.flatMap_append]
  simp
theorem textBits_len (s : List UInt8) : (textBits s).length = 8 * s.length := by
  induction s with
  | nil => rfl
  | cons b s ih =>
    show (bits8 b.toNat 8 ++ textBits s).length = _
    rw [List.length_append, bits8_len, ih, List.length_cons]
    omega
theorem val_text (s : List UInt8) : val (textBits s) = num s := by
  induction s with
  | nil => rfl
  | cons b s ih =>
    show val (bits8 b.toNat 8 ++ textBits s) = b.toNat + 256 * num s
    rw [val_append, val_bits8, bits8_len, ih]
    have := b.toNat_lt
    rw [Nat.mod_eq_of_lt this]

/-- What is left of a text's bits, turned by x. -/
def whole (s : List UInt8) : List Bool := textBits s ++ List.replicate 32 false
theorem whole_len (s : List UInt8) : (whole s).length = 8 * s.length + 32 := by
  unfold whole
  rw [List.length_append, textBits_len, List.length_replicate]
theorem val_whole (s : List UInt8) : val (whole s) = num s := by
  unfold whole
  rw [val_append, val_text, val_zeros, Nat.mul_zero, Nat.add_zero]

theorem not_bit (a i : Nat) (hi : i < 32) : (a ^^^ M) / 2 ^ i % 2 = 1 - a / 2 ^ i % 2 := by
  have h := Nat.testBit_xor a M i
  have hM : M.testBit i = true := by
    show (2 ^ 32 - 1).testBit i = true
    rw [Nat.testBit_two_pow_sub_one]; simpa using hi
  rw [hM, Nat.testBit_eq_decide_div_mod_eq, Nat.testBit_eq_decide_div_mod_eq] at h
  rcases Nat.mod_two_eq_zero_or_one (a / 2 ^ i) with e | e <;> rw [e] at h ⊢ <;>
    rcases Nat.mod_two_eq_zero_or_one ((a ^^^ M) / 2 ^ i) with e2 | e2 <;> rw [e2] at h ⊢ <;> simp at h
theorem M_bit (i : Nat) (hi : i < 32) : M / 2 ^ i % 2 = 1 := by
  have := not_bit 0 i hi
  rw [Nat.zero_xor, Nat.zero_div] at this
  exact this
theorem M_mod : M % 2 ^ 32 = M := by decide
end Go.Proofs.YtpmhpibbdcifnaaGreat.Crc
end

section
namespace Go.Proofs.YtpmhpibbdcifnaaGreat
open Go.RowKit

namespace Crc
/-- The bits l from place o of block B on. -/
def Bits (B o : Nat) (l : List Bool) (w : World) : Prop := ∀ i (h : i < l.length), w.cell? ⟨B, o + i, none⟩ = some (.bool l[i]) ∧ w.frozen? ⟨B, o + i, none⟩ = false

theorem Bits.set {B o : Nat} {l : List Bool} {w : World} (h : Bits B o l w) (q : Nat) (hq : q < l.length) (v : Bool) : Bits B o (l.set q v) (w.setCell ⟨B, o + q, none⟩ (.bool v)) := by
  intro i hi
  have hi' : i < l.length := by simpa using hi
  refine ⟨?_, by rw [World.frozen?_setCell]; exact (h i hi').2⟩
  by_cases e : i = q
  · subst e
    rw [World.cell?_setCell_same _ _ _ (h i hi').1, List.getElem_set_self]
  · rw [World.cell?_setCell_other _ _ _ _ (by intro hh; injection hh with _ h2 _; omega), List.getElem_set_ne (fun h => e h.symm)]
    exact (h i hi').1
theorem Bits.drop {B o : Nat} {l : List Bool} {w : World} (h : Bits B o l w) (k : Nat) : Bits B (o + k) (l.drop k) w := by
  intro i hi
  have hi' : k + i < l.length := by rw [List.length_drop] at hi; omega
  have := h (k + i) hi'
  rw [← Nat.add_assoc] at this
  rw [List.getElem_drop]
  exact this
end Crc

/-- The row of powers, in a block. -/
def Crc.Pows (B : Nat) (w : World) : Prop := ∀ j, j < 17 → w.cell? ⟨B, j, none⟩ = some (.int .i64 ((Crc.powers.getD j 0 : Nat) : Int))

theorem Crc.Bits.below {B o base : Nat} {l : List Bool} {w w' : World} (h : Crc.Bits B o l w) (hb : Below base w w') (hB : B < base) : Crc.Bits B o l w' := by
  intro i hi
  rw [hb.cell (p := ⟨B, o + i, none⟩) hB, hb.frozen (p := ⟨B, o + i, none⟩) hB]
  exact h i hi

end Go.Proofs.YtpmhpibbdcifnaaGreat
end

section
namespace Go.Proofs.YtpmhpibbdcifnaaGreat
open Go.RowKit

theorem Crc.infoBool : (Tryz.prog.info? 4).map (fun i => (i.zero, i.size, i.bytes)) = some (some (.bool false), 1, 1) := by kernel_rfl

namespace Crc
theorem take_snoc (s : ByteArray) (i : Nat) (h : i < s.size) : s.data.toList.take (i + 1) = s.data.toList.take i ++ [s[i]] := by
  rw [List.take_succ_eq_append_getElem (by simpa using h)]; rfl
theorem text_step (s : ByteArray) (i : Nat) (h : i < s.size) : textBits (s.data.toList.take i) ++ bits8 s[i].toNat 8 = textBits (s.data.toList.take (i + 1)) := by
  rw [take_snoc s i h, textBits_snoc]
theorem byte_bit (b k : Nat) (hb : b < 256) : (bits BinOp.and IntKind.u8 ((b : Int) / 2 ^ k) 1 == 1) = bit b k := by
  have e : (b : Int) / 2 ^ k = ((b / 2 ^ k : Nat) : Int) := by simp
  have hl : b / 2 ^ k < 256 := Nat.lt_of_le_of_lt (Nat.div_le_self _ _) hb
  unfold bit
  rw [e]
  generalize b / 2 ^ k = q at hl
  have := bits_mask .u8 8 (by decide) wraps_u8 1 (by omega) (q : Int) (by omega) (by omega)
  have e2 : bits BinOp.and IntKind.u8 (q : Int) 1 = ((q % 2 : Nat) : Int) := by simpa using this
  rw [e2]
  rcases Nat.mod_two_eq_zero_or_one q with h | h <;> rw [h] <;> rfl
theorem bit_and (b i : Nat) (h : b < 4294967296) : bits BinOp.and IntKind.u32 ((b : Int) / 2 ^ i) 1 = ((b / 2 ^ i % 2 : Nat) : Int) := by
  have e : (b : Int) / 2 ^ i = ((b / 2 ^ i : Nat) : Int) := by simp
  have hl : b / 2 ^ i < 4294967296 := Nat.lt_of_le_of_lt (Nat.div_le_self _ _) h
  rw [e]
  generalize b / 2 ^ i = q at hl
  have := bits_mask .u32 32 (by decide) wraps_u32 1 (by omega) (q : Int) (by omega) (by omega)
  simpa using this

/-- Bits as values. -/
def vals (l : List Bool) : List Value := l.map .bool
theorem vals_snoc (l : List Bool) (b : Bool) : vals l ++ [.bool b] = vals (l ++ [b]) := by simp [vals]
theorem one_cell (w : World) (t : TypeId) (b : Bool) : ∀ j u, [Value.bool b][j]? = some u → (w.alloc (.cells #[.bool b] t)).cell? ((⟨w.heap.size, 0, none⟩ : Addr).add j) = some u := by
  intro j u h
  match j, h with
  | 0, h =>
    simp at h
    subst h
    rw [show (⟨w.heap.size, 0, none⟩ : Addr).add 0 = ⟨w.heap.size, 0, none⟩ by simp [Addr.add], World.cell?_alloc_at _ _ _ _ rfl]
    rfl
theorem one_one (b : Bool) : ∀ u ∈ [Value.bool b], u.oneCell' = true := by
  intro u hu
  simp at hu
  subst hu
  rfl
theorem text_bits (l : List UInt8) (b j : Nat) : textBits l ++ bits8 b j ++ [bit b j] = textBits l ++ bits8 b (j + 1) := by
  rw [List.append_assoc, ← bits8_succ]
end Crc

theorem Crc.Bits.ofOwn {B n cap base : Nat} {t : TypeId} {l : List Bool} {w : World} (h : w.ownsRow base t 1 (.slice (some ⟨B, 0, none⟩) n cap) n (Crc.vals l)) (hn : l.length = n) : Crc.Bits B 0 l w := by
  intro i hi
  rw [Nat.zero_add]
  refine ⟨?_, h.frozenAt i⟩
  rw [h.cellAt i (by omega)]
  simp [Crc.vals, hi]

theorem Crc.infoByte : (Tryz.prog.info? 5).map (fun i => (i.zero, i.size, i.bytes)) = some (some (.int .u8 0), 1, 1) := by kernel_rfl

namespace Crc
def zeroText (n : Nat) : ByteArray := ⟨(List.replicate n (0 : UInt8)).toArray⟩
theorem zeroText_size (n : Nat) : (zeroText n).size = n := by
  show (List.replicate n (0 : UInt8)).toArray.size = n
  simp
theorem zeroText_list (n : Nat) : (zeroText n).data.toList = List.replicate n 0 := by
  show (List.replicate n (0 : UInt8)).toArray.toList = _
  simp
theorem join_zero (a b n : Nat) : on a (List.replicate n 0) ^^^ on 0 (List.replicate n 0) ^^^ b = join a b n := by
  have h := on_xor 0 a (List.replicate n 0)
  rw [Nat.zero_xor, List.length_replicate] at h
  rw [h, Nat.xor_comm (on 0 _) (Rn _ _), Nat.xor_assoc (Rn _ _), Nat.xor_self, Nat.xor_zero]
  rfl
end Crc

theorem Crc.zero_conv {B n cap base : Nat} {w : World} (h : w.ownsRow base 5 1 (.slice (some ⟨B, 0, none⟩) n cap) n (madeCells #[Value.int .u8 0] n).toList) :
    (convert 94 9 (.slice (some ⟨B, 0, none⟩) n cap)).run Tryz.prog w = .ok (.string (Crc.zeroText n)) w := by
  have hl : (List.replicate n (0 : UInt8)).length = n := List.length_replicate
  have := run_convert_bytes_back (P := Tryz.prog) w 94 9 5 ⟨B, 0, none⟩ cap (List.replicate n 0) Tryz.underlying94 Tryz.underlying5 Tryz.underlying9 (fun j hj => by
    have e : (⟨B, 0, none⟩ : Addr).add j = ⟨B, j, none⟩ := by unfold Addr.add; split <;> simp_all
    rw [e, h.cellAt j (by omega), toList_madeCells_one, List.getElem?_replicate, if_pos (by omega)]
    simp)
  rw [hl] at this
  exact this

end Go.Proofs.YtpmhpibbdcifnaaGreat
end
