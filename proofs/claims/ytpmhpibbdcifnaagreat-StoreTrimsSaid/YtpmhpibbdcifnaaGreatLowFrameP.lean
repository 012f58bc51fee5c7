/-
  Plain facts of frames: a sum behind what it is the sum of; a frame read at the front of bytes, whole, cut off, turned. Imports nothing of the dump.
  Plain facts of frames read one behind the other, step by step. Imports nothing of the dump.
-/
import Derived.Test.YtpmhpibbdcifnaaGreatNumMath
import Derived.Test.YtpmhpibbdcifnaaGreatSumMath
section
namespace Go.Proofs.YtpmhpibbdcifnaaGreat

namespace Crc
/-- The four bytes of a sum, the lowest first, as a list. -/
def fourL (a : Nat) : List UInt8 := [UInt8.ofNat (a % 256), UInt8.ofNat (a / 256 % 256), UInt8.ofNat (a / 65536 % 256), UInt8.ofNat (a / 16777216)]

theorem Rn8_low (c x : Nat) : Rn 8 (c ^^^ x) = Rn 8 (c ^^^ x % 256) ^^^ x / 256 := by
  have h : c ^^^ x = (c ^^^ x % 256) ^^^ 2 ^ 8 * (x / 256) := by
    rw [Nat.xor_assoc, Nat.xor_comm (x % 256), ← split_xor 8 x]
  rw [h, Rn_xor, Rn_pow]

theorem run_four (c x : Nat) (hx : x < 4294967296) : run c (fourL x) = Rn 32 (c ^^^ x) := by
  have t0 : (UInt8.ofNat (x % 256)).toNat = x % 256 := by simp
  have t1 : (UInt8.ofNat (x / 256 % 256)).toNat = x / 256 % 256 := by simp
  have t2 : (UInt8.ofNat (x / 65536 % 256)).toNat = x / 65536 % 256 := by simp
  have t3 : (UInt8.ofNat (x / 16777216)).toNat = x / 16777216 := by
    simp
    omega
  unfold fourL
  simp only [run, t0, t1, t2, t3]
  rw [show (32 : Nat) = 24 + 8 from rfl, Rn_add, Rn8_low c x, show (24 : Nat) = 16 + 8 from rfl, Rn_add, Rn8_low _ (x / 256), Nat.div_div_eq_div_mul,
    show (16 : Nat) = 8 + 8 from rfl, Rn_add, Rn8_low _ (x / (256 * 256)), Nat.div_div_eq_div_mul]

theorem fourL_inj {a b : Nat} (ha : a < 4294967296) (hb : b < 4294967296) (h : fourL a = fourL b) : a = b := by
  have h1 := run_four 0 a ha
  have h2 := run_four 0 b hb
  rw [h, h2, Nat.zero_xor, Nat.zero_xor] at h1
  have hx : Rn 32 (b ^^^ a) = 0 := by rw [Rn_xor, h1, Nat.xor_self]
  have := Rn_inj 32 (Nat.xor_lt_two_pow (n := 32) hb ha) hx
  have e : b ^^^ a ^^^ a = a := by rw [this, Nat.zero_xor]
  rw [Nat.xor_assoc, Nat.xor_self, Nat.xor_zero] at e
  exact e.symm

/-- Any four bytes are those of some number. -/
theorem fourL_of (q : List UInt8) (h : q.length = 4) : ∃ x, x < 4294967296 ∧ q = fourL x := by
  match q, h with
  | [a, b, c, d], _ =>
    have ha := a.toNat_lt
    have hb := b.toNat_lt
    have hc := c.toNat_lt
    have hd := d.toNat_lt
    refine ⟨a.toNat + 256 * b.toNat + 65536 * c.toNat + 16777216 * d.toNat, by omega, ?_⟩
    have e0 : (a.toNat + 256 * b.toNat + 65536 * c.toNat + 16777216 * d.toNat) % 256 = a.toNat := by omega
    have e1 : (a.toNat + 256 * b.toNat + 65536 * c.toNat + 16777216 * d.toNat) / 256 % 256 = b.toNat := by omega
    have e2 : (a.toNat + 256 * b.toNat + 65536 * c.toNat + 16777216 * d.toNat) / 65536 % 256 = c.toNat := by omega
    have e3 : (a.toNat + 256 * b.toNat + 65536 * c.toNat + 16777216 * d.toNat) / 16777216 = d.toNat := by omega
    unfold fourL
    rw [e0, e1, e2, e3]
    simp

/-- A text with its sum behind it is told by one number alone: so what is turned in both is told as what is turned in one. -/
theorem sum_iff (p q : List UInt8) (hq : q.length = 4) : q = fourL (on 0 p) ↔ run M (p ++ q) = Rn 32 M := by
  obtain ⟨x, hx, rfl⟩ := fourL_of q hq
  have hc : run M p < 4294967296 := run_lt p (by decide)
  have ho : on 0 p = run M p ^^^ M := by unfold on; rw [Nat.zero_xor]
  rw [run_append, run_four _ x hx, ho]
  constructor
  · intro h
    have := fourL_inj hx (xorM_lt hc) h
    rw [this, ← Nat.xor_assoc, Nat.xor_self, Nat.zero_xor]
  · intro h
    have hz : Rn 32 ((run M p ^^^ x) ^^^ M) = 0 := by rw [Rn_xor, h, Nat.xor_self]
    have hl : (run M p ^^^ x) ^^^ M < 4294967296 := xorM_lt (Nat.xor_lt_two_pow (n := 32) hc hx)
    have := Rn_inj 32 hl hz
    have e : x = run M p ^^^ M := by
      have e2 : run M p ^^^ (run M p ^^^ x ^^^ M) = run M p := by rw [this, Nat.xor_zero]
      rw [← Nat.xor_assoc, ← Nat.xor_assoc, Nat.xor_self, Nat.zero_xor] at e2
      have := congrArg (· ^^^ M) e2
      simpa [xorMM] using this
    rw [e]
end Crc

namespace Frame
/-- A frame ahead of its sum, and whole. -/
def hd (tag : UInt8) (t : List UInt8) : List UInt8 := 1 :: tag :: (Lib.uvarint t.length ++ t)
def raw (tag : UInt8) (t : List UInt8) : List UInt8 := hd tag t ++ Crc.fourL (Crc.on 0 (hd tag t))

/-- No frame: why. -/
def bad (e : Nat) : UInt8 × List UInt8 × Nat × Nat := (0, [], 0, e)

/-- The frame at the front of bytes: its tag, its text, how many bytes it has; or why there is none. -/
def rd (s : List UInt8) (most : Int) : UInt8 × List UInt8 × Nat × Nat :=
  match s with
  | [] => bad 40
  | v :: r =>
    if v ≠ 1 then bad 42
    else match r with
    | [] => bad 40
    | tag :: q =>
      if (Num.rd q).2.2 = 10 then bad 40
      else if (Num.rd q).2.2 ≠ 0 then bad 8
      else if most < 0 ∨ most < (Num.rd q).1 ∨ 131072 < (Num.rd q).1 then bad 4
      else if s.length < 2 + (Num.rd q).2.1 + (Num.rd q).1 + 4 then bad 40
      else if (s.drop (2 + (Num.rd q).2.1 + (Num.rd q).1)).take 4 ≠ Crc.fourL (Crc.on 0 (s.take (2 + (Num.rd q).2.1 + (Num.rd q).1))) then bad 41
      else (tag, (s.drop (2 + (Num.rd q).2.1)).take (Num.rd q).1, 2 + (Num.rd q).2.1 + (Num.rd q).1 + 4, 0)

theorem four_length (a : Nat) : (Crc.fourL a).length = 4 := rfl
theorem hd_length (tag : UInt8) (t : List UInt8) : (hd tag t).length = 2 + (Lib.uvarint t.length).length + t.length := by
  unfold hd; simp; omega
theorem raw_length (tag : UInt8) (t : List UInt8) : (raw tag t).length = 2 + (Lib.uvarint t.length).length + t.length + 4 := by
  unfold raw; rw [List.length_append, hd_length, four_length]

theorem rd_two (tag : UInt8) (q : List UInt8) (most : Int) : rd (1 :: tag :: q) most =
    if (Num.rd q).2.2 = 10 then bad 40
    else if (Num.rd q).2.2 ≠ 0 then bad 8
    else if most < 0 ∨ most < (Num.rd q).1 ∨ 131072 < (Num.rd q).1 then bad 4
    else if (1 :: tag :: q).length < 2 + (Num.rd q).2.1 + (Num.rd q).1 + 4 then bad 40
    else if ((1 :: tag :: q).drop (2 + (Num.rd q).2.1 + (Num.rd q).1)).take 4 ≠ Crc.fourL (Crc.on 0 ((1 :: tag :: q).take (2 + (Num.rd q).2.1 + (Num.rd q).1))) then bad 41
    else (tag, ((1 :: tag :: q).drop (2 + (Num.rd q).2.1)).take (Num.rd q).1, 2 + (Num.rd q).2.1 + (Num.rd q).1 + 4, 0) := by
  rfl
theorem rd_foreign {v : UInt8} (r : List UInt8) (most : Int) (h : v ≠ 1) : rd (v :: r) most = bad 42 := by
  show (if v ≠ 1 then bad 42 else _) = _
  rw [if_pos h]
theorem rd_one (most : Int) : rd [1] most = bad 40 := rfl
theorem rd_none (most : Int) : rd [] most = bad 40 := rfl

/-- A frame with whatever behind its head: what decides is the sum alone. -/
theorem rd_head (tag : UInt8) (n : Nat) (b : List UInt8) (most : Int) (hn : n ≤ 131072) (hm : (n : Int) ≤ most) (hb : n + 4 ≤ b.length) :
    rd (1 :: tag :: (Lib.uvarint n ++ b)) most =
      if (b.drop n).take 4 ≠ Crc.fourL (Crc.on 0 (1 :: tag :: (Lib.uvarint n ++ b.take n))) then bad 41 else (tag, b.take n, 2 + (Lib.uvarint n).length + n + 4, 0) := by
  have hr := Num.rd_uv n (by omega) b
  have e1 : (1 :: tag :: (Lib.uvarint n ++ b)).drop (2 + (Lib.uvarint n).length + n) = b.drop n := by
    rw [show 2 + (Lib.uvarint n).length + n = ((Lib.uvarint n).length + n) + 2 from by omega]
    show (Lib.uvarint n ++ b).drop ((Lib.uvarint n).length + n) = _
    rw [← List.drop_drop, List.drop_left]
  have e2 : (1 :: tag :: (Lib.uvarint n ++ b)).take (2 + (Lib.uvarint n).length + n) = 1 :: tag :: (Lib.uvarint n ++ b.take n) := by
    rw [show 2 + (Lib.uvarint n).length + n = ((Lib.uvarint n).length + n) + 2 from by omega]
    show 1 :: tag :: (Lib.uvarint n ++ b).take ((Lib.uvarint n).length + n) = _
    rw [List.take_append, List.take_of_length_le (by omega)]
    simp
  have e3 : (1 :: tag :: (Lib.uvarint n ++ b)).drop (2 + (Lib.uvarint n).length) = b := by
    rw [Nat.add_comm]
    show (Lib.uvarint n ++ b).drop ((Lib.uvarint n).length) = _
    rw [List.drop_left]
  have el : (1 :: tag :: (Lib.uvarint n ++ b)).length = 2 + (Lib.uvarint n).length + b.length := by simp; omega
  rw [rd_two, hr]
  simp only []
  rw [if_neg (by decide), if_neg (by decide), if_neg (by omega), if_neg (by omega), e1, e2, e3]

theorem rd_raw (tag : UInt8) (t r : List UInt8) (most : Int) (ht : t.length ≤ 131072) (hm : (t.length : Int) ≤ most) : rd (raw tag t ++ r) most = (tag, t, (raw tag t).length, 0) := by
  have e : raw tag t ++ r = 1 :: tag :: (Lib.uvarint t.length ++ (t ++ (Crc.fourL (Crc.on 0 (hd tag t)) ++ r))) := by
    unfold raw hd
    simp
  rw [e, rd_head tag t.length _ most ht hm (by simp [four_length]), List.drop_left, List.take_left, raw_length]
  have h4 : (Crc.fourL (Crc.on 0 (hd tag t)) ++ r).take 4 = Crc.fourL (Crc.on 0 (hd tag t)) := by
    rw [show (4 : Nat) = (Crc.fourL (Crc.on 0 (hd tag t))).length from rfl, List.take_left]
  rw [h4]
  rw [if_neg (by simp [hd])]

/-- What is cut off anywhere is torn. -/
theorem rd_cut (tag : UInt8) (t : List UInt8) (most : Int) (ht : t.length ≤ 131072) (hm : (t.length : Int) ≤ most) (k : Nat) (hk : k < (raw tag t).length) : rd ((raw tag t).take k) most = bad 40 := by
  have e : raw tag t = 1 :: tag :: (Lib.uvarint t.length ++ (t ++ Crc.fourL (Crc.on 0 (hd tag t)))) := by
    unfold raw hd
    simp
  rw [raw_length] at hk
  rw [e]
  match k with
  | 0 => rfl
  | 1 => rfl
  | k + 2 =>
    show rd (1 :: tag :: (Lib.uvarint t.length ++ (t ++ Crc.fourL (Crc.on 0 (hd tag t)))).take k) most = _
    by_cases hc : k < (Lib.uvarint t.length).length
    · have hr := Num.rd_cut t.length (by omega) k hc
      rw [List.take_append_of_le_length (by omega), rd_two, hr]
      rfl
    · rw [List.take_append, List.take_of_length_le (by omega)]
      have hr := Num.rd_uv t.length (by omega) ((t ++ Crc.fourL (Crc.on 0 (hd tag t))).take (k - (Lib.uvarint t.length).length))
      have el : (1 :: tag :: (Lib.uvarint t.length ++ (t ++ Crc.fourL (Crc.on 0 (hd tag t))).take (k - (Lib.uvarint t.length).length))).length < 2 + (Lib.uvarint t.length).length + t.length + 4 := by
        simp [four_length]; omega
      rw [rd_two, hr]
      simp only []
      rw [if_neg (by decide), if_neg (by decide), if_neg (by omega), if_pos el]

/-- A frame in which something behind the head is turned: told by one number. -/
theorem rd_turned (tag : UInt8) (n : Nat) (b : List UInt8) (most : Int) (hn : n ≤ 131072) (hm : (n : Int) ≤ most) (hb : b.length = n + 4) (hs : Crc.run Crc.M (1 :: tag :: (Lib.uvarint n ++ b)) ≠ Crc.Rn 32 Crc.M) :
    rd (1 :: tag :: (Lib.uvarint n ++ b)) most = bad 41 := by
  rw [rd_head tag n b most hn hm (by omega)]
  have e : 1 :: tag :: (Lib.uvarint n ++ b) = (1 :: tag :: (Lib.uvarint n ++ b.take n)) ++ b.drop n := by
    simp
  have hl : (b.drop n).length = 4 := by rw [List.length_drop]; omega
  have h4 : (b.drop n).take 4 = b.drop n := List.take_of_length_le (by omega)
  rw [if_pos]
  rw [h4]
  intro h
  rw [e] at hs
  exact hs ((Crc.sum_iff _ _ hl).1 h)
theorem raw_run (tag : UInt8) (t : List UInt8) : Crc.run Crc.M (raw tag t) = Crc.Rn 32 Crc.M := (Crc.sum_iff _ _ (four_length _)).1 rfl

/-- Frames one behind the other: those that there are, how many bytes they have, and why there is no more (0: nothing is left). -/
def scan : Nat → List UInt8 → Int → List (UInt8 × List UInt8) × Nat × Nat
  | 0, _, _ => ([], 0, 0)
  | k + 1, s, most =>
    if s = [] then ([], 0, 0)
    else if (rd s most).2.2.2 ≠ 0 then ([], 0, (rd s most).2.2.2)
    else (((rd s most).1, (rd s most).2.1) :: (scan k (s.drop (rd s most).2.2.1) most).1, (rd s most).2.2.1 + (scan k (s.drop (rd s most).2.2.1) most).2.1, (scan k (s.drop (rd s most).2.2.1) most).2.2)

theorem scan_succ (k : Nat) (s : List UInt8) (most : Int) : scan (k + 1) s most =
    if s = [] then ([], 0, 0)
    else if (rd s most).2.2.2 ≠ 0 then ([], 0, (rd s most).2.2.2)
    else (((rd s most).1, (rd s most).2.1) :: (scan k (s.drop (rd s most).2.2.1) most).1, (rd s most).2.2.1 + (scan k (s.drop (rd s most).2.2.1) most).2.1, (scan k (s.drop (rd s most).2.2.1) most).2.2) := rfl

/-- The bytes of a row of frames. -/
def flat (l : List (UInt8 × List UInt8)) : List UInt8 := l.flatMap fun f => raw f.1 f.2

theorem rd_le (s : List UInt8) (most : Int) : (rd s most).2.2.2 = 0 → 7 ≤ (rd s most).2.2.1 ∧ (rd s most).2.2.1 ≤ s.length := by
  intro h
  match s, h with
  | [], h => rw [rd_none] at h; simp [bad] at h
  | [v], h =>
    by_cases hv : v = 1
    · subst hv; rw [rd_one] at h; simp [bad] at h
    · rw [rd_foreign _ _ hv] at h; simp [bad] at h
  | v :: tag :: q, h =>
    by_cases hv : v = 1
    · subst hv
      rw [rd_two] at h ⊢
      by_cases h2 : (Num.rd q).2.2 = 10
      · rw [if_pos h2] at h; simp [bad] at h
      · rw [if_neg h2] at h ⊢
        by_cases h3 : (Num.rd q).2.2 ≠ 0
        · rw [if_pos h3] at h; simp [bad] at h
        · rw [if_neg h3] at h ⊢
          by_cases h4 : most < 0 ∨ most < (Num.rd q).1 ∨ 131072 < (Num.rd q).1
          · rw [if_pos h4] at h; simp [bad] at h
          · rw [if_neg h4] at h ⊢
            by_cases h5 : (1 :: tag :: q).length < 2 + (Num.rd q).2.1 + (Num.rd q).1 + 4
            · rw [if_pos h5] at h; simp [bad] at h
            · rw [if_neg h5] at h ⊢
              by_cases h6 : ((1 :: tag :: q).drop (2 + (Num.rd q).2.1 + (Num.rd q).1)).take 4 ≠ Crc.fourL (Crc.on 0 ((1 :: tag :: q).take (2 + (Num.rd q).2.1 + (Num.rd q).1)))
              · rw [if_pos h6] at h; simp [bad] at h
              · rw [if_neg h6]
                have hp : 1 ≤ (Num.rd q).2.1 := by
                  have hu := Num.uv_rd (l := q) (by omega)
                  have hl := Lib.uvarint_pos (Num.rd q).1
                  rw [hu, List.length_take] at hl
                  omega
                simp only []
                omega
    · rw [rd_foreign _ _ hv] at h; simp [bad] at h

/-- Fuel beyond the length makes no difference: what is scanned of frames and what stands behind them. -/
theorem scan_flat (most : Int) : ∀ (l : List (UInt8 × List UInt8)) (k : Nat) (r : List UInt8), (∀ f ∈ l, f.2.length ≤ 131072 ∧ (f.2.length : Int) ≤ most) → l.length ≤ k →
    scan k (flat l ++ r) most = (l ++ (scan (k - l.length) r most).1, (flat l).length + (scan (k - l.length) r most).2.1, (scan (k - l.length) r most).2.2)
  | [], k, r, _, _ => by simp [flat]
  | f :: l, 0, r, _, h => by simp at h
  | f :: l, k + 1, r, hf, h => by
    have h1 := hf f (by simp)
    have ih := scan_flat most l k r (fun g hg => hf g (by simp [hg])) (by simpa using h)
    have e : flat (f :: l) ++ r = raw f.1 f.2 ++ (flat l ++ r) := by unfold flat; rw [List.flatMap_cons, List.append_assoc]
    have hr := rd_raw f.1 f.2 (flat l ++ r) most h1.1 h1.2
    have hne : raw f.1 f.2 ++ (flat l ++ r) ≠ [] := by
      intro h
      have := congrArg List.length h
      rw [List.length_append, raw_length] at this
      simp at this
    rw [e]
    rw [scan_succ, if_neg hne, hr]
    simp only [ne_eq, not_true_eq_false, if_false]
    rw [List.drop_left, ih]
    have el : (flat (f :: l)).length = (raw f.1 f.2).length + (flat l).length := by unfold flat; rw [List.flatMap_cons, List.length_append]
    rw [el, List.length_cons, Nat.add_sub_add_right]
    simp only [List.cons_append, Nat.add_assoc]
end Frame
end Go.Proofs.YtpmhpibbdcifnaaGreat
end

section
namespace Go.Proofs.YtpmhpibbdcifnaaGreat

namespace Frame
/-- What reading tells. -/
abbrev Told := UInt8 × List UInt8 × Nat × Nat

def stepsF : Nat → List UInt8 → Int → List Told
  | 0, _, _ => []
  | k + 1, s, most =>
    if s = [] then []
    else if (rd s most).2.2.2 ≠ 0 then [rd s most]
    else rd s most :: stepsF k (s.drop (rd s most).2.2.1) most

theorem stepsF_succ (k : Nat) (s : List UInt8) (most : Int) : stepsF (k + 1) s most =
    if s = [] then []
    else if (rd s most).2.2.2 ≠ 0 then [rd s most]
    else rd s most :: stepsF k (s.drop (rd s most).2.2.1) most := rfl

theorem stepsF_nil (k : Nat) (most : Int) : stepsF k [] most = [] := by
  cases k with
  | zero => rfl
  | succ k => rw [stepsF_succ, if_pos rfl]

theorem stepsF_fuel (most : Int) : ∀ (k j : Nat) (s : List UInt8), s.length ≤ k → s.length ≤ j → stepsF k s most = stepsF j s most := by
  intro k
  induction k with
  | zero =>
    intro j s h _
    have : s = [] := List.eq_nil_of_length_eq_zero (by omega)
    subst this
    rw [stepsF_nil, stepsF_nil]
  | succ k ih =>
    intro j s h hj
    match j with
    | 0 =>
      have : s = [] := List.eq_nil_of_length_eq_zero (by omega)
      subst this
      rw [stepsF_nil, stepsF_nil]
    | j + 1 =>
      rw [stepsF_succ, stepsF_succ]
      by_cases h0 : s = []
      · rw [if_pos h0, if_pos h0]
      · rw [if_neg h0, if_neg h0]
        by_cases he : (rd s most).2.2.2 ≠ 0
        · rw [if_pos he, if_pos he]
        · rw [if_neg he, if_neg he]
          have hl := rd_le s most (by omega)
          rw [ih j (s.drop (rd s most).2.2.1) (by rw [List.length_drop]; omega) (by rw [List.length_drop]; omega)]

/-- All that reading tells, one behind the other. -/
def steps (s : List UInt8) (most : Int) : List Told := stepsF s.length s most
theorem steps_nil (most : Int) : steps [] most = [] := rfl
theorem steps_bad {s : List UInt8} {most : Int} (h : s ≠ []) (he : (rd s most).2.2.2 ≠ 0) : steps s most = [rd s most] := by
  have hp : 0 < s.length := List.length_pos_iff.2 h
  unfold steps
  rw [stepsF_fuel most s.length (s.length + 1) s (by omega) (by omega), stepsF_succ, if_neg h, if_pos he]
theorem steps_ok {s : List UInt8} {most : Int} (h : s ≠ []) (he : (rd s most).2.2.2 = 0) : steps s most = rd s most :: steps (s.drop (rd s most).2.2.1) most := by
  have hp : 0 < s.length := List.length_pos_iff.2 h
  unfold steps
  rw [stepsF_fuel most s.length (s.length + 1) s (by omega) (by omega), stepsF_succ, if_neg h, if_neg (by omega)]
  rw [stepsF_fuel most s.length (s.drop (rd s most).2.2.1).length _ (by rw [List.length_drop]; omega) (by omega)]

theorem stepsF_len (most : Int) : ∀ (k : Nat) (s : List UInt8), (stepsF k s most).length ≤ k := by
  intro k
  induction k with
  | zero => intro s; exact Nat.zero_le _
  | succ k ih =>
    intro s
    rw [stepsF_succ]
    split
    · exact Nat.zero_le _
    · split
      · simp
      · rw [List.length_cons]
        have := ih (s.drop (rd s most).2.2.1)
        omega
theorem steps_len (s : List UInt8) (most : Int) : (steps s most).length ≤ s.length := stepsF_len most _ s

/-- The frames that were told, how many bytes they have. -/
def frames (l : List Told) : List (UInt8 × List UInt8) := l.map fun r => (r.1, r.2.1)
def bytes (l : List Told) : Nat := (l.map fun r => r.2.2.1).sum
/-- None of them is a fault. -/
def allOk (l : List Told) : Prop := ∀ r ∈ l, r.2.2.2 = 0

theorem frames_snoc (l : List Told) (x : Told) : frames (l ++ [x]) = frames l ++ [(x.1, x.2.1)] := by unfold frames; simp
theorem frames_len (l : List Told) : (frames l).length = l.length := by unfold frames; simp
theorem bytes_snoc (l : List Told) (x : Told) : bytes (l ++ [x]) = bytes l + x.2.2.1 := by unfold bytes; simp
theorem allOk_snoc {l : List Told} {x : Told} (h : allOk l) (hx : x.2.2.2 = 0) : allOk (l ++ [x]) := by
  intro r hr
  rcases List.mem_append.1 hr with h1 | h1
  · exact h r h1
  · rw [List.mem_singleton.1 h1]; exact hx
theorem allOk_nil : allOk [] := fun _ h => by simp at h

theorem scan_nil (k : Nat) (most : Int) : scan k [] most = ([], 0, 0) := by
  cases k with
  | zero => rfl
  | succ k => rw [scan_succ, if_pos rfl]

theorem scan_stop (most : Int) : ∀ (k : Nat) (s : List UInt8) (pre : List Told) (x : Told) (rest : List Told), stepsF k s most = pre ++ x :: rest → allOk pre → x.2.2.2 ≠ 0 → scan k s most = (frames pre, bytes pre, x.2.2.2) := by
  intro k
  induction k with
  | zero => intro s pre x rest h; cases pre <;> cases h
  | succ k ih =>
    intro s pre x rest h hok hx
    rw [stepsF_succ] at h
    rw [scan_succ]
    by_cases h0 : s = []
    · rw [if_pos h0] at h; cases pre <;> cases h
    · rw [if_neg h0] at h ⊢
      by_cases he : (rd s most).2.2.2 ≠ 0
      · rw [if_pos he] at h
        rw [if_pos he]
        cases pre with
        | nil =>
          rw [List.nil_append, List.cons.injEq] at h
          rw [← h.1]
          rfl
        | cons p pre =>
          rw [List.cons_append, List.cons.injEq] at h
          cases pre <;> cases h.2
      · rw [if_neg he] at h
        rw [if_neg he]
        cases pre with
        | nil =>
          rw [List.nil_append, List.cons.injEq] at h
          rw [h.1] at he
          exact absurd hx he
        | cons p pre =>
          rw [List.cons_append, List.cons.injEq] at h
          rw [ih _ pre x rest h.2 (fun r hr => hok r (by simp [hr])) hx, h.1]
          unfold frames bytes
          simp

theorem scan_done (most : Int) : ∀ (k : Nat) (s : List UInt8) (pre : List Told), stepsF k s most = pre → allOk pre → scan k s most = (frames pre, bytes pre, 0) := by
  intro k
  induction k with
  | zero => intro s pre h _; rw [← h]; rfl
  | succ k ih =>
    intro s pre h hok
    rw [stepsF_succ] at h
    rw [scan_succ]
    by_cases h0 : s = []
    · rw [if_pos h0] at h ⊢; rw [← h]; rfl
    · rw [if_neg h0] at h ⊢
      by_cases he : (rd s most).2.2.2 ≠ 0
      · rw [if_pos he] at h
        have := hok (rd s most) (by rw [← h]; simp)
        exact absurd this he
      · rw [if_neg he] at h
        rw [if_neg he]
        cases pre with
        | nil => cases h
        | cons p pre =>
          rw [List.cons.injEq] at h
          rw [ih _ pre h.2 (fun r hr => hok r (by simp [hr])), h.1]
          unfold frames bytes
          simp

/-- What is scanned of bytes. -/
def sc (s : List UInt8) (most : Int) : List (UInt8 × List UInt8) × Nat × Nat := scan s.length s most
theorem sc_stop {s : List UInt8} {most : Int} {pre : List Told} {x : Told} {rest : List Told} (h : steps s most = pre ++ x :: rest) (hok : allOk pre) (hx : x.2.2.2 ≠ 0) : sc s most = (frames pre, bytes pre, x.2.2.2) :=
  scan_stop most _ s pre x rest h hok hx
theorem sc_done {s : List UInt8} {most : Int} {pre : List Told} (h : steps s most = pre) (hok : allOk pre) : sc s most = (frames pre, bytes pre, 0) :=
  scan_done most _ s pre h hok

theorem scan_len (most : Int) : ∀ (k : Nat) (s : List UInt8), (scan k s most).1.length ≤ k := by
  intro k
  induction k with
  | zero => intro s; exact Nat.zero_le _
  | succ k ih =>
    intro s
    rw [scan_succ]
    split
    · exact Nat.zero_le _
    · split
      · exact Nat.zero_le _
      · have := ih (s.drop (rd s most).2.2.1)
        simp
        exact this
theorem sc_len (s : List UInt8) (most : Int) : (sc s most).1.length ≤ s.length := scan_len most _ s

/-- How many bytes frames that were told have: those that stand there. -/
theorem bytes_le (most : Int) : ∀ (k : Nat) (s : List UInt8) (pre rest : List Told), stepsF k s most = pre ++ rest → allOk pre → bytes pre ≤ s.length := by
  intro k
  induction k with
  | zero => intro s pre rest h _; cases pre with
    | nil => exact Nat.zero_le _
    | cons p pre => cases h
  | succ k ih =>
    intro s pre rest h hok
    cases pre with
    | nil => exact Nat.zero_le _
    | cons p pre =>
      rw [stepsF_succ] at h
      by_cases h0 : s = []
      · rw [if_pos h0] at h; cases h
      · rw [if_neg h0] at h
        by_cases he : (rd s most).2.2.2 ≠ 0
        · rw [if_pos he, List.cons_append, List.cons.injEq] at h
          have := hok p (by simp)
          rw [← h.1] at this
          exact absurd this he
        · rw [if_neg he, List.cons_append, List.cons.injEq] at h
          have h1 := ih _ pre rest h.2 (fun r hr => hok r (by simp [hr]))
          have h2 := rd_le s most (by omega)
          rw [List.length_drop] at h1
          have e : bytes (p :: pre) = p.2.2.1 + bytes pre := by unfold bytes; simp
          rw [e, ← h.1]
          omega

/-- What is scanned of frames and a beginning of one more. -/
theorem sc_flat (most : Int) (l : List (UInt8 × List UInt8)) (r : List UInt8) (hf : ∀ f ∈ l, f.2.length ≤ 131072 ∧ (f.2.length : Int) ≤ most) (hr : r = [] ∨ (rd r most).2.2.2 ≠ 0) :
    sc (flat l ++ r) most = (l, (flat l).length, if r = [] then 0 else (rd r most).2.2.2) := by
  have hlen : l.length ≤ (flat l).length := by
    clear hf hr
    induction l with
    | nil => exact Nat.zero_le _
    | cons f l ih =>
      have e : flat (f :: l) = raw f.1 f.2 ++ flat l := by unfold flat; rw [List.flatMap_cons]
      rw [e, List.length_append, raw_length, List.length_cons]
      omega
  unfold sc
  rw [scan_flat most l _ r hf (by rw [List.length_append]; omega)]
  rcases hr with rfl | hr
  · rw [scan_nil]; simp
  · by_cases h0 : r = []
    · subst h0; rw [scan_nil]; simp
    · have hp : 0 < r.length := List.length_pos_iff.2 h0
      obtain ⟨m, hm⟩ : ∃ m, (flat l ++ r).length - l.length = m + 1 := ⟨(flat l ++ r).length - l.length - 1, by rw [List.length_append]; omega⟩
      rw [hm, scan_succ, if_neg h0, if_pos hr, if_neg h0]
      simp
end Frame
end Go.Proofs.YtpmhpibbdcifnaaGreat
end
