/-
  Plain facts on the bytes of numbers: what a number's bytes are worth, when bytes are a number's, what is read of the front of bytes. No program.
-/
import Derived.Lib.Varint
import Derived.Lib.Zigzag
import Derived.Lib.BitFns
import Derived.Lib.EndianBits
namespace Go.Proofs.YtepnofklmdofmaaGreatDoor.Num
open Go.Lib (uvarint uvarint_small uvarint_big zigzag bitLen bitLenAux)

/-- What bytes are worth, seven bits a byte, the lowest first. -/
def lev : List UInt8 → Nat
  | [] => 0
  | b :: r => b.toNat % 128 + 128 * lev r

theorem lev_append (a b : List UInt8) : lev (a ++ b) = lev a + 128 ^ a.length * lev b := by
  induction a with
  | nil => simp [lev]
  | cons x a ih =>
    simp only [List.cons_append, lev, ih, List.length_cons, Nat.pow_succ]
    rw [Nat.mul_add, Nat.mul_comm (128 ^ a.length) 128, Nat.mul_assoc]
    omega

theorem lev_lt (l : List UInt8) : lev l < 128 ^ l.length := by
  induction l with
  | nil => simp [lev]
  | cons x a ih =>
    simp only [lev, List.length_cons, Nat.pow_succ]
    omega

theorem u8_small (n : Nat) (h : n < 256) : (n.toUInt8).toNat = n := by
  simp [Nat.mod_eq_of_lt h]

theorem lev_uv (x : Nat) : lev (uvarint x) = x := by
  induction x using Nat.strongRecOn with
  | _ x ih =>
    by_cases h : x < 128
    · rw [uvarint_small h]
      simp only [lev]
      rw [u8_small x (by omega)]
      omega
    · rw [uvarint_big (by omega)]
      simp only [lev]
      rw [ih (x / 128) (by omega), u8_small _ (by omega)]
      omega

/-- Bytes that are a number's: all but the last 128 or more, the last one below; a last 0 only alone. -/
def IsNum (l : List UInt8) : Prop := ∃ (pre : List UInt8) (c : UInt8), l = pre ++ [c] ∧ (∀ b ∈ pre, 128 ≤ b.toNat) ∧ c.toNat < 128 ∧ (pre ≠ [] → c.toNat ≠ 0)

theorem uv_isNum (x : Nat) : IsNum (uvarint x) ∧ (x ≠ 0 → ∀ pre c, uvarint x = pre ++ [c] → c.toNat ≠ 0) := by
  induction x using Nat.strongRecOn with
  | _ x ih =>
    by_cases h : x < 128
    · rw [uvarint_small h]
      refine ⟨⟨[], x.toUInt8, rfl, by simp, by rw [u8_small x (by omega)]; omega, by simp⟩, ?_⟩
      intro h0 pre c he
      have hl := congrArg List.length he
      simp at hl
      have hp : pre = [] := by cases pre <;> simp_all
      subst hp
      have he2 : x.toUInt8 = c := by simpa using he
      have := u8_small x (by omega)
      rw [he2] at this
      omega
    · rw [uvarint_big (by omega)]
      obtain ⟨⟨pre, c, he, h1, h2, h3⟩, h4⟩ := ih (x / 128) (by omega)
      have hc : c.toNat ≠ 0 := h4 (by omega) pre c he
      refine ⟨⟨(x % 128 + 128).toUInt8 :: pre, c, by rw [he]; rfl, ?_, h2, fun _ => hc⟩, ?_⟩
      · intro b hb
        rcases List.mem_cons.1 hb with rfl | hb
        · rw [u8_small _ (by omega)]; omega
        · exact h1 b hb
      · intro _ pre' c' he'
        cases pre' with
        | nil =>
          simp at he'
          have := he'.2
          rw [he] at this
          simp at this
        | cons y pre' =>
          simp only [List.cons_append, List.cons.injEq] at he'
          exact h4 (by omega) pre' c' he'.2

theorem uv_lev_aux : ∀ (pre : List UInt8) (c : UInt8), (∀ b ∈ pre, 128 ≤ b.toNat) → c.toNat < 128 → (pre ≠ [] → c.toNat ≠ 0) →
    uvarint (lev (pre ++ [c])) = pre ++ [c] ∧ (c.toNat ≠ 0 → lev (pre ++ [c]) ≠ 0)
  | [], c, _, h2, _ => by
    have e : lev ([] ++ [c]) = c.toNat := by simp [lev]; omega
    rw [e]
    refine ⟨?_, id⟩
    rw [uvarint_small h2]
    simp
  | b :: pre, c, h1, h2, h3 => by
    have hc := h3 (by simp)
    obtain ⟨i1, i2⟩ := uv_lev_aux pre c (fun x hx => h1 x (by simp [hx])) h2 (fun _ => hc)
    have hv := i2 hc
    have hb := h1 b (by simp)
    have hb2 : b.toNat < 256 := b.toNat_lt
    have e : lev (b :: pre ++ [c]) = b.toNat % 128 + 128 * lev (pre ++ [c]) := rfl
    rw [e]
    refine ⟨?_, fun _ => by omega⟩
    rw [uvarint_big (by omega)]
    have e1 : (b.toNat % 128 + 128 * lev (pre ++ [c])) % 128 + 128 = b.toNat := by omega
    have e2 : (b.toNat % 128 + 128 * lev (pre ++ [c])) / 128 = lev (pre ++ [c]) := by omega
    rw [e1, e2, i1]
    simp

theorem uv_lev {l : List UInt8} (h : IsNum l) : uvarint (lev l) = l := by
  obtain ⟨pre, c, rfl, h1, h2, h3⟩ := h
  exact (uv_lev_aux pre c h1 h2 h3).1

theorem uv_inj {x y : Nat} (h : uvarint x = uvarint y) : x = y := by
  rw [← lev_uv x, h, lev_uv]

/-! ### The front of bytes -/

/-- How many bytes from the front are 128 or more, ten at most. -/
def cnt (l : List UInt8) : Nat := ((l.take 10).takeWhile fun b => decide (128 ≤ b.toNat)).length

/-- May a number's last byte be c, with k ahead of it? -/
def endsB (c k : Nat) : Bool := decide (k = 0) || (decide (c ≠ 0) && (decide (k < 9) || decide (c = 1)))

/-- The number at the front, how many bytes it has, the error's number. -/
def rd (l : List UInt8) : Nat × Nat × Nat :=
  if cnt l = 10 then (0, 0, 8)
  else if cnt l = l.length then (0, 0, 10)
  else if endsB (l[cnt l]?.getD 0).toNat (cnt l) then (lev (l.take (cnt l + 1)), cnt l + 1, 0) else (0, 0, 8)

theorem cnt_le10 (l : List UInt8) : cnt l ≤ 10 := by
  unfold cnt
  have h1 := (List.takeWhile_sublist (l := l.take 10) (fun b => decide (128 ≤ b.toNat))).length_le
  have h2 : (l.take 10).length ≤ 10 := List.length_take_le _ _
  omega

theorem cnt_le (l : List UInt8) : cnt l ≤ l.length := by
  unfold cnt
  have h1 := (List.takeWhile_sublist (l := l.take 10) (fun b => decide (128 ≤ b.toNat))).length_le
  have h2 : (l.take 10).length ≤ l.length := List.length_take_le' _ _
  omega

/-- All bytes ahead of place cnt are 128 or more. -/
theorem cnt_all (l : List UInt8) : ∀ j, j < cnt l → 128 ≤ (l[j]?.getD 0).toNat := by
  intro j hj
  have hj2 := hj
  unfold cnt at hj
  have hm := List.getElem_mem hj
  have h1 := List.all_takeWhile (p := fun b : UInt8 => decide (128 ≤ b.toNat)) (l := l.take 10)
  have h2 := List.all_eq_true.1 h1 _ hm
  have h3 : ((l.take 10).takeWhile fun b => decide (128 ≤ b.toNat)) <+: l := (List.takeWhile_prefix _).trans (List.take_prefix _ _)
  have h4 := h3.getElem hj
  have hl : j < l.length := by have := cnt_le l; omega
  rw [List.getElem?_eq_getElem hl, Option.getD_some, ← h4]
  simpa using h2

theorem cnt_is {pre : List UInt8} {c : UInt8} {s : List UInt8} (h1 : ∀ b ∈ pre, 128 ≤ b.toNat) (h2 : c.toNat < 128) (h3 : pre.length ≤ 9) : cnt (pre ++ c :: s) = pre.length := by
  unfold cnt
  have e : (pre ++ c :: s).take 10 = pre ++ c :: s.take (9 - pre.length) := by
    rw [List.take_append, List.take_of_length_le (by omega)]
    congr 1
    rw [show 10 - pre.length = (9 - pre.length) + 1 by omega, List.take_succ_cons]
  rw [e, List.takeWhile_append_of_pos (by intro b hb; simpa using h1 b hb), List.takeWhile_cons_of_neg (by simp; omega)]
  simp

/-- Nothing but bytes of 128 or more, up to ten. -/
theorem cnt_full {l : List UInt8} (h1 : ∀ b ∈ l, 128 ≤ b.toNat) (h3 : l.length ≤ 10) : cnt l = l.length := by
  unfold cnt
  rw [List.take_of_length_le h3]
  have := List.takeWhile_append_of_pos (p := fun b : UInt8 => decide (128 ≤ b.toNat)) (l₁ := l) (l₂ := []) (by intro b hb; simpa using h1 b hb)
  simp only [List.append_nil, List.takeWhile_nil] at this
  rw [this]

/-- The first k bytes are 128 or more and the next one is not: cnt is k. -/
theorem cnt_at {l : List UInt8} {k : Nat} (h1 : ∀ j, j < k → 128 ≤ (l[j]?.getD 0).toNat) (h : k < l.length) (h2 : (l[k]?.getD 0).toNat < 128) (h3 : k ≤ 9) : cnt l = k := by
  have e : l = l.take k ++ l[k] :: l.drop (k + 1) := by
    rw [← List.drop_eq_getElem_cons h, List.take_append_drop]
  have hk : (l.take k).length = k := by simp; omega
  have hall : ∀ b ∈ l.take k, 128 ≤ b.toNat := by
    intro b hb
    obtain ⟨j, hj, rfl⟩ := List.getElem_of_mem hb
    have := h1 j (by omega)
    rw [List.getElem?_eq_getElem (by omega), Option.getD_some] at this
    rw [List.getElem_take]
    exact this
  rw [List.getElem?_eq_getElem h, Option.getD_some] at h2
  have := cnt_is (pre := l.take k) (c := l[k]) (s := l.drop (k + 1)) hall h2 (by omega)
  rw [← e, hk] at this
  exact this

theorem cnt_ge {l : List UInt8} {k : Nat} (h1 : ∀ j, j < k → 128 ≤ (l[j]?.getD 0).toNat) (h : k ≤ l.length) (h3 : k ≤ 10) : k ≤ cnt l := by
  apply Classical.byContradiction
  intro hn
  have hc : cnt l < k := by omega
  -- the byte at place cnt is below 128
  have hl : cnt l < l.length := by omega
  have hge := h1 (cnt l) hc
  have : (l.take 10).takeWhile (fun b => decide (128 ≤ b.toNat)) = l.take (cnt l) := by
    have h3 : ((l.take 10).takeWhile fun b => decide (128 ≤ b.toNat)) <+: l := (List.takeWhile_prefix _).trans (List.take_prefix _ _)
    have := List.prefix_iff_eq_take.1 h3
    exact this
  have hd : (l.take 10).dropWhile (fun b => decide (128 ≤ b.toNat)) = (l.take 10).drop (cnt l) := by
    have h := List.takeWhile_append_dropWhile (p := fun b : UInt8 => decide (128 ≤ b.toNat)) (l := l.take 10)
    have h' := List.take_append_drop (cnt l) (l.take 10)
    have e : (l.take 10).take (cnt l) = l.take (cnt l) := by rw [List.take_take]; congr 1; omega
    rw [e] at h'
    rw [this] at h
    exact List.append_cancel_left (h.trans h'.symm)
  have hlen : cnt l < (l.take 10).length := by simp; omega
  have hcons := List.drop_eq_getElem_cons hlen
  have hh := List.head?_dropWhile_not (fun b : UInt8 => decide (128 ≤ b.toNat)) (l.take 10)
  rw [hd, hcons] at hh
  simp only [List.head?_cons, List.getElem_take] at hh
  rw [List.getElem?_eq_getElem hl, Option.getD_some] at hge
  simp at hh
  omega

theorem lev_take_succ (l : List UInt8) (k : Nat) (h : k < l.length) : lev (l.take (k + 1)) = lev (l.take k) + 128 ^ k * ((l[k]?.getD 0).toNat % 128) := by
  have e : l.take (k + 1) = l.take k ++ [l[k]] := by rw [List.take_succ_eq_append_getElem h]
  rw [e, lev_append, List.getElem?_eq_getElem h, Option.getD_some]
  have hk : (l.take k).length = k := by simp; omega
  rw [hk]
  simp [lev]

theorem lev_take_lt (l : List UInt8) (k : Nat) : lev (l.take k) < 128 ^ k := by
  refine Nat.lt_of_lt_of_le (lev_lt _) (Nat.pow_le_pow_right (by decide) ?_)
  exact List.length_take_le _ _

/-- What is read lies within what was written. -/
theorem rd_bound (l : List UInt8) : (rd l).2.1 ≤ l.length ∧ (rd l).2.1 ≤ 10 ∧ (rd l).1 < 18446744073709551616 ∧ ((rd l).2.2 = 0 ∨ (rd l).2.2 = 8 ∨ (rd l).2.2 = 10) ∧ ((rd l).2.2 ≠ 0 → (rd l).1 = 0 ∧ (rd l).2.1 = 0) := by
  have h1 := cnt_le l
  have h2 := cnt_le10 l
  unfold rd
  split
  · exact ⟨Nat.zero_le _, Nat.zero_le _, by decide, by simp, by simp⟩
  · split
    · exact ⟨Nat.zero_le _, Nat.zero_le _, by decide, by simp, by simp⟩
    · split
      · rename_i a b c
        refine ⟨by simp only []; omega, by simp only []; omega, ?_, by simp, by simp⟩
        simp only []
        have hlt : cnt l < l.length := by omega
        rw [lev_take_succ l _ hlt]
        have h3 := lev_take_lt l (cnt l)
        have hc : (l[cnt l]?.getD 0).toNat < 256 := UInt8.toNat_lt _
        by_cases h9 : cnt l = 9
        · rw [h9] at h3 c ⊢
          simp [endsB] at c
          have : (128 : Nat) ^ 9 = 9223372036854775808 := by decide
          rw [this] at h3 ⊢
          have c2 : (l[9]?.getD 0).toNat = 1 := by
            rw [c.2]
          rw [c2]
          omega
        · have h8 : (128 : Nat) ^ cnt l ≤ 128 ^ 8 := Nat.pow_le_pow_right (by decide) (by omega)
          have h8' : (128 : Nat) ^ 8 = 72057594037927936 := by decide
          rw [h8'] at h8
          have h4 : 128 ^ cnt l * ((l[cnt l]?.getD 0).toNat % 128) ≤ 128 ^ cnt l * 127 := Nat.mul_le_mul_left _ (by omega)
          omega
      · exact ⟨Nat.zero_le _, Nat.zero_le _, by decide, by simp, by simp⟩

theorem endsB_iff (c k : Nat) : endsB c k = true ↔ (k = 0 ∨ (c ≠ 0 ∧ (k < 9 ∨ c = 1))) := by
  simp [endsB]

/-- P1.3: bytes that are read are the number's own. -/
theorem uv_rd {l : List UInt8} (h : (rd l).2.2 = 0) : uvarint (rd l).1 = l.take (rd l).2.1 := by
  have h1 := cnt_le l
  have h2 := cnt_le10 l
  unfold rd at h ⊢
  split
  · rename_i a; simp [a] at h
  · rename_i a
    split
    · rename_i b
      rw [if_neg a, if_pos b] at h
      simp at h
    · rename_i b
      split
      · rename_i c
        simp only []
        have hlt : cnt l < l.length := by omega
        have e : l.take (cnt l + 1) = l.take (cnt l) ++ [l[cnt l]] := by rw [List.take_succ_eq_append_getElem hlt]
        have hc := cnt_all l
        apply uv_lev
        refine ⟨l.take (cnt l), l[cnt l], e, ?_, ?_, ?_⟩
        · intro b hb
          obtain ⟨j, hj, rfl⟩ := List.getElem_of_mem hb
          have hj' : j < cnt l := by have := List.length_take_le (cnt l) l; omega
          have := hc j hj'
          rw [List.getElem?_eq_getElem (by omega), Option.getD_some] at this
          rw [List.getElem_take]
          exact this
        · apply Classical.byContradiction
          intro hn
          have := cnt_ge (l := l) (k := cnt l + 1) (by
            intro j hj
            by_cases hjc : j < cnt l
            · exact hc j hjc
            · have : j = cnt l := by omega
              rw [this, List.getElem?_eq_getElem hlt, Option.getD_some]
              omega) (by omega) (by omega)
          omega
        · intro hne
          rw [endsB_iff] at c
          rw [List.getElem?_eq_getElem hlt, Option.getD_some] at c
          rcases c with c | c
          · rw [c] at hne; simp at hne
          · exact c.1
      · rename_i c; simp [a, b, c] at h

/-- P1.3: what was written is read as itself, whatever stands behind. -/
theorem rd_uv (x : Nat) (h : x < 18446744073709551616) (s : List UInt8) : rd (uvarint x ++ s) = (x, (uvarint x).length, 0) := by
  obtain ⟨⟨pre, c, he, h1, h2, h3⟩, _⟩ := uv_isNum x
  have hlen := Lib.uvarint_length64 h
  have hl : (uvarint x).length = pre.length + 1 := by rw [he]; simp
  have hx := lev_uv x
  rw [he] at hx
  have e : uvarint x ++ s = pre ++ c :: s := by rw [he]; simp
  have hcnt := cnt_is (s := s) h1 h2 (by omega : pre.length ≤ 9)
  have hget : (pre ++ c :: s)[pre.length]?.getD 0 = c := by simp
  rw [e]
  unfold rd
  rw [hcnt, if_neg (by omega), if_neg (by simp), hget]
  have hends : endsB c.toNat pre.length = true := by
    rw [endsB_iff]
    by_cases hp : pre = []
    · left; simp [hp]
    · right
      refine ⟨h3 hp, ?_⟩
      by_cases h9 : pre.length < 9
      · exact .inl h9
      · right
        have h9 : pre.length = 9 := by omega
        rw [lev_append, h9] at hx
        simp only [lev] at hx
        have : (128 : Nat) ^ 9 = 9223372036854775808 := by decide
        rw [this] at hx
        have := h3 hp
        omega
  rw [if_pos hends, hl]
  have ht : (pre ++ c :: s).take (pre.length + 1) = pre ++ [c] := by
    rw [List.take_append, List.take_of_length_le (by omega)]
    simp
  rw [ht, hx]

/-- P1.3: what is cut off is short. -/
theorem rd_cut (x : Nat) (h : x < 18446744073709551616) (i : Nat) (hi : i < (uvarint x).length) : rd ((uvarint x).take i) = (0, 0, 10) := by
  obtain ⟨⟨pre, c, he, h1, h2, h3⟩, _⟩ := uv_isNum x
  have hlen := Lib.uvarint_length64 h
  have hl : (uvarint x).length = pre.length + 1 := by rw [he]; simp
  have e : (uvarint x).take i = pre.take i := by
    rw [he, List.take_append]
    have : i - pre.length = 0 := by omega
    rw [this]; simp
  rw [e]
  have hc : cnt (pre.take i) = (pre.take i).length := cnt_full (fun b hb => h1 b (List.mem_of_mem_take hb)) (by simp; omega)
  have hli : (pre.take i).length ≤ 9 := by simp; omega
  unfold rd
  rw [if_neg (by omega), if_pos hc]

/-! ### The other way to say it: a number's bytes are none but its own -/

/-- What the bytes up to the first one below 128 are worth, within 64 bits, has these bytes just if they are a number's. -/
theorem uv_mod_iff {l : List UInt8} (hc : cnt l < l.length) (h10 : cnt l ≠ 10) :
    (uvarint (lev (l.take (cnt l + 1)) % 18446744073709551616) = l.take (cnt l + 1)) ↔ endsB (l[cnt l]?.getD 0).toNat (cnt l) = true := by
  have h2 := cnt_le10 l
  have hall := cnt_all l
  have e : l.take (cnt l + 1) = l.take (cnt l) ++ [l[cnt l]] := by rw [List.take_succ_eq_append_getElem hc]
  have hk : (l.take (cnt l)).length = cnt l := by simp; omega
  constructor
  · intro h
    rw [endsB_iff]
    by_cases h0 : cnt l = 0
    · exact .inl h0
    · right
      obtain ⟨⟨pre, c, he, h1, h4, h3⟩, _⟩ := uv_isNum (lev (l.take (cnt l + 1)) % 18446744073709551616)
      have hx := lev_uv (lev (l.take (cnt l + 1)) % 18446744073709551616)
      rw [h, e] at he
      have hp : l.take (cnt l) = pre ∧ [l[cnt l]] = [c] := List.append_inj' he rfl
      have hcc : l[cnt l] = c := by simpa using hp.2
      have hpl : pre.length = cnt l := by rw [← hp.1]; exact hk
      rw [List.getElem?_eq_getElem hc, Option.getD_some, hcc]
      refine ⟨h3 (by intro hn; rw [hn] at hpl; simp at hpl; omega), ?_⟩
      by_cases h9 : cnt l < 9
      · exact .inl h9
      · right
        have h9 : cnt l = 9 := by omega
        rw [h, e, lev_append, hk, hcc] at hx
        simp only [lev] at hx
        rw [h9] at hx
        have hpw : (128 : Nat) ^ 9 = 9223372036854775808 := by decide
        rw [hpw] at hx
        have hne := h3 (by intro hn; rw [hn] at hpl; simp at hpl; omega)
        have : (lev (List.take 9 l) + 9223372036854775808 * (c.toNat % 128 + 128 * 0)) < 18446744073709551616 := by
          rw [hx]; exact Nat.mod_lt _ (by decide)
        omega
  · intro h
    have hr : rd l = (lev (l.take (cnt l + 1)), cnt l + 1, 0) := by
      unfold rd
      rw [if_neg h10, if_neg (by omega), if_pos h]
    have hb := rd_bound l
    have hu := uv_rd (l := l) (by rw [hr])
    rw [hr] at hb hu
    simp only [] at hb hu
    rw [Nat.mod_eq_of_lt hb.2.2.1]
    exact hu

/-! ### How many bytes a number has -/

theorem uv_len_lt (x : Nat) : x < 128 ^ (uvarint x).length := by
  have := lev_lt (uvarint x)
  rwa [lev_uv] at this

theorem uv_len_ge (x : Nat) (h : 1 < (uvarint x).length) : 128 ^ ((uvarint x).length - 1) ≤ x := by
  obtain ⟨⟨pre, c, he, h1, h2, h3⟩, _⟩ := uv_isNum x
  have hl : (uvarint x).length = pre.length + 1 := by rw [he]; simp
  have hx := lev_uv x
  rw [he, lev_append] at hx
  simp only [lev] at hx
  have hc := h3 (by intro hn; rw [hn] at hl; simp at hl; omega)
  have e : (uvarint x).length - 1 = pre.length := by omega
  rw [e]
  have : 128 ^ pre.length * 1 ≤ 128 ^ pre.length * (c.toNat % 128 + 128 * 0) := Nat.mul_le_mul_left _ (by omega)
  omega

/-- A greater number never has fewer bytes. -/
theorem uv_len_mono {x y : Nat} (h : x ≤ y) : (uvarint x).length ≤ (uvarint y).length := by
  apply Classical.byContradiction
  intro hn
  have hp := Lib.uvarint_pos y
  have h1 := uv_len_ge x (by omega)
  have h2 := uv_len_lt y
  have h3 : 128 ^ (uvarint y).length ≤ 128 ^ ((uvarint x).length - 1) := Nat.pow_le_pow_right (by decide) (by omega)
  omega

theorem bitLenAux_bound : ∀ (f x : Nat), x < 2 ^ f → x < 2 ^ bitLenAux f x ∧ (x ≠ 0 → 2 ^ bitLenAux f x ≤ 2 * x)
  | 0, x, h => by simp at h; subst h; simp [bitLenAux]
  | f + 1, x, h => by
    by_cases h0 : x = 0
    · subst h0; simp [bitLenAux]
    · have hlt : x / 2 < 2 ^ f := by rw [Nat.pow_succ] at h; omega
      obtain ⟨i1, i2⟩ := bitLenAux_bound f (x / 2) hlt
      rw [bitLenAux, if_neg h0, Nat.add_comm, Nat.pow_succ]
      refine ⟨by omega, fun _ => ?_⟩
      by_cases h1 : x / 2 = 0
      · have hx : x = 1 := by omega
        subst hx
        have : bitLenAux f (1 / 2) = 0 := by
          cases f <;> simp [bitLenAux]
        rw [this]
        decide
      · have := i2 h1
        omega

theorem or_one (x : Nat) : x ||| 1 = if x % 2 = 0 then x + 1 else x := by
  have h := Nat.or_mod_two_pow (a := x) (b := 1) (n := 1)
  have hd : (x ||| 1) / 2 = x / 2 := by
    have := Nat.or_div_two_pow (a := x) (b := 1) (n := 1)
    simpa using this
  have hm : (x ||| 1) % 2 = 1 := by
    rw [Nat.or_mod_two_eq_one]
    right; rfl
  split <;> omega

/-- P1.1: how many bytes: by the number's bits. -/
theorem size_eq (x : Nat) (h : x < 18446744073709551616) : (bitLen (x ||| 1) + 6) / 7 = (uvarint x).length := by
  have ho := or_one x
  have hlt : x ||| 1 < 2 ^ 64 := Nat.or_lt_two_pow (by simpa using h) (by decide)
  have hb := bitLenAux_bound 64 (x ||| 1) hlt
  have hne : x ||| 1 ≠ 0 := by
    have := Nat.right_le_or (n := x) (m := 1)
    omega
  have hb2 := hb.2 hne
  have hb1 := hb.1
  have hbl : bitLenAux 64 (x ||| 1) = bitLen (x ||| 1) := rfl
  rw [hbl] at hb1 hb2
  generalize hB : bitLen (x ||| 1) = B at *
  generalize hL : (uvarint x).length = L at *
  have hL1 : 1 ≤ L := by rw [← hL]; exact Lib.uvarint_pos x
  have hu := uv_len_lt x
  rw [hL] at hu
  have e128 : ∀ k, (128 : Nat) ^ k = 2 ^ (7 * k) := fun k => by rw [Nat.pow_mul]
  -- B ≤ 7 L
  have hB1 : B ≤ 7 * L := by
    apply Classical.byContradiction
    intro hn
    have h1 : 2 ^ (7 * L + 1) ≤ 2 ^ B := Nat.pow_le_pow_right (by decide) (by omega)
    rw [Nat.pow_succ] at h1
    have h2 := e128 L
    have h3 : x ||| 1 < 2 ^ (7 * L) := by
      rw [← h2]
      have h4 : (128 : Nat) ^ L % 2 = 0 := by
        obtain ⟨k, rfl⟩ : ∃ k, L = k + 1 := ⟨L - 1, by omega⟩
        rw [Nat.pow_succ]; omega
      rw [ho]
      split <;> omega
    omega
  have hB2 : 7 * (L - 1) < B := by
    apply Classical.byContradiction
    intro hn
    have h1 : 2 ^ B ≤ 2 ^ (7 * (L - 1)) := Nat.pow_le_pow_right (by decide) (by omega)
    by_cases hL2 : 1 < L
    · have h2 := uv_len_ge x (by omega)
      rw [hL, e128] at h2
      have h3 : x ≤ x ||| 1 := Nat.left_le_or
      omega
    · have hx1 : 1 ≤ x ||| 1 := by omega
      have : L = 1 := by omega
      subst this
      have h4 : (2 : Nat) ^ (7 * (1 - 1)) = 1 := by decide
      rw [h4] at h1
      omega
  omega

/-! ### Whole numbers -/

/-- The whole number that stands as u. -/
def zag (u : Nat) : Int := if u % 2 = 0 then ((u / 2 : Nat) : Int) else -((u / 2 : Nat) : Int) - 1

theorem zag_zig (x : Int) : zag (zigzag x) = x := by
  unfold zag zigzag
  split <;> split <;> omega

theorem zig_zag (u : Nat) : zigzag (zag u) = u := by
  unfold zag zigzag
  split <;> split <;> omega

theorem zag_range (u : Nat) (h : u < 18446744073709551616) : -9223372036854775808 ≤ zag u ∧ zag u ≤ 9223372036854775807 := by
  unfold zag
  split <;> omega

theorem zig_inj {x y : Int} (h : zigzag x = zigzag y) : x = y := by
  rw [← zag_zig x, h, zag_zig]

/-! ### The bits by which num computes them -/

theorem xor_comm_bits (k : IntKind) (a b : Int) : bits .xor k a b = bits .xor k b a := by
  show k.wrap ((BitVec.ofInt _ a ^^^ BitVec.ofInt _ b).toNat : Int) = k.wrap ((BitVec.ofInt _ b ^^^ BitVec.ofInt _ a).toNat : Int)
  rw [BitVec.xor_comm]


theorem pow128 (k : Nat) : (2 : Int) ^ (7 * k) = ((128 ^ k : Nat) : Int) := by
  rw [Int.natCast_pow, Int.pow_mul]
  rfl

/-- 'x | uint64(c) << (7 * k)', x below 128 ^ k: the sum. -/
theorem or_add (x c k : Nat) (hx : x < 128 ^ k) (hx64 : x < 18446744073709551616) (h : c * 128 ^ k < 18446744073709551616) :
    bits .or .u64 (x : Int) (IntKind.u64.wrap ((c : Int) * 2 ^ (7 * k))) = ((x + 128 ^ k * c : Nat) : Int) := by
  have e : (c : Int) * 2 ^ (7 * k) = ((c * 128 ^ k : Nat) : Int) := by rw [pow128, Int.natCast_mul]
  have hw : IntKind.u64.wrap ((c : Int) * 2 ^ (7 * k)) = ((c * 128 ^ k : Nat) : Int) := by
    have h64 : (2 : Int) ^ 64 = 18446744073709551616 := by decide
    rw [e]; exact wraps_u64 _ (by omega) (by omega)
  rw [hw]
  have h1 : ((x : Nat) : Int) < 2 ^ (7 * k) := by rw [pow128]; omega
  have h64 : (2 : Int) ^ 64 = 18446744073709551616 := by decide
  have := bits_join_low .u64 64 (by decide) wraps_u64 (7 * k) (x : Int) ((c * 128 ^ k : Nat) : Int) (by omega) h1 (by omega) (by omega) (by rw [← e, Int.mul_emod_left]) (by omega)
  rw [this, Nat.mul_comm c]
  omega

theorem or_range (a b : Nat) (ha : a < 18446744073709551616) (hb : b < 18446744073709551616) :
    0 ≤ bits .or .u64 (a : Int) (b : Int) ∧ bits .or .u64 (a : Int) (b : Int) ≤ 18446744073709551615 := by
  have h := (bits_nat .u64 64 (by decide) wraps_u64 a b (by simpa using ha) (by simpa using hb)).2
  have hlt : a ||| b < 2 ^ 64 := Nat.or_lt_two_pow (by simpa using ha) (by simpa using hb)
  rw [h]
  omega
end Go.Proofs.YtepnofklmdofmaaGreatDoor.Num
