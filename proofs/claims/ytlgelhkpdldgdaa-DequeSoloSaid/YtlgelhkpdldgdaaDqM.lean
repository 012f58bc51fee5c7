/-
  Layer 16, plain: a deque's cells, acts, and what a step of each does.
-/
import Derived.Test.YtlgelhkpdldgdaaCeE
namespace Go.Proofs.Ytlgelhkpdldgdaa
open Go.RowKit
set_option linter.unusedVariables false
set_option linter.unusedSimpArgs false

namespace Dq
/-- A cell; a cell is written. -/
def ld (xs : List Int) (i : Int) : Int := xs.getD i.toNat 0
def up (xs : List Int) (i v : Int) : List Int := xs.set i.toNat v
def pl (w n i : Int) : Int := w + 1 + i % n
theorem up_len (xs : List Int) (i v : Int) : (up xs i v).length = xs.length := by simp [up]
theorem ld_up {xs : List Int} {i j v : Int} (hi : 0 ≤ i) (hj : 0 ≤ j) (hl : i < xs.length) : ld (up xs i v) j = if j = i then v else ld xs j := by
  unfold ld up
  rw [List.getD_eq_getElem?_getD, List.getD_eq_getElem?_getD, List.getElem?_set]
  by_cases h : i.toNat = j.toNat
  · have : j = i := by omega
    subst this
    rw [if_pos rfl, if_pos (by omega), if_pos rfl]
    rfl
  · rw [if_neg h, if_neg (by omega)]
theorem ld_up_ne {xs : List Int} {i j v : Int} (hi : 0 ≤ i) (hj : 0 ≤ j) (h : j ≠ i) : ld (up xs i v) j = ld xs j := by
  unfold ld up
  rw [List.getD_eq_getElem?_getD, List.getD_eq_getElem?_getD, List.getElem?_set, if_neg (by omega)]
theorem ld_app {xs ys : List Int} {j : Int} (hj : 0 ≤ j) (h : j < xs.length) : ld (xs ++ ys) j = ld xs j := by
  unfold ld
  rw [List.getD_eq_getElem?_getD, List.getD_eq_getElem?_getD, List.getElem?_append_left (by omega)]
theorem pl_in {w n i : Int} (hn : 1 ≤ n) : w + 1 ≤ pl w n i ∧ pl w n i ≤ w + n := by
  have h1 := Int.emod_nonneg i (show n ≠ 0 by omega)
  have h2 := Int.emod_lt_of_pos i (show 0 < n by omega)
  unfold pl
  omega
theorem pl_inj {w n i j : Int} (hn : 1 ≤ n) (h : pl w n i = pl w n j) (h1 : i - j < n) (h2 : j - i < n) : i = j := by
  have e : i % n = j % n := by unfold pl at h; omega
  have e2 := Int.emod_emod_of_dvd
  have d : n ∣ i - j := Int.dvd_of_emod_eq_zero (by rw [Int.sub_emod, e, Int.sub_self, Int.zero_emod])
  obtain ⟨c, hc⟩ := d
  have hc0 : c = 0 := by
    rcases Int.lt_trichotomy c 0 with h0 | h0 | h0
    · have : n * c ≤ n * (-1) := Int.mul_le_mul_of_nonneg_left (by omega) (by omega)
      omega
    · exact h0
    · have : n * 1 ≤ n * c := Int.mul_le_mul_of_nonneg_left (by omega) (by omega)
      omega
  subst hc0
  omega

/-- An act: its kind (0 push, 1 pop, 2 steal), how far it is, what it has read; what it came to; what is pushed. -/
structure A where
  k : Nat
  pc : Nat
  b : Int
  t : Int
  w : Int
  n : Int
  nw : Int
  nc : Int
  i : Int
  rd : Int
  told : Int
  got : Int
  V : Int
def A.new (k : Nat) (V : Int) : A := ⟨k, 0, 0, 0, 0, 0, 0, 0, 0, 0, 0, 0, V⟩
/-- More of a row of places. -/
def moreX (xs : List Int) (n : Int) : List Int := xs ++ (2 * n) :: List.replicate (2 * n).toNat 0
def room (xs : List Int) (n : Int) : Bool := decide ((xs.length : Int) + 1 + 2 * n ≤ 65536)
def push (F : Int) (xs : List Int) (a : A) : A × List Int × Nat × Int :=
  match a.pc with
  | 0 => ({a with b := ld xs (F + 1), pc := 1}, xs, 1, 0)
  | 1 => ({a with t := ld xs F, pc := 2}, xs, 1, 0)
  | 2 => ({a with w := ld xs (F + 2), pc := 3}, xs, 1, 0)
  | 3 => ({a with n := ld xs a.w, pc := if ld xs a.w ≤ a.b - a.t then 10 else 20}, xs, 1, 0)
  | 10 => if room xs a.n then ({a with nw := xs.length, nc := 2 * a.n, i := a.t, pc := if a.t < a.b then 11 else 13}, moreX xs a.n, 0, 0) else (a, xs, 0, 6)
  | 11 => ({a with rd := ld xs (pl a.w a.n a.i), pc := 12}, xs, 1, 0)
  | 12 => ({a with i := a.i + 1, pc := if a.i + 1 < a.b then 11 else 13}, up xs (pl a.nw a.nc a.i) a.rd, 1, 0)
  | 13 => ({a with w := a.nw, n := a.nc, pc := 20}, up xs (F + 2) a.nw, 1, 0)
  | 20 => ({a with pc := 21}, up xs (pl a.w a.n a.b) a.V, 1, 0)
  | _ => ({a with told := 1, got := 0}, up xs (F + 1) (a.b + 1), 1, 0)
def pop (F : Int) (xs : List Int) (a : A) : A × List Int × Nat × Int :=
  match a.pc with
  | 0 => ({a with b := ld xs (F + 1), pc := 1}, xs, 1, 0)
  | 1 => ({a with w := ld xs (F + 2), pc := 2}, xs, 1, 0)
  | 2 => ({a with pc := 3}, up xs (F + 1) (a.b - 1), 1, 0)
  | 3 => ({a with t := ld xs F, pc := if a.b - 1 < ld xs F then 4 else 5}, xs, 1, 0)
  | 4 => ({a with told := 3, got := 0}, up xs (F + 1) a.b, 1, 0)
  | 5 => ({a with n := ld xs a.w, pc := 6}, xs, 1, 0)
  | 6 => if a.t < a.b - 1 then ({a with rd := ld xs (pl a.w a.n (a.b - 1)), told := 2, got := ld xs (pl a.w a.n (a.b - 1))}, xs, 1, 0) else ({a with rd := ld xs (pl a.w a.n (a.b - 1)), pc := 7}, xs, 1, 0)
  | 7 => if ld xs F = a.t then ({a with i := 1, pc := 8}, up xs F (a.t + 1), 1, 0) else ({a with pc := 8}, xs, 1, 0)
  | _ => if a.i = 1 then ({a with told := 2, got := a.rd}, up xs (F + 1) a.b, 1, 0) else ({a with told := 3, got := 0}, up xs (F + 1) a.b, 1, 0)
def steal (F : Int) (xs : List Int) (a : A) : A × List Int × Nat × Int :=
  match a.pc with
  | 0 => ({a with t := ld xs F, pc := 1}, xs, 1, 0)
  | 1 => if ld xs (F + 1) ≤ a.t then ({a with b := ld xs (F + 1), told := 3, got := 0}, xs, 1, 0) else ({a with b := ld xs (F + 1), pc := 2}, xs, 1, 0)
  | 2 => ({a with w := ld xs (F + 2), pc := 3}, xs, 1, 0)
  | 3 => ({a with n := ld xs a.w, pc := 4}, xs, 1, 0)
  | 4 => ({a with rd := ld xs (pl a.w a.n a.t), pc := 5}, xs, 1, 0)
  | _ => if ld xs F = a.t then ({a with told := 2, got := a.rd}, up xs F (a.t + 1), 1, 0) else ({a with told := 4, got := 0}, xs, 1, 0)
def acts (F : Int) (xs : List Int) (a : A) : A × List Int × Nat × Int :=
  match a.k with
  | 0 => push F xs a
  | 1 => pop F xs a
  | _ => steal F xs a

/-- Places that are there. -/
structure RowOk (xs : List Int) (w n : Int) : Prop where
  w0 : 0 ≤ w
  n1 : 1 ≤ n
  lt : w + n < xs.length
theorem RowOk.place {xs : List Int} {w n : Int} (h : RowOk xs w n) (i : Int) : 0 ≤ pl w n i ∧ pl w n i < xs.length := by
  have := pl_in (w := w) (i := i) h.n1
  have := h.w0
  have := h.lt
  omega
def Sm (x : Int) : Prop := -1 ≤ x ∧ x ≤ 1000000
/-- What an act has read is such that its next step asks for cells that are there. -/
structure Ok (F : Int) (xs : List Int) (a : A) : Prop where
  F0 : 0 ≤ F
  F3 : F + 3 ≤ xs.length
  len : xs.length ≤ 65536
  b : Sm a.b
  t : Sm a.t
  i : Sm a.i
  push : a.k = 0 → (a.pc = 3 → 0 ≤ a.w ∧ a.w < xs.length ∧ Sm (ld xs a.w)) ∧ (a.pc = 10 → 1 ≤ a.n ∧ a.n ≤ 65536) ∧ (a.pc = 11 → RowOk xs a.w a.n ∧ 0 ≤ a.i) ∧ (a.pc = 12 → RowOk xs a.nw a.nc ∧ 0 ≤ a.i) ∧ (a.pc = 20 → RowOk xs a.w a.n ∧ 0 ≤ a.b) ∧ (a.pc ≤ 3 ∨ 10 ≤ a.pc ∧ a.pc ≤ 13 ∨ a.pc = 20 ∨ a.pc = 21)
  pop : a.k = 1 → (a.pc = 5 → 0 ≤ a.w ∧ a.w < xs.length) ∧ (a.pc = 6 → RowOk xs a.w a.n ∧ 1 ≤ a.b) ∧ (a.i = 0 ∨ a.i = 1) ∧ (a.pc = 4 → a.i = 0) ∧ (a.pc = 7 → a.i = 0) ∧ a.pc ≤ 8
  steal : 2 ≤ a.k → a.k = 2 ∧ (a.pc = 3 → 0 ≤ a.w ∧ a.w < xs.length) ∧ (a.pc = 4 → RowOk xs a.w a.n ∧ 0 ≤ a.t) ∧ a.pc ≤ 5
end Dq
end Go.Proofs.Ytlgelhkpdldgdaa
