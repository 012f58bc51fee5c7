/-
  Layer 11, plainly: what is wrong with an op, a function, a program.
-/
import Derived.Test.YtepnofklmdofmaaGreatDoorCdM
namespace Go.Proofs.YtepnofklmdofmaaGreatDoor
open Go.RowKit

namespace Ck
open Cd
/-- Are an op's registers below n? (Of a fork: D alone.) -/
def regsOk (o : OpV) (n : Int) : Bool := (!hD o.k || decide (o.d < n)) && ((!(hA o.k && !decide (o.k = 12)) || decide (o.a < n)) && (!hB o.k || decide (o.b < n)))
def inN (x : Int) (n : Nat) : Bool := decide (0 ≤ x) && decide (x < n)
def tgtOk (np : Nat) (f : FnV) (o : OpV) : Bool := if o.k = 10 ∨ o.k = 11 then inN o.n f.ops.length else if o.k = 12 then inN o.n np else true
/-- How many arguments the function has that an op names. -/
def argN (p : List FnV) (o : OpV) : Int := (p[o.n.toNat]?.getD default).args
def argOk (p : List FnV) (f : FnV) (o : OpV) : Bool := if o.k = 12 then (decide (argN p o ≤ 0) || decide (o.a + argN p o ≤ f.regs)) else true
def opE (p : List FnV) (f : FnV) (o : OpV) : Nat := if regsOk o f.regs then (if tgtOk p.length f o then (if argOk p f o then 0 else 111) else 112) else 111
/-- The first op that is wrong: what, and which. -/
def opsE (p : List FnV) (f : FnV) : List OpV → Nat → Nat × Nat
  | [], _ => (0, 0)
  | o :: l, k => if opE p f o = 0 then opsE p f l (k + 1) else (opE p f o, k)
def ends (k : Nat) : Bool := decide (k = 10) || decide (k = 14)
def endE (f : FnV) : Nat × Nat := match f.ops.getLast? with
  | none => (113, 0)
  | some o => if ends o.k then (0, 0) else (113, f.ops.length - 1)
def fnE (p : List FnV) (f : FnV) : Nat × Nat := if f.regs < f.args then (110, 0) else if (opsE p f f.ops 0).1 = 0 then endE f else opsE p f f.ops 0
def fnsE (p : List FnV) : List FnV → Nat → Nat × Nat × Nat
  | [], _ => (0, 0, 0)
  | f :: l, i => if (fnE p f).1 = 0 then fnsE p l (i + 1) else ((fnE p f).1, i, (fnE p f).2)
/-- A program's first fault: what, which function, which op. -/
def chk (p : List FnV) : Nat × Nat × Nat := if pok p then (if p = [] then (110, 0, 0) else fnsE p p 0) else (8, 0, 0)
theorem opsE_at {p : List FnV} {f : FnV} {l : List OpV} {k j : Nat} (h : ∀ i (hi : i < l.length), i < k → opE p f l[i] = 0) (hk : k < l.length) (he : opE p f l[k] ≠ 0) : opsE p f l j = (opE p f l[k], j + k) := by
  induction l generalizing k j with
  | nil => simp at hk
  | cons o l ih =>
    cases k with
    | zero =>
      have he' : opE p f o ≠ 0 := he
      unfold opsE
      rw [if_neg he']
      rfl
    | succ k =>
      have h0 : opE p f o = 0 := h 0 (by simp) (by omega)
      unfold opsE
      rw [if_pos h0, ih (fun i hi hik => h (i + 1) (by simp; omega) (by omega)) (by simpa using hk) he]
      rw [show j + 1 + k = j + (k + 1) by omega]
      rfl
theorem opsE_no {p : List FnV} {f : FnV} {l : List OpV} {j : Nat} (h : ∀ i (hi : i < l.length), opE p f l[i] = 0) : opsE p f l j = (0, 0) := by
  induction l generalizing j with
  | nil => rfl
  | cons o l ih =>
    have h0 : opE p f o = 0 := h 0 (by simp)
    unfold opsE
    rw [if_pos h0]
    exact ih (fun i hi => h (i + 1) (by simp; omega))
theorem fnsE_at {p l : List FnV} {k j : Nat} (h : ∀ i (hi : i < l.length), i < k → (fnE p l[i]).1 = 0) (hk : k < l.length) (he : (fnE p l[k]).1 ≠ 0) : fnsE p l j = ((fnE p l[k]).1, j + k, (fnE p l[k]).2) := by
  induction l generalizing k j with
  | nil => simp at hk
  | cons o l ih =>
    cases k with
    | zero =>
      have he' : (fnE p o).1 ≠ 0 := he
      unfold fnsE
      rw [if_neg he']
      rfl
    | succ k =>
      have h0 : (fnE p o).1 = 0 := h 0 (by simp) (by omega)
      unfold fnsE
      rw [if_pos h0, ih (fun i hi hik => h (i + 1) (by simp; omega) (by omega)) (by simpa using hk) he]
      rw [show j + 1 + k = j + (k + 1) by omega]
      rfl
theorem fnsE_no {p l : List FnV} {j : Nat} (h : ∀ i (hi : i < l.length), (fnE p l[i]).1 = 0) : fnsE p l j = (0, 0, 0) := by
  induction l generalizing j with
  | nil => rfl
  | cons o l ih =>
    have h0 : (fnE p o).1 = 0 := h 0 (by simp)
    unfold fnsE
    rw [if_pos h0]
    exact ih (fun i hi => h (i + 1) (by simp; omega))
theorem opE_cases (p : List FnV) (f : FnV) (o : OpV) : opE p f o = 0 ∨ opE p f o = 111 ∨ opE p f o = 112 := by
  unfold opE
  split
  · split
    · split
      · exact .inl rfl
      · exact .inr (.inl rfl)
    · exact .inr (.inr rfl)
  · exact .inr (.inl rfl)
end Ck
end Go.Proofs.YtepnofklmdofmaaGreatDoor
