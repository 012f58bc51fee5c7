/-
  The plain facts of a reader: what a call makes of the bytes that are left, and of the fault. Imports nothing of the dump.
-/
import Derived.Test.YtepnofklmdofmaaGreatDoorNumMath
import Derived.Lib.Strings
namespace Go.Proofs.YtepnofklmdofmaaGreatDoor

/-- Whether x is one of xs. -/
def isOf (x : Nat) (xs : List Nat) : Bool := decide (x ∈ xs)
theorem isOf_yes {x : Nat} {xs : List Nat} (h : x ∈ xs) : isOf x xs = true := by unfold isOf; simpa using h
theorem isOf_no {x : Nat} {xs : List Nat} (h : x ∉ xs) : isOf x xs = false := by unfold isOf; simpa using h

namespace Wire
/-- A number taken from the front: the number, what is left, the fault. 'wrong': the fault of a number, and of how many bytes stand behind it. -/
def step (wrong : Nat → Nat → Nat) (s : ByteArray) (e : Nat) : Nat × ByteArray × Nat :=
  if e ≠ 0 then (0, s, e)
  else if (Num.rd s.data.toList).2.2 ≠ 0 then (0, s, (Num.rd s.data.toList).2.2)
  else if wrong (Num.rd s.data.toList).1 (s.size - (Num.rd s.data.toList).2.1) ≠ 0 then (0, s, wrong (Num.rd s.data.toList).1 (s.size - (Num.rd s.data.toList).2.1))
  else ((Num.rd s.data.toList).1, s.extract (Num.rd s.data.toList).2.1 s.size, 0)

theorem step_fault {wrong : Nat → Nat → Nat} {s : ByteArray} {e : Nat} (h : e ≠ 0) : step wrong s e = (0, s, e) := by
  unfold step; rw [if_pos h]
theorem step_bad {wrong : Nat → Nat → Nat} {s : ByteArray} {v q g : Nat} (hr : Num.rd s.data.toList = (v, q, g)) (h : g ≠ 0) : step wrong s 0 = (0, s, g) := by
  unfold step; rw [if_neg (by simp), hr, if_pos h]
theorem step_wrong {wrong : Nat → Nat → Nat} {s : ByteArray} {v q f : Nat} (hr : Num.rd s.data.toList = (v, q, 0)) (hw : wrong v (s.size - q) = f) (h : f ≠ 0) : step wrong s 0 = (0, s, f) := by
  unfold step; rw [if_neg (by simp), hr, if_neg (by simp)]; simp only []; rw [hw, if_pos h]
theorem step_ok {wrong : Nat → Nat → Nat} {s : ByteArray} {v q : Nat} (hr : Num.rd s.data.toList = (v, q, 0)) (hw : wrong v (s.size - q) = 0) : step wrong s 0 = (v, s.extract q s.size, 0) := by
  unfold step; rw [if_neg (by simp), hr, if_neg (by simp)]; simp only []; rw [hw, if_neg (by simp)]

/-- The faults of numbers: above a bound; out of two; none of these; more than there are bytes. -/
def wU (most : Nat) : Nat → Nat → Nat := fun x _ => if most < x then 9 else 0
def wI (least most : Int) : Nat → Nat → Nat := fun u _ => if Num.zag u < least ∨ most < Num.zag u then 9 else 0
def wT (xs : List Nat) : Nat → Nat → Nat := fun x _ => if isOf x xs then 0 else 8
def wC (most : Int) : Nat → Nat → Nat := fun x b => if most < 0 ∨ most < x then 4 else if b < x then 10 else 0

/-- The end: the fault, if bytes are left. -/
def fin (s : ByteArray) (e : Nat) : Nat := if e ≠ 0 then e else if s.size = 0 then 0 else 8

theorem step_lt {wrong : Nat → Nat → Nat} (s : ByteArray) (e : Nat) : (step wrong s e).1 < 18446744073709551616 := by
  have hb := (Num.rd_bound s.data.toList).2.2.1
  unfold step
  split
  · exact Nat.zero_lt_succ _
  · split
    · exact Nat.zero_lt_succ _
    · split
      · exact Nat.zero_lt_succ _
      · exact hb

theorem step_size {wrong : Nat → Nat → Nat} (s : ByteArray) (e : Nat) : (step wrong s e).2.1.size ≤ s.size := by
  unfold step
  split
  · exact Nat.le_refl _
  · split
    · exact Nat.le_refl _
    · split
      · exact Nat.le_refl _
      · simp [ByteArray.size_extract]

/-- The faults that there are: none of them above 10. -/
theorem step_le {wrong : Nat → Nat → Nat} (hw : ∀ x b, wrong x b ≤ 10) (s : ByteArray) (e : Nat) (he : e ≤ 10) : (step wrong s e).2.2 ≤ 10 := by
  have hb := (Num.rd_bound s.data.toList).2.2.2.1
  unfold step
  split
  · exact he
  · split
    · simp only []; omega
    · split
      · exact hw _ _
      · simp

theorem wU_le (most : Nat) (x b : Nat) : wU most x b ≤ 10 := by unfold wU; split <;> simp
theorem wI_le (l h : Int) (x b : Nat) : wI l h x b ≤ 10 := by unfold wI; split <;> simp
theorem wT_le (xs : List Nat) (x b : Nat) : wT xs x b ≤ 10 := by unfold wT; split <;> simp
theorem wC_le (m : Int) (x b : Nat) : wC m x b ≤ 10 := by
  unfold wC
  split
  · simp
  · split <;> simp
theorem fin_le (s : ByteArray) (e : Nat) (he : e ≤ 10) : fin s e ≤ 10 := by
  unfold fin
  split
  · exact he
  · split <;> simp

/-- A count is at most the bound, and at most what is left behind it; and of a fault it is zero. -/
theorem count_le (m : Int) (s : ByteArray) (e : Nat) :
    ((step (wC m) s e).1 = 0 ∨ ((step (wC m) s e).1 : Int) ≤ m) ∧ (step (wC m) s e).1 ≤ (step (wC m) s e).2.1.size ∧ ((step (wC m) s e).2.2 ≠ 0 → (step (wC m) s e).1 = 0) := by
  have hq := (Num.rd_bound s.data.toList).1
  unfold step
  split
  · exact ⟨.inl rfl, Nat.zero_le _, fun _ => rfl⟩
  · split
    · exact ⟨.inl rfl, Nat.zero_le _, fun _ => rfl⟩
    · split
      · exact ⟨.inl rfl, Nat.zero_le _, fun _ => rfl⟩
      · rename_i h
        have hw : wC m (Num.rd s.data.toList).1 (s.size - (Num.rd s.data.toList).2.1) = 0 := by omega
        unfold wC at hw
        split at hw
        · cases hw
        · split at hw
          · cases hw
          · refine ⟨.inr (by simp only []; omega), ?_, fun h => absurd rfl h⟩
            simp only [ByteArray.size_extract]
            omega
end Wire
end Go.Proofs.YtepnofklmdofmaaGreatDoor
