/-
  Layer 12, plainly: paths; which may be, who is whose child, who comes ahead, what two have in common.
-/
import Derived.Lib.Bytealg
import Derived.RowKit
import Derived.Test.YtepnofklmdofmaaGreatDoorLowOpen
namespace Go.Proofs.YtepnofklmdofmaaGreatDoor
open Go.RowKit

namespace Br
def okB (b : UInt8) : Bool := decide (1 ≤ b.toNat) && decide (b.toNat ≤ 16)
def mayL (l : List UInt8) : Bool := decide (l.length ≤ 12) && l.all okB
/-- It may be a path. -/
def may (s : ByteArray) : Bool := mayL s.data.toList
def kidN (n : Int) : Bool := decide (1 ≤ n) && decide (n ≤ 16)
/-- It is a child's path. -/
def kidP (s : ByteArray) : Bool := !decide (s.size = 0) && may s
def par (s : ByteArray) : ByteArray := if kidP s then s.extract 0 (s.size - 1) else ⟨#[]⟩
def lastN (s : ByteArray) : Int := if kidP s then ((s.data.toList[s.size - 1]?.getD 0).toNat : Int) else 0
def kidOk (s : ByteArray) (n : Int) : Bool := may s && (kidN n && !decide (s.size = 12))
def kidT (s : ByteArray) (n : Int) : ByteArray := if kidOk s n then s ++ ⟨#[UInt8.ofNat n.toNat]⟩ else ⟨#[]⟩
def pre : List UInt8 → List UInt8 → Bool
  | [], _ => true
  | _ :: _, [] => false
  | a :: l, b :: m => decide (a = b) && pre l m
/-- a is that one, or comes from it. -/
def under (s r : ByteArray) : Bool := may s && pre r.data.toList s.data.toList
def cmpR (a b : ByteArray) : Int := Lib.compareBytes a.data.toList b.data.toList
def lcp : List UInt8 → List UInt8 → Nat
  | a :: l, b :: m => if a = b then lcp l m + 1 else 0
  | _, _ => 0
def both (a b : ByteArray) : Nat := lcp a.data.toList b.data.toList
def common (a b : ByteArray) : ByteArray := if may a && may b then a.extract 0 (both a b) else ⟨#[]⟩

theorem len_list (s : ByteArray) : s.data.toList.length = s.size := by simp
theorem mayL_iff {l : List UInt8} : mayL l = true ↔ l.length ≤ 12 ∧ ∀ b ∈ l, okB b = true := by
  unfold mayL
  rw [Bool.and_eq_true, decide_eq_true_iff, List.all_eq_true]
theorem may_size {s : ByteArray} (h : may s = true) : s.size ≤ 12 := by
  have := (mayL_iff.1 h).1
  rwa [len_list] at this
theorem mayL_pre {a b : List UInt8} (hb : mayL (a ++ b) = true) : mayL a = true := by
  obtain ⟨h1, h2⟩ := mayL_iff.1 hb
  exact mayL_iff.2 ⟨by rw [List.length_append] at h1; omega, fun x hx => h2 x (List.mem_append_left _ hx)⟩
theorem pre_iff {a b : List UInt8} : pre a b = true ↔ ∃ c, b = a ++ c := by
  induction a generalizing b with
  | nil => exact ⟨fun _ => ⟨b, rfl⟩, fun _ => by unfold pre; rfl⟩
  | cons x a ih =>
    cases b with
    | nil => exact ⟨fun h => by simp [pre] at h, fun ⟨c, h⟩ => by simp at h⟩
    | cons y b =>
      unfold pre
      rw [Bool.and_eq_true, decide_eq_true_iff, ih]
      constructor
      · rintro ⟨rfl, c, rfl⟩
        exact ⟨c, rfl⟩
      · rintro ⟨c, h⟩
        injection h with h1 h2
        exact ⟨h1.symm, c, h2⟩
theorem lcp_le (a b : List UInt8) : lcp a b ≤ a.length ∧ lcp a b ≤ b.length := by
  induction a generalizing b with
  | nil => simp [lcp]
  | cons x a ih =>
    cases b with
    | nil => simp [lcp]
    | cons y b =>
      unfold lcp
      split
      · have := ih b
        simp only [List.length_cons]
        omega
      · simp
theorem lcp_take (a b : List UInt8) : a.take (lcp a b) = b.take (lcp a b) := by
  induction a generalizing b with
  | nil => simp [lcp]
  | cons x a ih =>
    cases b with
    | nil => simp [lcp]
    | cons y b =>
      unfold lcp
      split
      · rename_i h
        rw [List.take_succ_cons, List.take_succ_cons, h, ih b]
      · simp
/-- As long as they are alike. -/
theorem lcp_more {a b : List UInt8} {n : Nat} (ha : n < a.length) (hb : n < b.length) (h : n ≤ lcp a b) : (a[n] = b[n] → n + 1 ≤ lcp a b) ∧ (a[n] ≠ b[n] → lcp a b = n) := by
  induction a generalizing b n with
  | nil => simp at ha
  | cons x a ih =>
    cases b with
    | nil => simp at hb
    | cons y b =>
      cases n with
      | zero =>
        simp only [List.getElem_cons_zero]
        unfold lcp
        constructor
        · rintro rfl
          rw [if_pos rfl]; omega
        · intro h
          rw [if_neg h]
      | succ n =>
        simp only [List.getElem_cons_succ]
        unfold lcp at h ⊢
        split at h
        · rename_i hxy
          rw [if_pos hxy]
          have := ih (n := n) (by simpa using ha) (by simpa using hb) (by omega)
          exact ⟨fun e => by have := this.1 e; omega, fun e => by have := this.2 e; omega⟩
        · omega
theorem lcp_end {a b : List UInt8} {n : Nat} (h : n ≤ lcp a b) (he : a.length ≤ n ∨ b.length ≤ n) : lcp a b = n := by
  have := lcp_le a b
  omega
theorem cmp_bytes (a b : List UInt8) : (Lib.compareBytes a b < 0 ↔ a < b) ∧ (Lib.compareBytes a b = 0 ↔ a = b) ∧ (Lib.compareBytes a b = -1 ∨ Lib.compareBytes a b = 0 ∨ Lib.compareBytes a b = 1) := by
  induction a generalizing b with
  | nil => cases b <;> simp [Lib.compareBytes]
  | cons x a ih =>
    cases b with
    | nil => simp [Lib.compareBytes]
    | cons y b =>
      unfold Lib.compareBytes
      by_cases h1 : x < y
      · have hne : x ≠ y := by rintro rfl; exact absurd h1 (by simp)
        simp [h1, hne, List.cons_lt_cons_iff]
      · by_cases h2 : y < x
        · have hne : x ≠ y := by rintro rfl; exact absurd h2 (by simp)
          simp [h1, h2, hne, List.cons_lt_cons_iff]
        · have heq : x = y := UInt8.le_antisymm (UInt8.not_lt.1 h2) (UInt8.not_lt.1 h1)
          subst heq
          rw [if_neg h1, if_neg h1]
          simpa [List.cons_lt_cons_iff] using ih b
theorem cmp_flip (a b : List UInt8) : Lib.compareBytes b a = - Lib.compareBytes a b := by
  induction a generalizing b with
  | nil => cases b <;> rfl
  | cons x a ih =>
    cases b with
    | nil => rfl
    | cons y b =>
      unfold Lib.compareBytes
      by_cases h1 : x < y
      · have h2 : ¬ y < x := fun h => absurd (UInt8.lt_trans h1 h) (by simp)
        rw [if_neg h2, if_pos h1, if_pos h1]
        rfl
      · by_cases h2 : y < x
        · rw [if_pos h2, if_neg h1, if_pos h2]
        · rw [if_neg h2, if_neg h1, if_neg h1, if_neg h2, ih b]
end Br
end Go.Proofs.YtepnofklmdofmaaGreatDoor
