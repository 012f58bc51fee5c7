/-
  Plain facts of rows of frames that are cut off.
-/
import Derived.Test.YtnalpmiinoohoaaFrameN
import Derived.Lib.Strings
namespace Go.Proofs.Ytnalpmiinoohoaa

namespace Frame
/-- Where the frame number k begins. -/
def fl (l : List (UInt8 × List UInt8)) (k : Nat) : Nat := (flat (l.take k)).length
theorem flat_cons (f : UInt8 × List UInt8) (l : List (UInt8 × List UInt8)) : flat (f :: l) = raw f.1 f.2 ++ flat l := by unfold flat; rw [List.flatMap_cons]
theorem flat_append (a b : List (UInt8 × List UInt8)) : flat (a ++ b) = flat a ++ flat b := by unfold flat; rw [List.flatMap_append]
theorem flat_snoc (l : List (UInt8 × List UInt8)) (k : Nat) (h : k < l.length) : flat (l.take (k + 1)) = flat (l.take k) ++ raw l[k].1 l[k].2 := by
  rw [List.take_succ_eq_append_getElem h, flat_append]
  unfold flat
  simp
theorem fl_zero (l : List (UInt8 × List UInt8)) : fl l 0 = 0 := rfl
theorem fl_succ (l : List (UInt8 × List UInt8)) (k : Nat) (h : k < l.length) : fl l (k + 1) = fl l k + (raw l[k].1 l[k].2).length := by
  unfold fl
  rw [flat_snoc l k h, List.length_append]
theorem fl_all (l : List (UInt8 × List UInt8)) : fl l l.length = (flat l).length := by
  unfold fl
  rw [List.take_of_length_le (Nat.le_refl _)]
theorem flat_split (l : List (UInt8 × List UInt8)) (m : Nat) (h : m < l.length) : flat l = flat (l.take m) ++ (raw l[m].1 l[m].2 ++ flat (l.drop (m + 1))) := by
  have e : l = l.take m ++ (l[m] :: l.drop (m + 1)) := by
    conv => lhs; rw [← List.take_append_drop m l]
    rw [List.drop_eq_getElem_cons h]
  conv => lhs; rw [e]
  rw [flat_append, flat_cons]
theorem flat_take (l : List (UInt8 × List UInt8)) (m k : Nat) (h : m < l.length) (h0 : fl l m ≤ k) (h1 : k < fl l (m + 1)) : (flat l).take k = flat (l.take m) ++ (raw l[m].1 l[m].2).take (k - fl l m) := by
  rw [fl_succ l m h] at h1
  rw [flat_split l m h, List.take_append]
  have e : (flat (l.take m)).length = fl l m := rfl
  rw [e, List.take_of_length_le (by omega), List.take_append_of_le_length (by omega)]
theorem flat_piece (l : List (UInt8 × List UInt8)) (m : Nat) (h : m < l.length) : ((flat l).drop (fl l m)).take (fl l (m + 1) - fl l m) = raw l[m].1 l[m].2 := by
  rw [fl_succ l m h, flat_split l m h]
  have e : fl l m = (flat (l.take m)).length := rfl
  rw [e, List.drop_left, show (flat (l.take m)).length + (raw l[m].1 l[m].2).length - (flat (l.take m)).length = (raw l[m].1 l[m].2).length from by omega, List.take_left]
theorem fl_le (l : List (UInt8 × List UInt8)) (k : Nat) : fl l k ≤ (flat l).length := by
  unfold fl
  conv => rhs; rw [← List.take_append_drop k l]
  rw [flat_append, List.length_append]
  omega
theorem raw_pos (t : UInt8) (x : List UInt8) : 7 ≤ (raw t x).length := by
  rw [raw_length]
  have := Lib.uvarint_pos x.length
  omega
theorem raw_le (t : UInt8) (x : List UInt8) (h : x.length ≤ 512) : (raw t x).length ≤ 528 := by
  rw [raw_length]
  have := Lib.uvarint_length64 (x := x.length) (by omega)
  omega
theorem fl_bound (l : List (UInt8 × List UInt8)) (k : Nat) (h : k ≤ l.length) (ht : ∀ f ∈ l.take k, f.2.length ≤ 512) : fl l k ≤ 528 * k := by
  induction k with
  | zero => exact Nat.le_refl _
  | succ k ih =>
    have hk : k < l.length := by omega
    rw [fl_succ l k hk]
    have h1 := ih (by omega) (fun f hf => ht f (by rw [List.take_succ_eq_append_getElem hk]; exact List.mem_append_left _ hf))
    have h2 := raw_le l[k].1 l[k].2 (ht l[k] (by rw [List.take_succ_eq_append_getElem hk]; exact List.mem_append_right _ (by simp)))
    omega
theorem flat_empty (l : List (UInt8 × List UInt8)) (h : (flat l).length = 0) : l = [] := by
  cases l with
  | nil => rfl
  | cons f l =>
    rw [flat_cons, List.length_append] at h
    have := raw_pos f.1 f.2
    omega

/-- All of them. -/
theorem sc_all (l : List (UInt8 × List UInt8)) (ht : ∀ f ∈ l, f.2.length ≤ 512) : sc (flat l) 131072 = (l, (flat l).length, 0) := by
  have := sc_flat 131072 l [] (fun f hf => ⟨by have := ht f hf; omega, by have := ht f hf; omega⟩) (.inl rfl)
  rw [List.append_nil] at this
  simpa using this

/-- What is cut off. -/
theorem sc_part (l : List (UInt8 × List UInt8)) (m k : Nat) (h : m < l.length) (h0 : fl l m ≤ k) (h1 : k < fl l (m + 1)) (ht : ∀ f ∈ l, f.2.length ≤ 512) :
    sc ((flat l).take k) 131072 = (l.take m, fl l m, if fl l m = k then 0 else 40) := by
  rw [flat_take l m k h h0 h1]
  have htm := ht l[m] (List.getElem_mem h)
  have hc : k - fl l m < (raw l[m].1 l[m].2).length := by rw [fl_succ l m h] at h1; omega
  have hcut := rd_cut l[m].1 l[m].2 131072 (by omega) (by omega) (k - fl l m) hc
  have := sc_flat 131072 (l.take m) ((raw l[m].1 l[m].2).take (k - fl l m)) (fun f hf => by have := ht f (List.mem_of_mem_take hf); exact ⟨by omega, by omega⟩) (.inr (by rw [hcut]; simp [bad]))
  rw [this, hcut]
  have e : (raw l[m].1 l[m].2).take (k - fl l m) = [] ↔ fl l m = k := by
    constructor
    · intro h2
      have := congrArg List.length h2
      rw [List.length_take, List.length_nil] at this
      omega
    · intro h2
      rw [h2, Nat.sub_self]
      rfl
  by_cases h2 : fl l m = k
  · rw [if_pos (e.2 h2), if_pos h2]
    rfl
  · rw [if_neg (fun h3 => h2 (e.1 h3)), if_neg h2]
    rfl
end Frame
end Go.Proofs.Ytnalpmiinoohoaa
