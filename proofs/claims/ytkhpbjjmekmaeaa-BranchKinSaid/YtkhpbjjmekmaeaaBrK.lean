/-
  Layer 12, plainly: what BranchKin says of children, parents, and what stands between.
-/
import Derived.Test.YtkhpbjjmekmaeaaBrV
namespace Go.Proofs.Ytkhpbjjmekmaeaa
open Go.RowKit

namespace Br
theorem data_ext {a b : ByteArray} (h : a.data.toList = b.data.toList) : a = b := ByteArray.ext (Array.toList_inj.1 h)
theorem ex_list (s : ByteArray) (n : Nat) : (s.extract 0 n).data.toList = s.data.toList.take n := by
  rw [Lib.extract_data]
  simp
theorem cmp_app (a : List UInt8) (b : UInt8) : Lib.compareBytes a (a ++ [b]) = -1 := by
  induction a with
  | nil => rfl
  | cons x a ih =>
    show Lib.compareBytes (x :: a) (x :: (a ++ [b])) = -1
    unfold Lib.compareBytes
    rw [if_neg (by simp), if_neg (by simp)]
    exact ih
structure KidFacts (a k : ByteArray) (n : Int) : Prop where
  par : par k = a
  kid : kidP k = true
  last : lastN k = n
  may : may k = true
  cmp : cmpR a k = -1
  un : under k a = true
  no : under a k = false
  sz : k.size ≤ 1000000
theorem kid_facts {a : ByteArray} {n : Int} (h : kidOk a n = true) : KidFacts a (kidT a n) n := by
  have hd : (kidT a n).data.toList = a.data.toList ++ [UInt8.ofNat n.toNat] := by
    unfold kidT
    rw [if_pos h]
    simp
  have hsz : (kidT a n).size = a.size + 1 := by
    rw [← len_list, hd, List.length_append, len_list]; rfl
  unfold kidOk kidN at h
  rw [Bool.and_eq_true, Bool.and_eq_true, Bool.and_eq_true, decide_eq_true_iff, decide_eq_true_iff] at h
  obtain ⟨hm, ⟨h1, h2⟩, h3⟩ := h
  have h12 := may_size hm
  have h3' : a.size ≠ 12 := by simpa using h3
  have hb : (UInt8.ofNat n.toNat).toNat = n.toNat := by rw [UInt8.toNat_ofNat']; omega
  have hmk : may (kidT a n) = true := by
    refine mayL_iff.2 ⟨by rw [len_list]; omega, fun b hb' => ?_⟩
    rw [hd, List.mem_append, List.mem_singleton] at hb'
    rcases hb' with hb' | rfl
    · exact (mayL_iff.1 hm).2 b hb'
    · unfold okB
      rw [hb, decide_eq_true (by omega), decide_eq_true (by omega)]
      rfl
  have hkp : kidP (kidT a n) = true := by unfold kidP; rw [hmk, decide_eq_false (by omega)]; rfl
  refine ⟨?_, hkp, ?_, hmk, ?_, ?_, ?_, by omega⟩
  · unfold par
    rw [if_pos hkp]
    refine data_ext ?_
    rw [ex_list, hd, hsz, Nat.add_sub_cancel, ← len_list a, List.take_left']
    rfl
  · unfold lastN
    rw [if_pos hkp, hd, hsz, Nat.add_sub_cancel, ← len_list a, List.getElem?_append_right (Nat.le_refl _), Nat.sub_self]
    show ((UInt8.ofNat n.toNat).toNat : Int) = n
    rw [hb]
    omega
  · unfold cmpR
    rw [hd]
    exact cmp_app _ _
  · unfold under
    rw [hmk, hd, pre_iff.2 ⟨_, rfl⟩]
    rfl
  · unfold under
    rw [Bool.and_eq_false_iff]
    refine .inr ?_
    rw [← Bool.not_eq_true, pre_iff]
    rintro ⟨c, hc⟩
    have := congrArg List.length hc
    rw [hd] at this
    simp at this
theorem pre_between {a b c : List UInt8} (h : pre a b = true) (h1 : Lib.compareBytes a c ≤ 0) (h2 : Lib.compareBytes c b ≤ 0) : pre a c = true := by
  induction a generalizing b c with
  | nil => rfl
  | cons x a ih =>
    cases b with
    | nil => simp [pre] at h
    | cons y b =>
      unfold pre at h
      rw [Bool.and_eq_true, decide_eq_true_iff] at h
      obtain ⟨rfl, h⟩ := h
      cases c with
      | nil => simp [Lib.compareBytes] at h1
      | cons z c =>
        unfold Lib.compareBytes at h1 h2
        by_cases e1 : x < z
        · have e2 : ¬ z < x := fun e => absurd (UInt8.lt_trans e1 e) (by simp)
          rw [if_neg e2, if_pos e1] at h2
          omega
        · by_cases e2 : z < x
          · rw [if_neg e1, if_pos e2] at h1
            omega
          · have e : x = z := UInt8.le_antisymm (UInt8.not_lt.1 e2) (UInt8.not_lt.1 e1)
            subst e
            rw [if_neg e1, if_neg e1] at h1 h2
            unfold pre
            rw [Bool.and_eq_true, decide_eq_true_iff]
            exact ⟨rfl, ih h h1 h2⟩
theorem between {a b c : ByteArray} (hc : may c = true) (h : under b a = true) (h1 : cmpR a c ≤ 0) (h2 : cmpR c b ≤ 0) : under c a = true := by
  unfold under at h ⊢
  rw [Bool.and_eq_true] at h ⊢
  exact ⟨hc, pre_between h.2 h1 h2⟩
theorem lcp_ge {a b c : List UInt8} (h1 : pre c a = true) (h2 : pre c b = true) : c.length ≤ lcp a b := by
  induction c generalizing a b with
  | nil => simp
  | cons x c ih =>
    cases a with
    | nil => simp [pre] at h1
    | cons y a =>
      cases b with
      | nil => simp [pre] at h2
      | cons z b =>
        unfold pre at h1 h2
        rw [Bool.and_eq_true, decide_eq_true_iff] at h1 h2
        obtain ⟨rfl, h1⟩ := h1
        obtain ⟨rfl, h2⟩ := h2
        unfold lcp
        rw [if_pos rfl]
        have := ih h1 h2
        simp only [List.length_cons]
        omega
theorem take_pre (a : List UInt8) (n : Nat) : pre (a.take n) a = true := pre_iff.2 ⟨a.drop n, (List.take_append_drop n a).symm⟩
theorem common_facts {a b c : ByteArray} (ha : may a = true) (hb : may b = true) : under a (common a b) = true ∧ under b (common a b) = true ∧ (under a c = true → under b c = true → under (common a b) c = true) ∧ (common a b).size ≤ 1000000 := by
  have e : common a b = a.extract 0 (both a b) := by unfold common; rw [ha, hb]; rfl
  have e2 : (common a b).data.toList = a.data.toList.take (both a b) := by rw [e, ex_list]
  have hm : may (common a b) = true := by
    unfold may at ha ⊢
    rw [e2]
    rw [← List.take_append_drop (both a b) a.data.toList] at ha
    exact mayL_pre ha
  refine ⟨?_, ?_, fun h1 h2 => ?_, by have := may_size hm; omega⟩
  · unfold under
    rw [ha, e2, take_pre]; rfl
  · unfold under
    rw [hb, e2]
    show (true && pre (a.data.toList.take (lcp a.data.toList b.data.toList)) b.data.toList) = true
    rw [lcp_take, take_pre]; rfl
  · unfold under at h1 h2 ⊢
    rw [Bool.and_eq_true] at h1 h2 ⊢
    refine ⟨hm, ?_⟩
    have hl := lcp_ge h1.2 h2.2
    obtain ⟨d, hd⟩ := pre_iff.1 h1.2
    rw [e2, hd]
    have hle : c.data.toList.length ≤ both a b := hl
    rw [List.take_append, List.take_of_length_le hle]
    exact pre_iff.2 ⟨_, rfl⟩
/-- Behind i rounds upwards. -/
def Ups (a b : ByteArray) (i : Nat) (up : ByteArray) (met : Bool) : Prop :=
  (may b = true → i ≤ b.size ∧ up = b.extract 0 (b.size - i) ∧ (met = true ↔ ∃ j, j ≤ i ∧ b.extract 0 (b.size - j) = a)) ∧ (may b = false → i = 0 ∧ up = b)
theorem ups0 (a b : ByteArray) : Ups a b 0 b (b.toList == a.toList) := by
  have e : b.extract 0 (b.size - 0) = b := data_ext (by rw [ex_list, Nat.sub_zero, ← len_list, List.take_length])
  refine ⟨fun _ => ⟨Nat.zero_le _, e.symm, ?_⟩, fun _ => ⟨rfl, rfl⟩⟩
  rw [beq_iff_eq, Lib.toList_data, Lib.toList_data]
  constructor
  · intro h
    exact ⟨0, Nat.le_refl _, e.trans (data_ext h)⟩
  · rintro ⟨j, hj, h⟩
    obtain rfl : j = 0 := by omega
    rw [e] at h
    rw [h]
theorem Ups.lt {a b up : ByteArray} {i : Nat} {met : Bool} (h : Ups a b i up met) : i < 20 := by
  cases hm : may b with
  | true => have := (h.1 hm).1; have := may_size hm; omega
  | false => have := (h.2 hm).1; omega
theorem Ups.size {a b up : ByteArray} {i : Nat} {met : Bool} (h : Ups a b i up met) (hb : b.size ≤ 1000000) : up.size ≤ 1000000 := by
  cases hm : may b with
  | true =>
    rw [(h.1 hm).2.1, ByteArray.size_extract]; omega
  | false => rw [(h.2 hm).2]; exact hb
theorem Ups.next {a b up : ByteArray} {i : Nat} {met : Bool} (h : Ups a b i up met) (hk : kidP up = true) : Ups a b (i + 1) (par up) (met || ((par up).toList == a.toList)) := by
  cases hm : may b with
  | false =>
    exfalso
    rw [(h.2 hm).2] at hk
    unfold kidP at hk
    rw [hm] at hk
    simp at hk
  | true =>
    obtain ⟨h1, h2, h3⟩ := h.1 hm
    have hu : up.size = b.size - i := by rw [h2, ByteArray.size_extract]; omega
    have h0 : up.size ≠ 0 := by
      intro h0
      unfold kidP at hk
      rw [decide_eq_true h0] at hk
      simp at hk
    have hp : par up = b.extract 0 (b.size - (i + 1)) := by
      unfold par
      rw [if_pos hk]
      refine data_ext ?_
      rw [ex_list, ex_list, h2, ex_list, List.take_take]
      congr 1
      rw [ByteArray.size_extract]
      omega
    refine ⟨fun _ => ⟨by omega, hp, ?_⟩, fun hf => by rw [hm] at hf; cases hf⟩
    rw [Bool.or_eq_true, h3, beq_iff_eq, Lib.toList_data, Lib.toList_data]
    constructor
    · rintro (⟨j, hj, e⟩ | e)
      · exact ⟨j, by omega, e⟩
      · exact ⟨i + 1, Nat.le_refl _, hp.symm.trans (data_ext e)⟩
    · rintro ⟨j, hj, e⟩
      by_cases hji : j ≤ i
      · exact .inl ⟨j, hji, e⟩
      · obtain rfl : j = i + 1 := by omega
        rw [hp, e]
        exact .inr rfl
theorem Ups.done {a b up : ByteArray} {i : Nat} {met : Bool} (h : Ups a b i up met) (hk : kidP up = false) : under b a = (met && (may a && may b)) := by
  cases hm : may b with
  | false => unfold under; rw [hm]; simp
  | true =>
    obtain ⟨h1, h2, h3⟩ := h.1 hm
    have hu : up.size = b.size - i := by rw [h2, ByteArray.size_extract]; omega
    have hmu : may up = true := by
      unfold may at hm ⊢
      rw [h2, ex_list]
      rw [← List.take_append_drop (b.size - i) b.data.toList] at hm
      exact mayL_pre hm
    have hi : i = b.size := by
      unfold kidP at hk
      rw [hmu, Bool.and_true] at hk
      have : up.size = 0 := by simpa using hk
      omega
    rw [Bool.and_true, Bool.eq_iff_iff, Bool.and_eq_true, h3]
    unfold under
    rw [hm, Bool.true_and]
    constructor
    · intro hp
      obtain ⟨c, hc⟩ := pre_iff.1 hp
      have hl := congrArg List.length hc
      rw [List.length_append, len_list, len_list] at hl
      refine ⟨⟨b.size - a.size, by omega, data_ext ?_⟩, ?_⟩
      · rw [ex_list, show b.size - (b.size - a.size) = a.size by omega, hc, ← len_list a, List.take_left']
        rfl
      · unfold may at hm ⊢
        rw [hc] at hm
        exact mayL_pre hm
    · rintro ⟨⟨j, hj, rfl⟩, -⟩
      rw [ex_list]
      exact take_pre _ _
theorem neg_cmp (a b : ByteArray) : cmpR a b = - cmpR b a ∧ (cmpR b a = -1 ∨ cmpR b a = 0 ∨ cmpR b a = 1) := ⟨cmp_flip _ _, (cmp_bytes _ _).2.2⟩
end Br
end Go.Proofs.Ytkhpbjjmekmaeaa
