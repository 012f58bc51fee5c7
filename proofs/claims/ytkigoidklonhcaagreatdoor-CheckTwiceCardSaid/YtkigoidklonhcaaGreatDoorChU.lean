/-
  Layer 11, plainly: a program's functions twice, one row behind the other (CheckTwice).
-/
import Derived.Test.YtkigoidklonhcaaGreatDoorChO
namespace Go.Proofs.YtkigoidklonhcaaGreatDoor
open Go.RowKit

namespace Ck
open Cd
/-- An op of the second row. -/
def shO (n : Nat) (o : OpV) : OpV := if o.k = 12 then ⟨o.k, o.d, o.a, o.b, o.n + n⟩ else o
def shF (n : Nat) (f : FnV) : FnV := ⟨f.args, f.regs, f.ops.map (shO n)⟩
def dbl (p : List FnV) : List FnV := p ++ p.map (shF p.length)
theorem shO_k (n : Nat) (o : OpV) : (shO n o).k = o.k := by unfold shO; split <;> rfl
theorem shO_d (n : Nat) (o : OpV) : (shO n o).d = o.d := by unfold shO; split <;> rfl
theorem shO_a (n : Nat) (o : OpV) : (shO n o).a = o.a := by unfold shO; split <;> rfl
theorem shO_b (n : Nat) (o : OpV) : (shO n o).b = o.b := by unfold shO; split <;> rfl
theorem shO_n (n : Nat) (o : OpV) (h : o.k = 12) : (shO n o).n = o.n + n := by unfold shO; rw [if_pos h]
theorem shO_no (n : Nat) (o : OpV) (h : o.k ≠ 12) : shO n o = o := by unfold shO; rw [if_neg h]
theorem shO_ok {n : Nat} {o : OpV} (h : o.ok = true) : (shO n o).ok = true := by
  by_cases hk : o.k = 12
  · unfold OpV.ok at h ⊢
    simp only [Bool.and_eq_true, decide_eq_true_eq] at h ⊢
    rw [shO_k, shO_d, shO_a, shO_b]
    refine ⟨h.1, ?_⟩
    have hb : (shO n o).bare = ⟨o.k, (o.bare).d, (o.bare).a, (o.bare).b, if hN o.k then 0 else (shO n o).n⟩ := by
      unfold OpV.bare OpV.less
      rw [shO_k, shO_d, shO_a, shO_b]
    have hN12 : hN o.k = true := by rw [hk]; rfl
    rw [hb, hN12]
    exact ⟨h.2.1, rfl⟩
  · rw [shO_no n o hk]; exact h
theorem dbl_len (p : List FnV) : (dbl p).length = p.length + p.length := by unfold dbl; rw [List.length_append, List.length_map]
theorem dbl_front {p : List FnV} {i : Nat} (h : i < p.length) : (dbl p)[i]? = p[i]? := by unfold dbl; rw [List.getElem?_append_left h]
theorem dbl_back {p : List FnV} {i : Nat} : (dbl p)[p.length + i]? = (p[i]?).map (shF p.length) := by
  unfold dbl
  rw [List.getElem?_append_right (Nat.le_add_right _ _), Nat.add_sub_cancel_left, List.getElem?_map]
theorem shF_ok {n : Nat} {f : FnV} (h : f.ok = true) : (shF n f).ok = true := by
  unfold FnV.ok at h ⊢
  simp only [Bool.and_eq_true, List.all_eq_true] at h ⊢
  refine ⟨⟨h.1.1, ?_⟩, fun o ho => ?_⟩
  · simpa [shF] using h.1.2
  · obtain ⟨o', ho', rfl⟩ := List.mem_map.1 ho
    exact shO_ok (h.2 o' ho')
theorem dbl_pok {p : List FnV} (h : pok p = true) (h2 : p.length + p.length ≤ 16) : pok (dbl p) = true := by
  unfold pok at h ⊢
  simp only [Bool.and_eq_true, decide_eq_true_eq, List.all_eq_true] at h ⊢
  refine ⟨by rw [dbl_len]; exact h2, fun f hf => ?_⟩
  unfold dbl at hf
  rcases List.mem_append.1 hf with h1 | h1
  · exact h.2 f h1
  · obtain ⟨f', hf', rfl⟩ := List.mem_map.1 h1
    exact shF_ok (h.2 f' hf')

/-! What one row begins. -/
theorem beg_front {p : List FnV} (_hc : (chk p).1 = 0) {i j : Nat} (hi : i < p.length) : Beg (dbl p) i j ↔ Beg p i j := by
  unfold Beg
  rw [dbl_front hi]
theorem beg_back {p : List FnV} {i j : Nat} : Beg (dbl p) (p.length + i) (p.length + j) ↔ Beg p i j := by
  unfold Beg
  rw [dbl_back]
  constructor
  · rintro ⟨f, hf, o, ho, hk, hn⟩
    obtain ⟨f', hf', rfl⟩ := Option.map_eq_some_iff.1 hf
    obtain ⟨o', ho', rfl⟩ := List.mem_map.1 ho
    rw [shO_k] at hk
    rw [shO_n _ _ hk] at hn
    exact ⟨f', hf', o', ho', hk, by omega⟩
  · rintro ⟨f, hf, o, ho, hk, hn⟩
    exact ⟨shF p.length f, by rw [hf]; rfl, shO p.length o, List.mem_map.2 ⟨o, ho, rfl⟩, by rw [shO_k]; exact hk, by rw [shO_n _ _ hk]; omega⟩
theorem beg_back_at {p : List FnV} (hc : (chk p).1 = 0) {i t : Nat} (h : Beg (dbl p) (p.length + i) t) : ∃ j, t = p.length + j ∧ Beg p i j := by
  obtain ⟨f, hf, o, ho, hk, hn⟩ := h
  rw [dbl_back] at hf
  obtain ⟨f', hf', rfl⟩ := Option.map_eq_some_iff.1 hf
  obtain ⟨o', ho', rfl⟩ := List.mem_map.1 ho
  rw [shO_k] at hk
  rw [shO_n _ _ hk] at hn
  have h0 := (chk_fork hc f' (List.mem_of_getElem? hf') o' ho' hk).1
  obtain ⟨q, hq⟩ := Int.eq_ofNat_of_zero_le h0
  exact ⟨q, by omega, f', hf', o', ho', hk, hq⟩
theorem rch_lt {p : List FnV} (hc : (chk p).1 = 0) {i j : Nat} (h : Rch p i j) : j < p.length := by
  cases h with
  | one hb => exact chk_beg hc _ _ hb
  | more _ hb => exact chk_beg hc _ _ hb
theorem rch_front {p : List FnV} (hc : (chk p).1 = 0) {i j : Nat} (hi : i < p.length) : Rch (dbl p) i j ↔ Rch p i j := by
  constructor
  · intro h
    induction h with
    | one hb => exact .one ((beg_front hc hi).1 hb)
    | more _ hb ih => exact .more ih ((beg_front hc (rch_lt hc ih)).1 hb)
  · intro h
    induction h with
    | one hb => exact .one ((beg_front hc hi).2 hb)
    | more h1 hb ih => exact .more ih ((beg_front hc (rch_lt hc h1)).2 hb)
theorem rch_back {p : List FnV} (hc : (chk p).1 = 0) {i t : Nat} : Rch (dbl p) (p.length + i) t ↔ ∃ j, t = p.length + j ∧ Rch p i j := by
  constructor
  · intro h
    induction h with
    | one hb =>
      obtain ⟨j, rfl, hj⟩ := beg_back_at hc hb
      exact ⟨j, rfl, .one hj⟩
    | more _ hb ih =>
      obtain ⟨j, rfl, hj⟩ := ih
      obtain ⟨k, rfl, hk⟩ := beg_back_at hc hb
      exact ⟨k, rfl, .more hj hk⟩
  · rintro ⟨j, rfl, h⟩
    induction h with
    | one hb => exact .one (beg_back.2 hb)
    | more _ hb ih => exact .more ih (beg_back.2 hb)

/-! The second row can be run where the first can. -/
theorem opE_zero_iff {p : List FnV} {f : FnV} {o : OpV} : opE p f o = 0 ↔ regsOk o f.regs = true ∧ tgtOk p.length f o = true ∧ argOk p f o = true := by
  unfold opE
  cases regsOk o f.regs <;> cases tgtOk p.length f o <;> cases argOk p f o <;> simp
theorem opsE_zero_of {p : List FnV} {f : FnV} {l : List OpV} {k : Nat} (h : ∀ o ∈ l, opE p f o = 0) : opsE p f l k = (0, 0) := opsE_no (fun _ hi => h _ (List.getElem_mem hi))
theorem fnE_zero_iff {p : List FnV} {f : FnV} : (fnE p f).1 = 0 ↔ ¬ f.regs < f.args ∧ (∀ o ∈ f.ops, opE p f o = 0) ∧ (endE f).1 = 0 := by
  constructor
  · intro h
    unfold fnE at h
    split at h
    · cases (show (110 : Nat) = 0 from h)
    · rename_i h0
      split at h
      · rename_i h1
        exact ⟨h0, opsE_zero h1, h⟩
      · rename_i h1
        exact absurd h h1
  · rintro ⟨h0, h1, h2⟩
    unfold fnE
    rw [if_neg h0, opsE_zero_of h1, if_pos rfl]
    exact h2
theorem fnsE_zero_of {p l : List FnV} {k : Nat} (h : ∀ f ∈ l, (fnE p f).1 = 0) : fnsE p l k = (0, 0, 0) := fnsE_no (fun _ hi => h _ (List.getElem_mem hi))
theorem regsOk_sh (n : Nat) (o : OpV) (r : Int) : regsOk (shO n o) r = regsOk o r := by
  unfold regsOk
  rw [shO_k, shO_d, shO_a, shO_b]
theorem argN_front {p : List FnV} {o : OpV} (h0 : 0 ≤ o.n) (h1 : o.n < (p.length : Int)) : argN (dbl p) o = argN p o := by
  unfold argN
  rw [dbl_front (by omega)]
theorem argN_back {p : List FnV} {o : OpV} (hk : o.k = 12) (h0 : 0 ≤ o.n) (h1 : o.n < (p.length : Int)) : argN (dbl p) (shO p.length o) = argN p o := by
  unfold argN
  rw [shO_n _ _ hk, show (o.n + (p.length : Int)).toNat = p.length + o.n.toNat by omega, dbl_back, List.getElem?_eq_getElem (show o.n.toNat < p.length by omega)]
  rfl
theorem opE_front {p : List FnV} {f : FnV} {o : OpV} (h : opE p f o = 0) : opE (dbl p) f o = 0 := by
  rw [opE_zero_iff] at h ⊢
  obtain ⟨h1, h2, h3⟩ := h
  by_cases hk : o.k = 12
  · unfold tgtOk at h2
    rw [if_neg (by omega), if_pos hk] at h2
    unfold inN at h2
    simp only [Bool.and_eq_true, decide_eq_true_eq] at h2
    refine ⟨h1, ?_, ?_⟩
    · unfold tgtOk
      rw [if_neg (by omega), if_pos hk, dbl_len]
      unfold inN
      simp only [Bool.and_eq_true, decide_eq_true_eq]
      omega
    · unfold argOk at h3 ⊢
      rw [if_pos hk] at h3 ⊢
      rw [argN_front h2.1 h2.2]
      exact h3
  · refine ⟨h1, ?_, ?_⟩
    · unfold tgtOk at h2 ⊢
      rw [if_neg hk] at h2 ⊢
      exact h2
    · unfold argOk
      rw [if_neg hk]
theorem opE_back {p : List FnV} {f : FnV} {o : OpV} (h : opE p f o = 0) : opE (dbl p) (shF p.length f) (shO p.length o) = 0 := by
  rw [opE_zero_iff] at h ⊢
  obtain ⟨h1, h2, h3⟩ := h
  refine ⟨by rw [regsOk_sh]; exact h1, ?_⟩
  by_cases hk : o.k = 12
  · unfold tgtOk at h2
    rw [if_neg (by omega), if_pos hk] at h2
    unfold inN at h2
    simp only [Bool.and_eq_true, decide_eq_true_eq] at h2
    refine ⟨?_, ?_⟩
    · unfold tgtOk
      rw [shO_k, if_neg (by omega), if_pos hk, dbl_len, shO_n _ _ hk]
      unfold inN
      simp only [Bool.and_eq_true, decide_eq_true_eq]
      omega
    · unfold argOk at h3 ⊢
      rw [shO_k, if_pos hk, shO_a, argN_back hk h2.1 h2.2]
      rw [if_pos hk] at h3
      exact h3
  · rw [shO_no _ _ hk]
    refine ⟨?_, ?_⟩
    · unfold tgtOk at h2 ⊢
      rw [if_neg hk] at h2 ⊢
      simpa [shF] using h2
    · unfold argOk
      rw [if_neg hk]
theorem endE_sh (n : Nat) (f : FnV) : (endE (shF n f)).1 = (endE f).1 := by
  unfold endE shF
  simp only [List.getLast?_map]
  cases f.ops.getLast? with
  | none => rfl
  | some o =>
    simp only [Option.map_some, shO_k]
    split <;> rfl
theorem chk_dbl {p : List FnV} (h : (chk p).1 = 0) (h2 : p.length + p.length ≤ 16) : (chk (dbl p)).1 = 0 := by
  obtain ⟨h0, hp⟩ := chk_some h
  have hf : ∀ f ∈ p, (fnE p f).1 = 0 := fnsE_all (k := 0) (by rw [← chk_go hp (List.ne_nil_of_length_pos h0)]; exact h)
  have hne : dbl p ≠ [] := fun e => by
    have := congrArg List.length e
    rw [dbl_len, List.length_nil] at this
    omega
  rw [chk_go (dbl_pok hp h2) hne, fnsE_zero_of]
  intro f hm
  unfold dbl at hm
  rcases List.mem_append.1 hm with h1 | h1
  · have := fnE_zero_iff.1 (hf f h1)
    exact fnE_zero_iff.2 ⟨this.1, fun o ho => opE_front (this.2.1 o ho), this.2.2⟩
  · obtain ⟨f', hf', rfl⟩ := List.mem_map.1 h1
    have := fnE_zero_iff.1 (hf f' hf')
    refine fnE_zero_iff.2 ⟨this.1, fun o ho => ?_, by rw [endE_sh]; exact this.2.2⟩
    obtain ⟨o', ho', rfl⟩ := List.mem_map.1 ho
    exact opE_back (this.2.1 o' ho')

/-! What is told of the doubled program. -/
theorem idxT_succ (L : List Bool) (k : Nat) : idxT L (k + 1) = idxT L k ++ if L[k]? = some true then [(k : Int)] else [] := rfl
theorem idxT_front {L M : List Bool} {k : Nat} (h : k ≤ L.length) : idxT (L ++ M) k = idxT L k := by
  induction k with
  | zero => rfl
  | succ k ih =>
    rw [idxT_succ, idxT_succ, ih (by omega), List.getElem?_append_left (by omega)]
theorem idxT_rep (L : List Bool) (m k : Nat) (h : k ≤ m) : idxT (L ++ List.replicate m false) (L.length + k) = idxT L L.length := by
  induction k with
  | zero => exact idxT_front (Nat.le_refl _)
  | succ k ih =>
    rw [← Nat.add_assoc, idxT_succ, ih (by omega), List.getElem?_append_right (Nat.le_add_right _ _), Nat.add_sub_cancel_left, show (List.replicate m false)[k]? = some false by rw [List.getElem?_replicate, if_pos (by omega)], if_neg (by simp), List.append_nil]
theorem idxT_shift (L : List Bool) (n k : Nat) : idxT (List.replicate n false ++ L) (n + k) = (idxT L k).map (· + (n : Int)) := by
  induction k with
  | zero =>
    have := idxT_rep [] n n (Nat.le_refl _)
    rw [List.nil_append, List.length_nil, Nat.zero_add] at this
    rw [Nat.add_zero, idxT_front (by rw [List.length_replicate]; exact Nat.le_refl _), this]
    rfl
  | succ k ih =>
    rw [← Nat.add_assoc, idxT_succ, idxT_succ, ih, List.getElem?_append_right (by rw [List.length_replicate]; omega), List.length_replicate, Nat.add_sub_cancel_left, List.map_append]
    congr 1
    split
    · simp
      omega
    · rfl
end Ck
end Go.Proofs.YtkigoidklonhcaaGreatDoor
