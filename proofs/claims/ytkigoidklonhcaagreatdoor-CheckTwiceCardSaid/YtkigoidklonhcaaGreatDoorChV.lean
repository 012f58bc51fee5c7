/-
  Layer 11, plainly: what functions of the doubled program reach (CheckTwice).
-/
import Derived.Test.YtkigoidklonhcaaGreatDoorChU
namespace Go.Proofs.YtkigoidklonhcaaGreatDoor
open Go.RowKit

namespace Ck
open Cd
theorem app_rep {L : List Bool} {m j : Nat} : (L ++ List.replicate m false)[j]? = some true ↔ L[j]? = some true := by
  by_cases h : j < L.length
  · rw [List.getElem?_append_left h]
  · rw [List.getElem?_append_right (by omega), List.getElem?_replicate, List.getElem?_eq_none (by omega)]
    split <;> simp
theorem rep_app {L : List Bool} {n j : Nat} : (List.replicate n false ++ L)[j]? = some true ↔ ∃ k, j = n + k ∧ L[k]? = some true := by
  by_cases h : j < n
  · rw [List.getElem?_append_left (by rw [List.length_replicate]; exact h), List.getElem?_replicate, if_pos h]
    constructor
    · simp
    · rintro ⟨k, rfl, -⟩; omega
  · rw [List.getElem?_append_right (by rw [List.length_replicate]; omega), List.length_replicate]
    constructor
    · exact fun e => ⟨j - n, by omega, e⟩
    · rintro ⟨k, rfl, e⟩
      rw [Nat.add_sub_cancel_left]
      exact e
theorem out_front {p : List FnV} (hc : (chk p).1 = 0) (h2 : p.length + p.length ≤ 16) {i : Nat} (hi : i < p.length) {xs : List Int} (h : Out p (i : Int) xs) : Out (dbl p) (i : Int) xs := by
  unfold Out at h
  rw [if_pos ⟨hc, by unfold inN; rw [decide_eq_true (by omega), decide_eq_true (by omega)]; rfl⟩, Int.toNat_natCast] at h
  obtain ⟨L, hl, hs, hcl, rfl⟩ := h
  have := out_yes (p := dbl p) (fn := i) (chk_dbl hc h2) (by rw [dbl_len]; omega) (L := L ++ List.replicate p.length false) (by rw [List.length_append, List.length_replicate, dbl_len, hl]) (fun j hj => (rch_front hc hi).2 (hs j (app_rep.1 hj))) (fun a j ha hb => by
    refine app_rep.2 ?_
    have ha' : a < p.length := by
      rcases ha with rfl | ha
      · exact hi
      · exact rch_lt hc (hs a (app_rep.1 ha))
    exact hcl a j (ha.imp id app_rep.1) ((beg_front hc ha').1 hb))
  have e : idx (L ++ List.replicate p.length false) = idx L := by
    unfold idx
    rw [List.length_append, List.length_replicate]
    exact idxT_rep L p.length p.length (Nat.le_refl _)
  rwa [e] at this
theorem out_back {p : List FnV} (hc : (chk p).1 = 0) (h2 : p.length + p.length ≤ 16) {i : Nat} (hi : i < p.length) {xs : List Int} (h : Out p (i : Int) xs) : Out (dbl p) ((p.length + i : Nat) : Int) (xs.map (· + (p.length : Int))) := by
  unfold Out at h
  rw [if_pos ⟨hc, by unfold inN; rw [decide_eq_true (by omega), decide_eq_true (by omega)]; rfl⟩, Int.toNat_natCast] at h
  obtain ⟨L, hl, hs, hcl, rfl⟩ := h
  have := out_yes (p := dbl p) (fn := p.length + i) (chk_dbl hc h2) (by rw [dbl_len]; omega) (L := List.replicate p.length false ++ L) (by rw [List.length_append, List.length_replicate, dbl_len, hl]) (fun j hj => by
    obtain ⟨k, rfl, hk⟩ := rep_app.1 hj
    exact (rch_back hc).2 ⟨k, rfl, hs k hk⟩) (fun a j ha hb => by
    have ha' : ∃ b, a = p.length + b ∧ (b = i ∨ L[b]? = some true) := by
      rcases ha with rfl | ha
      · exact ⟨i, rfl, .inl rfl⟩
      · obtain ⟨k, rfl, hk⟩ := rep_app.1 ha
        exact ⟨k, rfl, .inr hk⟩
    obtain ⟨b, rfl, hb'⟩ := ha'
    obtain ⟨t, rfl, ht⟩ := beg_back_at hc hb
    exact rep_app.2 ⟨t, rfl, hcl b t hb' ht⟩)
  have e : idx (List.replicate p.length false ++ L) = (idx L).map (· + (p.length : Int)) := by
    unfold idx
    rw [List.length_append, List.length_replicate]
    exact idxT_shift L p.length L.length
  rwa [e] at this
/-- What those reach that a function reaches, it reaches. -/
theorem idxT_mem {L : List Bool} {k : Nat} {x : Int} : x ∈ idxT L k ↔ ∃ j : Nat, j < k ∧ x = (j : Int) ∧ L[j]? = some true := by
  induction k with
  | zero =>
    unfold idxT
    simp
  | succ k ih =>
    rw [idxT_succ, List.mem_append, ih]
    constructor
    · rintro (⟨j, h1, h2, h3⟩ | h)
      · exact ⟨j, by omega, h2, h3⟩
      · split at h
        · rename_i hk
          exact ⟨k, by omega, by simpa using h, hk⟩
        · simp at h
    · rintro ⟨j, h1, h2, h3⟩
      rcases Nat.lt_succ_iff_lt_or_eq.1 h1 with h4 | rfl
      · exact .inl ⟨j, h4, h2, h3⟩
      · refine .inr ?_
        rw [if_pos h3, h2]
        simp
theorem out_mem {p : List FnV} (hc : (chk p).1 = 0) {i : Nat} (hi : i < p.length) {xs : List Int} (h : Out p (i : Int) xs) {x : Int} : x ∈ xs ↔ ∃ j : Nat, x = (j : Int) ∧ Rch p i j := by
  unfold Out at h
  rw [if_pos ⟨hc, by unfold inN; rw [decide_eq_true (by omega), decide_eq_true (by omega)]; rfl⟩, Int.toNat_natCast] at h
  obtain ⟨L, hl, hs, hcl, rfl⟩ := h
  unfold idx
  rw [idxT_mem]
  constructor
  · rintro ⟨j, -, h1, h2⟩
    exact ⟨j, h1, hs j h2⟩
  · rintro ⟨j, h1, h2⟩
    exact ⟨j, by rw [hl]; exact rch_lt hc h2, h1, hcl.all h2⟩
theorem out_sub {p : List FnV} (hc : (chk p).1 = 0) {i : Nat} (hi : i < p.length) {xs : List Int} (h : Out p (i : Int) xs) {x : Int} (hx : x ∈ xs) {ys : List Int} (hy : Out p x ys) : ∀ y ∈ ys, y ∈ xs := by
  obtain ⟨j, rfl, hj⟩ := (out_mem hc hi h).1 hx
  intro y hm
  obtain ⟨k, rfl, hk⟩ := (out_mem hc (rch_lt hc hj) hy).1 hm
  exact (out_mem hc hi h).2 ⟨k, rfl, hj.trans hk⟩
end Ck
end Go.Proofs.YtkigoidklonhcaaGreatDoor
