/-
  Layer 13, plainly: a program that begins with another function is as good as it was.
-/
import Derived.Test.YtnlhacgihmelhaaGreatDoorEvM
import Derived.Test.YtnlhacgihmelhaaGreatDoorChL
namespace Go.Proofs.YtnlhacgihmelhaaGreatDoor
open Go.RowKit

namespace Ev
open Cd Ck
theorem opE_parts {p : List FnV} {f : FnV} {o : OpV} : opE p f o = 0 ↔ regsOk o f.regs = true ∧ tgtOk p.length f o = true ∧ argOk p f o = true := by
  unfold opE
  cases regsOk o f.regs <;> cases tgtOk p.length f o <;> cases argOk p f o <;> simp
theorem opE_begun {p : List FnV} {fn : Nat} {f : FnV} {o : OpV} (ho : o.k = 12 → 0 ≤ o.n) (h : opE p f o = 0) : opE (begun p fn) (shF f) (shO o) = 0 := by
  obtain ⟨k1, k2, k3, k4, k5⟩ := shO_k o
  obtain ⟨h1, h2, h3⟩ := opE_parts.1 h
  refine opE_parts.2 ⟨?_, ?_, ?_⟩
  · unfold regsOk at h1 ⊢
    rw [k1, k2, k3, k4]
    exact h1
  · unfold tgtOk at h2 ⊢
    rw [k1]
    have hl : (shF f).ops.length = f.ops.length := List.length_map ..
    rw [hl]
    by_cases e1 : o.k = 10 ∨ o.k = 11
    · rw [if_pos e1] at h2 ⊢
      rw [k5 (by omega)]
      exact h2
    · rw [if_neg e1] at h2 ⊢
      by_cases e2 : o.k = 12
      · rw [if_pos e2] at h2 ⊢
        rw [show (shO o).n = o.n + 1 by unfold shO; rw [if_pos e2]]
        unfold inN at h2 ⊢
        rw [Bool.and_eq_true, decide_eq_true_eq, decide_eq_true_eq] at h2 ⊢
        have : (begun p fn).length = p.length + 1 := by unfold begun; rw [List.length_cons, List.length_map]
        rw [this]
        omega
      · rw [if_neg e2]
  · unfold argOk at h3 ⊢
    rw [k1]
    by_cases e2 : o.k = 12
    · rw [if_pos e2] at h3 ⊢
      rw [argN_sim p fn e2 (ho e2), k3]
      exact h3
    · rw [if_neg e2]
theorem fnE_begun {p : List FnV} {fn : Nat} {f : FnV} (hf : ∀ o ∈ f.ops, o.k = 12 → 0 ≤ o.n) (h : (fnE p f).1 = 0) : (fnE (begun p fn) (shF f)).1 = 0 := by
  unfold fnE at h ⊢
  have hr : (shF f).regs = f.regs ∧ (shF f).args = f.args := ⟨rfl, rfl⟩
  rw [hr.1, hr.2]
  by_cases h1 : f.regs < f.args
  · rw [if_pos h1] at h
    exact absurd h (by decide)
  · rw [if_neg h1] at h ⊢
    by_cases h2 : (opsE p f f.ops 0).1 = 0
    · rw [if_pos h2] at h
      have h3 := opsE_zero h2
      have h4 : opsE (begun p fn) (shF f) (shF f).ops 0 = (0, 0) := opsE_no (fun i hi => by
        have hi2 : i < f.ops.length := by
          have : (shF f).ops.length = f.ops.length := List.length_map ..
          omega
        have : (shF f).ops[i] = shO f.ops[i] := List.getElem_map ..
        rw [this]
        exact opE_begun (hf _ (List.getElem_mem hi2)) (h3 _ (List.getElem_mem hi2)))
      rw [h4, if_pos rfl]
      unfold endE at h ⊢
      have h5 : (shF f).ops.getLast? = f.ops.getLast?.map shO := List.getLast?_map ..
      rw [h5]
      cases hl : f.ops.getLast? with
      | none => rw [hl] at h; exact h
      | some o =>
        rw [hl] at h
        simp only [Option.map_some] at h ⊢
        rw [(shO_k o).1]
        by_cases he : ends o.k = true
        · rw [if_pos he]
        · rw [if_neg he] at h
          exact absurd h (by show ¬ (113 : Nat) = 0; decide)
    · rw [if_neg h2] at h
      exact absurd h h2
theorem ok_begun {f : FnV} (h : f.ok = true) : (shF f).ok = true := by
  unfold FnV.ok at h ⊢
  simp only [Bool.and_eq_true, decide_eq_true_eq, List.all_eq_true] at h ⊢
  refine ⟨⟨h.1.1, ?_⟩, ?_⟩
  · have : (shF f).ops.length = f.ops.length := List.length_map ..
    rw [this]
    exact h.1.2
  · intro o ho
    obtain ⟨o', ho', rfl⟩ := List.mem_map.1 ho
    have h1 := h.2 o' ho'
    unfold shO
    split
    · rename_i e
      unfold OpV.ok OpV.bare OpV.less at h1 ⊢
      simp only [] at h1 ⊢
      rw [e] at h1 ⊢
      exact h1
    · exact h1
theorem fork_begun {p : List FnV} (h : (chk p).1 = 0) : ∀ f ∈ p, ∀ o ∈ f.ops, o.k = 12 → 0 ≤ o.n := fun f hf o ho hk => (chk_fork h f hf o ho hk).1
theorem chk_begun {p : List FnV} {fn : Nat} (h : (chk p).1 = 0) (hl : p.length < 16) (hfn : fn < p.length) : (chk (begun p fn)).1 = 0 := by
  have hne : p ≠ [] := fun e => by rw [e] at hfn; simp at hfn
  have hp : pok p = true := by
    cases hq : pok p with
    | true => rfl
    | false =>
      unfold chk at h
      rw [hq] at h
      exact absurd h (by show ¬ (8 : Nat) = 0; decide)
  have hall : ∀ f ∈ p, (fnE p f).1 = 0 := by
    unfold chk at h
    rw [if_pos hp, if_neg hne] at h
    exact fnsE_all h
  have hpb : pok (begun p fn) = true := by
    unfold pok at hp ⊢
    rw [Bool.and_eq_true, decide_eq_true_eq, List.all_eq_true] at hp ⊢
    have hlb : (begun p fn).length = p.length + 1 := by unfold begun; rw [List.length_cons, List.length_map]
    refine ⟨by omega, fun f hf => ?_⟩
    unfold begun at hf
    rcases List.mem_cons.1 hf with rfl | hf
    · rw [List.getElem?_eq_getElem hfn]
      exact ok_begun (hp.2 _ (List.getElem_mem hfn))
    · obtain ⟨f', hf', rfl⟩ := List.mem_map.1 hf
      exact ok_begun (hp.2 _ hf')
  unfold chk
  rw [if_pos hpb, if_neg (by unfold begun; simp)]
  rw [fnsE_no (fun i hi => ?_)]
  have hm : (begun p fn)[i] ∈ begun p fn := List.getElem_mem hi
  have key : ∀ g ∈ p, (fnE (begun p fn) (shF g)).1 = 0 := fun g hg => fnE_begun (fork_begun h g hg) (hall g hg)
  generalize (begun p fn)[i] = g at hm
  unfold begun at hm
  rcases List.mem_cons.1 hm with rfl | hm
  · rw [List.getElem?_eq_getElem hfn]
    exact key _ (List.getElem_mem hfn)
  · obtain ⟨g', hg', rfl⟩ := List.mem_map.1 hm
    exact key _ hg'
end Ev
end Go.Proofs.YtnlhacgihmelhaaGreatDoor
