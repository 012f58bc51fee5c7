/-
  The document's Sort (layer 12): a copy, sorted by swaps.
-/
import Derived.Test.YtkhpbjjmekmaeaaBrS
import Derived.Lib.OwnBridge
import Derived.Test.YtkhpbjjmekmaeaaBrV
import Derived.Deep.QuietTactic
import Derived.Laws.OwnMore
import Derived.Maps.AppendAt
import Derived.Lib.AppendZeros
namespace Go.Proofs.Ytkhpbjjmekmaeaa
open Go.RowKit

namespace Br
theorem str_info : (Try.prog.info? 9).map (fun i => (i.zero, i.size, i.bytes)) = some (some (.string ⟨#[]⟩), 1, 16) := by kernel_rfl
theorem tcells_len (l : List ByteArray) : (tcells l).length = l.length := by unfold tcells; rw [List.length_map]
theorem tcells_one (l : List ByteArray) : ∀ u ∈ tcells l, u.oneCell' = true := fun u hu => by
  obtain ⟨x, _, rfl⟩ := List.mem_map.1 hu
  rfl
/-- append([]string{}, l...), the empty list just made. -/
theorem copied (w : World) (A : Option Addr) (c : Nat) (l : List ByteArray) (hl : Lies w w.heap.size A (tcells l)) (nl : l.length ≤ 100000) (ty : TypeId) :
    ∃ g cap w', (Builtin.append_ #[32, 32] ty #[.slice (some ⟨w.heap.size, 0, none⟩) 0 0, .slice A l.length c]).run Try.prog (w.alloc (.cells #[] 9)) = .ok (.slice (some ⟨g, 0, none⟩) l.length cap) w' ∧ Txts g l w' ∧ w.heap.size ≤ g ∧ Below w.heap.size w w' := by
  obtain ⟨i, hi, hz⟩ := Option.map_eq_some_iff.1 str_info
  simp only [Prod.mk.injEq] at hz
  obtain ⟨z1, z2, z3⟩ := hz
  have hown : (w.alloc (.cells #[] 9)).ownsRow w.heap.size 9 1 (.slice (some ⟨w.heap.size, 0, none⟩) 0 0) 0 [] := ⟨rfl, .inr ⟨w.heap.size, 0, #[], rfl, Nat.le_refl _, heap_alloc_new w _, Nat.le_refl _, Nat.zero_le _, rfl, rfl⟩⟩
  have hb : Below w.heap.size w (w.alloc (.cells #[] 9)) := (Below.refl _ _).alloc (Nat.le_refl _) _
  cases A with
  | none =>
    have h0 : l = [] := by
      cases l with
      | nil => rfl
      | cons x xs => obtain ⟨_, e, _⟩ := hl (by rw [tcells_len]; simp); cases e
    subst h0
    refine ⟨w.heap.size, 0, w.alloc (.cells #[] 9), ?_, ⟨by simp, fun i hi => absurd hi (by simp)⟩, Nat.le_refl _, hb⟩
    simp [Builtin.append_, run_underlying (P := Try.prog) Try.underlying32, sizeOf, typeInfo, hi, Builtin.lenOf, Builtin.firstCells, storeCells]
  | some ad =>
    obtain ⟨v', w', a, b, d, e1, -⟩ := run_append_own_at (P := Try.prog) (w.alloc (.cells #[] 9)) w.heap.size 32 ty 9 i _ 1 16 Try.underlying32 hi z1 z2 z3 rfl (by omega) _ 0 [] hown ad l.length c (tcells l) (by rw [tcells_len, Nat.mul_one]) (fun j u hu => by
      obtain ⟨ad', e, hab, hc⟩ := hl (by have := (List.getElem?_eq_some_iff.1 hu).1; omega)
      cases e
      rw [hb.cell (by rw [Lies.add_block]; exact hab)]
      exact hc j u hu) (tcells_one l) (by unfold maxLen; omega) (by omega) hb.size
    have b2 : w'.ownsRow w.heap.size 9 1 v' l.length (tcells l) := by simpa using b
    have hg : Below w.heap.size w w' := hb.grown d hb.size (fun k hk => by cases hk; exact Nat.le_refl _)
    have b3 := b2
    rcases b2.2 with ⟨rfl, h0'⟩ | ⟨g, cap, cur, rfl, hge, -⟩
    · exact absurd (e1.1 rfl).1 (by simp)
    · refine ⟨g, cap, w', a, ⟨(b3.lt g rfl).2, fun i hi => ⟨?_, b3.frozenAt i⟩⟩, hge, hg⟩
      rw [b3.cellAt i (by omega), tcells_at hi]
end Br

namespace Br
def at0 (M : List ByteArray) (k : Nat) : List UInt8 := (M[k]?.getD ⟨#[]⟩).data.toList
theorem at0_eq {M : List ByteArray} {k : Nat} (h : k < M.length) : at0 M k = M[k].data.toList := by unfold at0; rw [List.getElem?_eq_getElem h]; rfl
/-- The first n are in order. -/
def UpTo (n : Nat) (M : List ByteArray) : Prop := ∀ p q, p < q → q < n → ¬ at0 M q < at0 M p
/-- The first i + 1 are in order but for that at k, ahead of which all behind it stand. -/
def But (i k : Nat) (M : List ByteArray) : Prop := (∀ p q, p < q → q ≤ i → p ≠ k → q ≠ k → ¬ at0 M q < at0 M p) ∧ (∀ q, k < q → q ≤ i → ¬ at0 M q < at0 M k)
theorem UpTo.but {i : Nat} {M : List ByteArray} (h : UpTo i M) : But i i M := ⟨fun p q h1 h2 h3 h4 => h p q h1 (by omega), fun q h1 h2 => by omega⟩
theorem le_tr {a b c : List UInt8} (h1 : ¬ b < a) (h2 : ¬ c < b) : ¬ c < a := List.not_lt.2 (List.le_trans (List.not_lt.1 h1) (List.not_lt.1 h2))
theorem But.done {i k : Nat} {M : List ByteArray} (h : But i k M) (hk : k ≤ i) (he : k = 0 ∨ ¬ at0 M k < at0 M (k - 1)) : UpTo (i + 1) M := by
  intro p q hpq hq
  by_cases h1 : p = k
  · subst h1
    exact h.2 q hpq (by omega)
  · by_cases h2 : q = k
    · subst h2
      rcases he with he | he
      · omega
      · by_cases h3 : p = q - 1
        · rw [h3]; exact he
        · exact le_tr (h.1 p (q - 1) (by omega) (by omega) h1 (by omega)) he
    · exact h.1 p q hpq (by omega) h1 h2
def swp (M : List ByteArray) (k : Nat) (x y : ByteArray) : List ByteArray := (M.set k y).set (k - 1) x
theorem swp_at {M : List ByteArray} {k : Nat} (hk : k < M.length) (h0 : 0 < k) (x y : ByteArray) : at0 (swp M k x y) k = y.data.toList ∧ at0 (swp M k x y) (k - 1) = x.data.toList ∧ ∀ j, j ≠ k → j ≠ k - 1 → at0 (swp M k x y) j = at0 M j := by
  unfold at0 swp
  refine ⟨?_, ?_, fun j h1 h2 => ?_⟩
  · rw [List.getElem?_set_ne (by omega), List.getElem?_set_self hk]; rfl
  · rw [List.getElem?_set_self (by rw [List.length_set]; omega)]; rfl
  · rw [List.getElem?_set_ne (by omega), List.getElem?_set_ne (by omega)]
theorem But.step {i k : Nat} {M : List ByteArray} (h : But i k M) (hk : k ≤ i) (hi : i < M.length) (h0 : 0 < k) (he : at0 M k < at0 M (k - 1)) : But i (k - 1) (swp M k (M[k]'(by omega)) (M[k - 1]'(by omega))) := by
  obtain ⟨s1, s2, s3⟩ := swp_at (by omega : k < M.length) h0 (M[k]'(by omega)) (M[k - 1]'(by omega))
  rw [← at0_eq] at s1 s2
  refine ⟨fun p q hpq hq h1 h2 => ?_, fun q hkq hq => ?_⟩
  · by_cases h3 : p = k
    · subst h3
      rw [s1, s3 q (by omega) h2]
      exact h.1 (p - 1) q (by omega) hq (by omega) (by omega)
    · by_cases h4 : q = k
      · subst h4
        rw [s1, s3 p h3 h1]
        exact h.1 p (q - 1) (by omega) (by omega) h3 (by omega)
      · rw [s3 p h3 h1, s3 q h4 h2]
        exact h.1 p q hpq hq h3 h4
  · rw [s2]
    by_cases h4 : q = k
    · subst h4
      rw [s1]
      exact List.lt_asymm he
    · rw [s3 q h4 (by omega)]
      exact h.2 q (by omega) hq
theorem swp_perm {M : List ByteArray} {k : Nat} (hk : k < M.length) (h0 : 0 < k) : (swp M k (M[k]'hk) (M[k - 1]'(by omega))).Perm M := by
  have h := Array.swap_perm (xs := M.toArray) (i := k) (j := k - 1) (by simpa using hk) (by simp; omega)
  have h2 := Array.perm_iff_toList_perm.1 h
  unfold Array.swap at h2
  simpa [swp] using h2
theorem upTo_up {M : List ByteArray} (h : UpTo M.length M) : Up M := by
  refine List.pairwise_iff_getElem.2 fun p q hp hq hlt => ?_
  have := h p q hlt hq
  rwa [at0_eq hp, at0_eq hq] at this
end Br
end Go.Proofs.Ytkhpbjjmekmaeaa
