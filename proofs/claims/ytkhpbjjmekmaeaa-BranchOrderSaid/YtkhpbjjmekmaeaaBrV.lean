/-
  Rows of texts, written in place.
-/
import Derived.Test.YtkhpbjjmekmaeaaBrB
namespace Go.Proofs.Ytkhpbjjmekmaeaa
open Go.RowKit

namespace Br
/-- Block B is a row that reads as these texts, and may be written. -/
def Txts (B : Nat) (l : List ByteArray) (w : World) : Prop := B < w.heap.size ∧ ∀ i (h : i < l.length), w.cell? ⟨B, i, none⟩ = some (.string l[i]) ∧ w.frozen? ⟨B, i, none⟩ = false
theorem Txts.keep {B : Nat} {l : List ByteArray} {w w' : World} (h : Txts B l w) (he : w'.heap[B]? = w.heap[B]?) : Txts B l w' := by
  refine ⟨?_, fun i hi => ⟨(World.cell?_of_block he).trans (h.2 i hi).1, by
    have := (h.2 i hi).2
    unfold World.frozen? at this ⊢
    rw [he]
    exact this⟩⟩
  have h1 : w.heap[B]? ≠ none := by rw [Array.getElem?_eq_getElem h.1]; simp
  rw [← he] at h1
  by_cases h2 : B < w'.heap.size
  · exact h2
  · exact absurd (Array.getElem?_eq_none (by omega)) h1
theorem Txts.lies {B : Nat} {l : List ByteArray} {w : World} (h : Txts B l w) : Lies w w.heap.size (some ⟨B, 0, none⟩) (tcells l) := fun _ => ⟨_, rfl, h.1, fun j u hu => by
  have hj := (List.getElem?_eq_some_iff.1 hu).1
  unfold tcells at hj
  rw [List.length_map] at hj
  rw [Addr.add_mid, Nat.zero_add, (h.2 j hj).1, ← hu, tcells_at hj]⟩
theorem Txts.set {B : Nat} {l : List ByteArray} {w : World} (h : Txts B l w) (q : Nat) (hq : q < l.length) (v : ByteArray) : Txts B (l.set q v) (w.setCell ⟨B, q, none⟩ (.string v)) := by
  refine ⟨by simpa [World.setCell] using h.1, fun i hi => ?_⟩
  have hi' : i < l.length := by simpa using hi
  refine ⟨?_, by rw [World.frozen?_setCell]; exact (h.2 i hi').2⟩
  by_cases e : i = q
  · subst e
    rw [World.cell?_setCell_same _ _ _ (h.2 i hi').1, List.getElem_set_self]
  · rw [World.cell?_setCell_other _ _ _ _ (by intro hh; injection hh with _ h2 _; omega), List.getElem_set_ne (fun h => e h.symm)]
    exact (h.2 i hi').1
theorem Txts.made {w : World} {B n : Nat} {T : TypeId} (hB : B < w.heap.size) (h : w.heap[B]? = some (.cells (madeCells #[.string ⟨#[]⟩] n) T (0, 0))) : Txts B (List.replicate n ⟨#[]⟩) w := by
  refine ⟨hB, fun i hi => ?_⟩
  have hi' : i < n := by simpa using hi
  refine ⟨?_, ?_⟩
  · rw [cell_of_row w B i _ _ _ h, Array.getElem?_eq_getElem (by rw [size_madeCells]; exact hi')]
    simp [madeCells, Nat.mod_one]
  · unfold World.frozen?
    rw [h]
    simp
/-- None comes ahead of one ahead of it. -/
def Up (l : List ByteArray) : Prop := l.Pairwise fun a b => ¬ b.data.toList < a.data.toList
theorem up_eq {a b : List ByteArray} (hp : a.Perm b) (ha : Up a) (hb : Up b) : a = b := by
  refine List.Perm.eq_of_pairwise (fun x y _ _ h1 h2 => ?_) ha hb hp
  apply ByteArray.ext
  apply Array.toList_inj.1
  exact List.le_antisymm (List.not_lt.1 h1) (List.not_lt.1 h2)
end Br
end Go.Proofs.Ytkhpbjjmekmaeaa
