/-
  Contracts of num.Uint and num.Int: a number's bytes.
-/
import Derived.Test.YtndgafjnifkghaaDoorNumZ
namespace Go.Proofs.YtndgafjnifkghaaDoor
open Go.RowKit

/-- A buffer of ten bytes at the head of block B, the first k of which are those of l. -/
def Num.Buf (B k : Nat) (l : List UInt8) (w : World) : Prop :=
  (∀ j, j < k → w.cell? ⟨B, j, none⟩ = some (.int .u8 ((l[j]?.getD 0).toNat : Int))) ∧ (∀ j, j < 10 → ∃ v, w.cell? ⟨B, j, none⟩ = some v ∧ w.frozen? ⟨B, j, none⟩ = false)

theorem Num.Buf.set {B k : Nat} {l : List UInt8} {w : World} (h : Num.Buf B k l w) (hk : k < 10) (v : Int) (hv : v = ((l[k]?.getD 0).toNat : Int)) :
    Num.Buf B (k + 1) l (w.setCell ⟨B, k, none⟩ (.int .u8 v)) := by
  refine ⟨fun j hj => ?_, fun j hj => ?_⟩
  · by_cases e : j = k
    · subst e
      obtain ⟨u, hu, _⟩ := h.2 j hk
      rw [World.cell?_setCell_same _ _ _ hu, hv]
    · rw [World.cell?_setCell_other _ _ _ _ (by intro hh; injection hh with _ h2 _; exact e h2.symm)]
      exact h.1 j (by omega)
  · obtain ⟨u, hu, hf⟩ := h.2 j hj
    obtain ⟨v', hv'⟩ := cell?_setCell_some (p := ⟨B, k, none⟩) (x := .int .u8 v) hu
    exact ⟨v', hv', by rw [World.frozen?_setCell]; exact hf⟩

/-- A list of bytes, as the numbers that its cells hold. -/
def Num.nums (l : List UInt8) : List Int := l.map fun b => (b.toNat : Int)

theorem Num.strOf_nums (l : List UInt8) : strOfNums (Num.nums l) = ⟨l.toArray⟩ := by
  unfold strOfNums Num.nums
  rw [List.map_map]
  have : ((fun n : Int => UInt8.ofNat n.toNat) ∘ fun b : UInt8 => (b.toNat : Int)) = id := by
    funext b
    simp
  rw [this, List.map_id]

end Go.Proofs.YtndgafjnifkghaaDoor
