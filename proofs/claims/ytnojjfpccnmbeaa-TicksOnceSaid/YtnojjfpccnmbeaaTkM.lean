/-
  Plain facts of timers: their order; what is due; two lists alike. No program.
-/
import Derived.Test.YtnojjfpccnmbeaaHeapM
import Derived.Sort.Walk0
namespace Go.Proofs.Ytnojjfpccnmbeaa.Tk
open Go

/-- A timer: its key, its tick. -/
abbrev Tm := ByteArray × Int
/-- By tick; of one tick, by key. -/
def lt (a b : Tm) : Bool := decide (a.2 < b.2) || (decide (a.2 = b.2) && decide (a.1.data.toList < b.1.data.toList))
theorem lt_iff (a b : Tm) : lt a b = true ↔ a.2 < b.2 ∨ (a.2 = b.2 ∧ a.1.data.toList < b.1.data.toList) := by
  unfold lt
  simp
theorem bytes_ext {a b : ByteArray} (h : a.data.toList = b.data.toList) : a = b := ByteArray.ext (Array.ext' h)
theorem lt_not (a b : Tm) : lt a b = false ↔ b.2 < a.2 ∨ (a.2 = b.2 ∧ ¬ a.1.data.toList < b.1.data.toList) := by
  rw [← Bool.not_eq_true, lt_iff]
  constructor
  · intro h
    by_cases e : a.2 = b.2
    · exact .inr ⟨e, fun h2 => h (.inr ⟨e, h2⟩)⟩
    · exact .inl (by have : ¬ a.2 < b.2 := fun h2 => h (.inl h2); omega)
  · rintro (h | ⟨h1, h2⟩) (k | ⟨k1, k2⟩)
    · omega
    · omega
    · omega
    · exact h2 k2
theorem ord : Heap.Ord lt :=
  ⟨fun a b h => by
    rw [lt_not]
    rcases (lt_iff a b).1 h with h | ⟨h1, h2⟩
    · exact .inl h
    · exact .inr ⟨h1.symm, List.lt_asymm h2⟩,
   fun a b c h1 h2 => by
    rw [lt_not] at h1 h2 ⊢
    rcases h1 with h1 | ⟨h1, k1⟩
    · rcases h2 with h2 | ⟨h2, k2⟩
      · exact .inl (by omega)
      · exact .inl (by omega)
    · rcases h2 with h2 | ⟨h2, k2⟩
      · exact .inl (by omega)
      · refine .inr ⟨by omega, fun h => ?_⟩
        have q1 : a.1.data.toList ≤ b.1.data.toList := List.not_lt.1 k1
        have q2 : b.1.data.toList ≤ c.1.data.toList := List.not_lt.1 k2
        exact absurd h (List.not_lt.2 (List.le_trans q1 q2))⟩
/-- Two of which none comes ahead of the other one are one. -/
theorem same {a b : Tm} (h1 : lt a b = false) (h2 : lt b a = false) : a = b := by
  rw [lt_not] at h1 h2
  rcases h1 with h1 | ⟨h1, k1⟩
  · rcases h2 with h2 | ⟨h2, k2⟩ <;> omega
  · rcases h2 with h2 | ⟨h2, k2⟩
    · omega
    · have e : a.1.data.toList = b.1.data.toList := List.le_antisymm (List.not_lt.1 k2) (List.not_lt.1 k1)
      exact Prod.ext (bytes_ext e) h1
/-- The one that is due first. -/
def First (l : List Tm) (x : Tm) : Prop := x ∈ l ∧ ∀ y ∈ l, lt y x = false
theorem First.one {l m : List Tm} (hp : l.Perm m) {x y : Tm} (hx : First l x) (hy : First m y) : x = y :=
  same (hy.2 x (hp.subset hx.1)) (hx.2 y (hp.symm.subset hy.1))
/-- What a Tick of a clock that comes to c tells, and what is left. -/
structure Due (c : Int) (l out rest : List Tm) : Prop where
  perm : (out ++ rest).Perm l
  row : out.Pairwise fun a b => lt b a = false
  told : ∀ x ∈ out, x.2 ≤ c
  left : ∀ x ∈ rest, c < x.2
theorem Due.one {c : Int} {l m o o' r r' : List Tm} (hp : l.Perm m) (h : Due c l o r) (k : Due c m o' r') : o = o' ∧ r.Perm r' := by
  have f : ∀ (o r : List Tm), (∀ x ∈ o, x.2 ≤ c) → (∀ x ∈ r, c < x.2) → (o ++ r).filter (fun x => decide (x.2 ≤ c)) = o ∧ (o ++ r).filter (fun x => !decide (x.2 ≤ c)) = r := fun o r h1 h2 => by
    rw [List.filter_append, List.filter_append]
    have a1 : o.filter (fun x => decide (x.2 ≤ c)) = o := List.filter_eq_self.2 fun x hx => by simpa using h1 x hx
    have a2 : r.filter (fun x => decide (x.2 ≤ c)) = [] := List.filter_eq_nil_iff.2 fun x hx => by have := h2 x hx; simp; omega
    have a3 : o.filter (fun x => !decide (x.2 ≤ c)) = [] := List.filter_eq_nil_iff.2 fun x hx => by have := h1 x hx; simp; omega
    have a4 : r.filter (fun x => !decide (x.2 ≤ c)) = r := List.filter_eq_self.2 fun x hx => by have := h2 x hx; simp; omega
    rw [a1, a2, a3, a4]
    simp
  have hall : (o ++ r).Perm (o' ++ r') := h.perm.trans (hp.trans k.perm.symm)
  have p1 := hall.filter (fun x => decide (x.2 ≤ c))
  have p2 := hall.filter (fun x => !decide (x.2 ≤ c))
  rw [(f o r h.told h.left).1, (f o' r' k.told k.left).1] at p1
  rw [(f o r h.told h.left).2, (f o' r' k.told k.left).2] at p2
  exact ⟨p1.eq_of_pairwise (fun a b _ _ h1 h2 => same h2 h1) h.row k.row, p2⟩
/-- By rising keys. -/
theorem keys_one {l m : List Tm} (hp : l.Perm m) (h1 : l.Pairwise fun a b => a.1.data.toList < b.1.data.toList) (h2 : m.Pairwise fun a b => a.1.data.toList < b.1.data.toList) : l = m :=
  hp.eq_of_pairwise (fun _ _ _ _ h3 h4 => absurd h4 (List.lt_asymm h3)) h1 h2
end Go.Proofs.Ytnojjfpccnmbeaa.Tk
