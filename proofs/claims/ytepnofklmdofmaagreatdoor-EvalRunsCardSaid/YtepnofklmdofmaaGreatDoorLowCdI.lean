/-
  The contract of code.op: an op's bytes.
  strings.Builder.WriteString, with what it lets alone; plain facts of a program's bytes.
  Contracts of code.program (a program's bytes), bound, Encode.
  Contracts of code.bound, Encode.
-/
import Derived.Test.YtepnofklmdofmaaGreatDoorLowCdF
section
namespace Go.Proofs.YtepnofklmdofmaaGreatDoor
open Go.RowKit

namespace Cd
theorem OpV.ok_reg {o : OpV} (h : o.ok = true) : reg o.d = true ∧ reg o.a = true ∧ reg o.b = true := by
  unfold OpV.ok at h
  simp only [Bool.and_eq_true] at h
  exact ⟨h.1.2.1.1, h.1.2.1.2, h.1.2.2⟩
theorem regs_ids (o : OpV) : o.regs = (ids (hD o.k) (hA o.k) (hB o.k)).map o.getI := by
  unfold OpV.regs ids
  cases hD o.k <;> cases hA o.k <;> cases hB o.k <;> rfl
theorem getI_reg {o : OpV} (h : o.ok = true) {i : Nat} (hi : i = 1 ∨ i = 2 ∨ i = 3) : ∃ y : Nat, o.getI i = (y : Int) ∧ y ≤ 16 := by
  obtain ⟨h1, h2, h3⟩ := OpV.ok_reg h
  rw [reg_iff] at h1 h2 h3
  have key : ∀ x : Int, 0 ≤ x ∧ x ≤ 16 → ∃ y : Nat, x = (y : Int) ∧ y ≤ 16 := fun x hx => ⟨x.toNat, by omega, by omega⟩
  rcases hi with rfl | rfl | rfl
  · exact key _ h1
  · exact key _ h2
  · exact key _ h3
/-- An op's bytes, as far as register j. -/
def OpV.front (o : OpV) (j : Nat) : List UInt8 := Lib.uvarint o.k ++ ((ids (hD o.k) (hA o.k) (hB o.k)).take j).flatMap fun i => uv (o.getI i)
theorem front_succ (o : OpV) (j : Nat) (h : j < (ids (hD o.k) (hA o.k) (hB o.k)).length) : o.front (j + 1) = o.front j ++ uv (o.getI (ids (hD o.k) (hA o.k) (hB o.k))[j]) := by
  unfold OpV.front
  rw [List.take_succ_eq_append_getElem h, List.flatMap_append, List.append_assoc]
  simp
theorem front_all (o : OpV) : o.bytes = o.front (ids (hD o.k) (hA o.k) (hB o.k)).length ++ (if hN o.k then Lib.uvarint (Lib.zigzag o.n) else []) := by
  unfold OpV.bytes OpV.front
  rw [List.take_of_length_le (Nat.le_refl _), regs_ids, List.flatMap_map]
theorem uv_len (x : Int) (hx : x ≤ 9223372036854775807) : (uv x).length ≤ 10 := Lib.uvarint_length64 (by omega)
theorem getI_max {o : OpV} (h : o.Rng) (i : Nat) : o.getI i ≤ 9223372036854775807 := by
  unfold OpV.getI
  have h1 := h.d.2
  have h2 := h.a.2
  have h3 := h.b.2
  split
  · exact h1
  · split
    · exact h2
    · exact h3
theorem regs_len {o : OpV} (h : o.Rng) (l : List Nat) : (l.flatMap fun i => uv (o.getI i)).length ≤ 10 * l.length := by
  induction l with
  | nil => simp
  | cons i l ih =>
    have := uv_len _ (getI_max h i)
    rw [List.flatMap_cons, List.length_append, List.length_cons]
    omega
theorem ids_len (d a b : Bool) : (ids d a b).length ≤ 3 := by cases d <;> cases a <;> cases b <;> decide
end Cd

end Go.Proofs.YtepnofklmdofmaaGreatDoor
end

section
namespace Go.Proofs.YtepnofklmdofmaaGreatDoor
open Go.RowKit

namespace Cd
theorem OpV.bytes_len {o : OpV} (h : o.Rng) : o.bytes.length ≤ 50 := by
  rw [front_all]
  unfold OpV.front
  have h1 := Lib.uvarint_length64 (x := o.k) (by have := h.k; omega)
  have h2 := regs_len h ((ids (hD o.k) (hA o.k) (hB o.k)).take (ids (hD o.k) (hA o.k) (hB o.k)).length)
  have h3 := ids_len (hD o.k) (hA o.k) (hB o.k)
  have h4 := Lib.uvarint_length64 (Lib.zigzag_lt h.n.1 h.n.2)
  rw [List.length_append, List.length_append]
  rw [List.length_take] at h2
  have h5 : (if hN o.k = true then Lib.uvarint (Lib.zigzag o.n) else []).length ≤ 10 := by
    split
    · exact h4
    · simp
  omega
theorem obs_snoc (l : List OpV) (o : OpV) : obs (l ++ [o]) = obs l ++ o.bytes := by unfold obs; simp
theorem fbs_snoc (l : List FnV) (f : FnV) : fbs (l ++ [f]) = fbs l ++ f.bytes := by unfold fbs; simp
/-- A function's bytes ahead of its ops. -/
def FnV.head (f : FnV) : List UInt8 := uv f.args ++ uv f.regs ++ Lib.uvarint f.ops.length
theorem FnV.bytes_head (f : FnV) : f.bytes = f.head ++ obs f.ops := rfl
theorem FnV.ok_parts {f : FnV} (h : f.ok = true) : (∃ y : Nat, f.args = (y : Int) ∧ y ≤ 16) ∧ (∃ y : Nat, f.regs = (y : Int) ∧ y ≤ 16) ∧ f.ops.length ≤ 64 ∧ ∀ o ∈ f.ops, o.ok = true := by
  unfold FnV.ok at h
  simp only [Bool.and_eq_true, decide_eq_true_eq, List.all_eq_true] at h
  obtain ⟨⟨⟨h1, h2⟩, h3⟩, h4⟩ := h
  rw [reg_iff] at h1 h2
  exact ⟨⟨f.args.toNat, by omega, by omega⟩, ⟨f.regs.toNat, by omega, by omega⟩, h3, h4⟩
end Cd


/-! ### WriteString, and what it lets alone -/
end Go.Proofs.YtepnofklmdofmaaGreatDoor
end

section
namespace Go.Proofs.YtepnofklmdofmaaGreatDoor
open Go.RowKit

theorem uBytes_len10 (xs : List Nat) (h : ∀ x ∈ xs, x < 18446744073709551616) : (uBytes xs).length ≤ 10 * xs.length := by
  induction xs with
  | nil => simp [uBytes]
  | cons x xs ih =>
    have h1 := Lib.uvarint_length64 (h x (by simp))
    have h2 := ih (fun z hz => h z (by simp [hz]))
    have e : uBytes (x :: xs) = Lib.uvarint x ++ uBytes xs := by unfold uBytes; rw [List.flatMap_cons]
    rw [e, List.length_append, List.length_cons]
    omega

end Go.Proofs.YtepnofklmdofmaaGreatDoor
end

section
namespace Go.Proofs.YtepnofklmdofmaaGreatDoor
open Go.RowKit

namespace Cd
/-- What Encode tells: the bytes, the code. -/
def enc (p : List FnV) : List UInt8 × Int := if pok p then (if 16384 < (pbs p).length then ([], 4) else (pbs p, 0)) else ([], 2)
theorem obs_len {l : List OpV} (h : ∀ o ∈ l, o.Rng) : (obs l).length ≤ 50 * l.length := by
  induction l with
  | nil => simp [obs]
  | cons o l ih =>
    have h1 := OpV.bytes_len (h o (by simp))
    have h2 := ih (fun z hz => h z (by simp [hz]))
    have e : obs (o :: l) = o.bytes ++ obs l := by unfold obs; rw [List.flatMap_cons]
    rw [e, List.length_append, List.length_cons]
    omega
theorem FnV.bytes_len {f : FnV} (h : f.Rng) (hl : f.ops.length ≤ 64) : f.bytes.length ≤ 3230 := by
  rw [FnV.bytes_head, List.length_append]
  have h1 := obs_len h.ops
  unfold FnV.head
  rw [List.length_append, List.length_append]
  have h2 := uv_len f.args h.args.2
  have h3 := uv_len f.regs h.regs.2
  have h4 := Lib.uvarint_length64 (x := f.ops.length) (by omega)
  omega
theorem fbs_len {l : List FnV} (h : ∀ f ∈ l, f.Rng ∧ f.ops.length ≤ 64) : (fbs l).length ≤ 3230 * l.length := by
  induction l with
  | nil => simp [fbs]
  | cons f l ih =>
    have h1 := FnV.bytes_len (h f (by simp)).1 (h f (by simp)).2
    have h2 := ih (fun z hz => h z (by simp [hz]))
    have e : fbs (f :: l) = f.bytes ++ fbs l := by unfold fbs; rw [List.flatMap_cons]
    rw [e, List.length_append, List.length_cons]
    omega
theorem pbs_len {p : List FnV} (hR : ∀ f ∈ p, f.Rng) (hk : pok p = true) : (pbs p).length ≤ 100000 := by
  unfold pok at hk
  simp only [Bool.and_eq_true, decide_eq_true_eq, List.all_eq_true] at hk
  have h1 := fbs_len (l := p) (fun f hf => ⟨hR f hf, (FnV.ok_parts (hk.2 f hf)).2.2.1⟩)
  unfold pbs
  rw [List.length_append, List.length_append]
  have h2 := Lib.uvarint_length64 (x := p.length) (by omega)
  have h3 := Lib.uvarint_length64 (x := 1) (by omega)
  omega
theorem fns_rng {l : List Fm} (h : ∀ m ∈ l, m.f.Rng) : ∀ f ∈ fns l, f.Rng := fun f hf => by
  obtain ⟨m, hm, rfl⟩ := List.mem_map.1 hf
  exact h m hm
end Cd

end Go.Proofs.YtepnofklmdofmaaGreatDoor
end
