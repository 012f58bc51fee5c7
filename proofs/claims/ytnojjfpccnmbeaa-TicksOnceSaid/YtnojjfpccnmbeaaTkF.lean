/-
  The document's timers: All.
-/
import Derived.Test.YtnojjfpccnmbeaaTkE
import Derived.Maps.AppendAt
import Derived.Laws.OwnMore
import Derived.Lib.AppendZeros
namespace Go.Proofs.Ytnojjfpccnmbeaa
open Go.RowKit

namespace Tk
def kl (a b : Tm) : Prop := a.1.data.toList < b.1.data.toList
theorem kl_not {a b : Tm} (h : ¬ kl a b) (hne : a.1 ≠ b.1) : kl b a := by
  have h1 : b.1.data.toList ≤ a.1.data.toList := List.not_lt.1 h
  rcases List.le_iff_lt_or_eq.1 h1 with h2 | h2
  · exact h2
  · exact absurd (bytes_ext h2).symm hne
theorem ins_ok {l out : List Tm} {j q : Nat} (hj : j < l.length) (hd : Dist l) (hp : out.Perm (l.take j)) (hs : out.Pairwise kl) (hlo : ∀ y ∈ out.take q, kl y l[j]) (hhi : ∀ y, out[q]? = some y → ¬ kl y l[j]) :
    (out.take q ++ l[j] :: out.drop q).Perm (l.take (j + 1)) ∧ (out.take q ++ l[j] :: out.drop q).Pairwise kl := by
  have hne : ∀ y ∈ out, y.1 ≠ (l[j]).1 := fun y hy => by
    have hy2 := hp.subset hy
    have h2 := hd
    rw [← List.take_append_drop j l] at h2
    refine (List.pairwise_append.1 h2).2.2 y hy2 _ ?_
    rw [List.drop_eq_getElem_cons hj]
    exact List.mem_cons_self ..
  have hsplit := hs
  rw [← List.take_append_drop q out] at hsplit
  obtain ⟨s1, s2, s3⟩ := List.pairwise_append.1 hsplit
  constructor
  · have e1 : (out.take q ++ l[j] :: out.drop q).Perm (l[j] :: out) := by
      refine List.perm_middle.trans ?_
      rw [List.take_append_drop]
    rw [List.take_succ_eq_append_getElem hj]
    exact e1.trans ((List.Perm.cons _ hp).trans (List.perm_append_singleton ..).symm)
  · have hup : ∀ y ∈ out.drop q, kl l[j] y := fun y hy => by
      rcases Nat.lt_or_ge q out.length with h | h
      · rw [List.drop_eq_getElem_cons h] at hy s2
        have h0 : kl l[j] out[q] := kl_not (hhi _ (List.getElem?_eq_getElem h)) (hne _ (List.getElem_mem h))
        rcases List.mem_cons.1 hy with rfl | hy
        · exact h0
        · exact List.lt_trans h0 ((List.pairwise_cons.1 s2).1 y hy)
      · rw [List.drop_of_length_le h] at hy
        simp at hy
    refine List.pairwise_append.2 ⟨s1, List.pairwise_cons.2 ⟨hup, s2⟩, fun y hy z hz => ?_⟩
    rcases List.mem_cons.1 hz with rfl | hz
    · exact hlo y hy
    · exact s3 y hy z hz
theorem tm_cells : (Try.prog.info? 42).map (fun i => (i.zero, i.size, i.bytes)) = some (some (.agg #[.string ⟨#[]⟩, .int .i64 0]), 2, 24) := by kernel_rfl
/-- Timers that lie somewhere are appended to a row of the call's own. -/
theorem append_tms (w : World) (base : Nat) (v : Value) (n : Nat) (xs : List Value) (hown : w.ownsRow base 42 2 v n xs) (A : Option Addr) (m c : Nat) (news : List Value) (hl : news.length = m * 2)
    (hsrc : 0 < m → ∃ ad, A = some ad ∧ ∀ j u, news[j]? = some u → w.cell? (ad.add j) = some u) (h1 : ∀ u ∈ news, u.oneCell' = true) (hn : n + m ≤ 1000000) (hbase : base ≤ w.heap.size) (ty : TypeId) :
    ∃ v' w', (Builtin.append_ #[28, 28] ty #[v, .slice A m c]).run Try.prog w = .ok v' w' ∧ w'.ownsRow base 42 2 v' (n + m) (xs ++ news) ∧ w.grownBy w' v.ownBlock := by
  obtain ⟨i, hi, hz⟩ := Option.map_eq_some_iff.1 tm_cells
  simp only [Prod.mk.injEq] at hz
  obtain ⟨z1, z2, z3⟩ := hz
  have hmax : n + m ≤ maxLen := by unfold maxLen; omega
  cases A with
  | some ad =>
    obtain ⟨v', w', a, b, d, _⟩ := run_append_own_at (P := Try.prog) w base 28 ty 42 i _ 2 24 Try.underlying28 hi z1 z2 z3 rfl (by omega) v n xs hown ad m c news hl (fun j u hu => by
      obtain ⟨ad', e, hc⟩ := hsrc (by have := (List.getElem?_eq_some_iff.1 hu).1; omega)
      cases e
      exact hc j u hu) h1 hmax (by omega) hbase
    exact ⟨v', w', a, b, d⟩
  | none =>
    have hm : m = 0 := by
      rcases Nat.eq_zero_or_pos m with h | h
      · exact h
      · obtain ⟨_, e, _⟩ := hsrc h
        cases e
    subst hm
    have hnil : news = [] := List.eq_nil_of_length_eq_zero (by omega)
    subst hnil
    refine ⟨v, w, ?_, by simpa using hown, ⟨rfl, rfl, rfl, Nat.le_refl _, fun _ _ _ => rfl⟩⟩
    rcases hown.2 with ⟨rfl, rfl⟩ | ⟨g, cap, cur, rfl, _, _, hnc, _⟩
    · simp [Builtin.append_, run_underlying (P := Try.prog) Try.underlying28, sizeOf, typeInfo, hi, Builtin.lenOf, Builtin.firstCells]
    · simp [Builtin.append_, run_underlying (P := Try.prog) Try.underlying28, sizeOf, typeInfo, hi, Builtin.lenOf, Builtin.firstCells, hnc, storeCells]
theorem tslice_front (A : Option Addr) (n c k : Nat) (hk : k ≤ c) (w : World) : (Instr.slice 28 (.slice A n c) none (some (.int .i64 (k : Int))) none).run Try.prog w = .ok (.slice A k c) w := by
  unfold Instr.slice Instr.sliceBounds Instr.sliceBound
  have h1 : (0 : Int) ≤ (k : Int) ∧ (k : Int) ≤ (c : Int) := by omega
  have h0 : Option.map (fun x : Addr => x.add 0) A = A := by cases A <;> rfl
  simp [go_sem, h1]
  intro h
  omega
/-- The rest of a slice. -/
def trest (A : Option Addr) (c k : Nat) : Option Addr := if c = k then A else A.map fun x : Addr => x.add (k * 2)
theorem tslice_back (A : Option Addr) (n c k : Nat) (hk : k ≤ n) (w : World) : (Instr.slice 28 (.slice A n c) (some (.int .i64 (k : Int))) none none).run Try.prog w = .ok (.slice (trest A c k) (n - k) (c - k)) w := by
  unfold Instr.slice Instr.sliceBounds Instr.sliceBound trest
  have h1 : (0 : Int) ≤ (k : Int) ∧ (k : Int) ≤ (n : Int) := by omega
  simp [go_sem, h1]
  intro h
  omega
theorem tks_one : ∀ (l : List Tm), ∀ u ∈ tks l, u.oneCell' = true := by
  intro l u hu
  unfold tks at hu
  obtain ⟨x, _, hx⟩ := List.mem_flatMap.1 hu
  rcases List.mem_cons.1 hx with rfl | hx
  · rfl
  · rw [List.mem_singleton.1 hx]; rfl
theorem tks_take (l : List Tm) (k : Nat) : tks (l.take k) = (tks l).take (2 * k) := by
  induction l generalizing k with
  | nil => simp [tks]
  | cons x l ih =>
    cases k with
    | zero => simp [tks]
    | succ k =>
      rw [List.take_succ_cons, tks_cons, tks_cons, ih, show 2 * (k + 1) = 2 * k + 2 by omega]
      rfl
theorem tks_drop (l : List Tm) (k : Nat) : tks (l.drop k) = (tks l).drop (2 * k) := by
  induction l generalizing k with
  | nil => simp [tks]
  | cons x l ih =>
    cases k with
    | zero => simp
    | succ k =>
      rw [List.drop_succ_cons, tks_cons, ih, show 2 * (k + 1) = 2 * k + 2 by omega]
      rfl
end Tk
end Go.Proofs.Ytnojjfpccnmbeaa
