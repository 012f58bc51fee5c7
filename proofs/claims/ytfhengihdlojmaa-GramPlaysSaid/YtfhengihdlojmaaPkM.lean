/-
  append([]int(nil), s.To...): numbers that came in, in a slice of the call's own; at a step of a region that draws its order.
-/
import Derived.Test.YtfhengihdlojmaaPkL
import Derived.Lib.AppendZeros
import Derived.Maps.AppendAt
namespace Go.Proofs.Ytfhengihdlojmaa
open Go.RowKit

namespace Gm
theorem intCells : (Try.prog.info? 3).map (fun i => (i.zero, i.size, i.bytes)) = some (some (.int .i64 0), 1, 8) := by kernel_rfl

theorem copy_ints (w : World) (tos : List Int) (A : Option Addr) (c : Nat) (hl : Lies w w.heap.size A (icells tos)) (hn : tos.length ≤ 1000) (ty : TypeId) :
    ∃ A' c' w', (Builtin.append_ #[33, 33] ty #[.slice none 0 0, .slice A tos.length c]).run Try.prog w = .ok (.slice A' tos.length c') w' ∧ Lies w' w'.heap.size A' (icells tos) ∧ (∀ p, A' = some p → w.heap.size ≤ p.block) ∧ Below w.heap.size w w' := by
  obtain ⟨i, hi, hz⟩ := Option.map_eq_some_iff.1 intCells
  simp only [Prod.mk.injEq] at hz
  obtain ⟨z1, z2, z3⟩ := hz
  cases A with
  | none =>
    have hm : tos = [] := by
      cases tos with
      | nil => rfl
      | cons x xs => obtain ⟨_, e, _⟩ := hl (by simp [icells]); cases e
    subst hm
    refine ⟨none, 0, w, ?_, fun h => by simp [icells] at h, fun p hp => (by cases hp), Below.refl _ _⟩
    simp [Builtin.append_, run_underlying (P := Try.prog) Try.underlying33, sizeOf, typeInfo, hi, Builtin.lenOf, Builtin.firstCells]
  | some ad =>
    obtain ⟨v', w', a, b, d, _⟩ := run_append_own_at (P := Try.prog) w w.heap.size 33 ty 3 i _ 1 8 Try.underlying33 hi z1 z2 z3 rfl (by omega) (.slice none 0 0) 0 [] ⟨rfl, .inl ⟨rfl, rfl⟩⟩ ad tos.length c (icells tos) (by simp [icells]) (fun j u hu => by
      obtain ⟨ad', e, _, hc⟩ := hl (by have := (List.getElem?_eq_some_iff.1 hu).1; omega)
      cases e
      exact hc j u hu) (fun u hu => by unfold icells at hu; obtain ⟨x, _, rfl⟩ := List.mem_map.1 hu; rfl) (by unfold maxLen; omega) (by omega) (Nat.le_refl _)
    rw [Nat.zero_add, List.nil_append] at b
    have hb : Below w.heap.size w w' := ⟨d.os, d.tape, d.output, d.size, fun i hi => d.block i hi (by simp [Value.ownBlock])⟩
    rcases b.2 with ⟨rfl, h0⟩ | ⟨g, cap, cur, rfl, hg, hg2, _⟩
    · refine ⟨none, 0, w', by rw [a, h0], fun h => by rw [icells, List.length_map] at h; omega, fun p hp => (by cases hp), hb⟩
    · refine ⟨some ⟨g, 0, none⟩, cap, w', a, fun _ => ⟨_, rfl, ?_, fun j u hu => b.cells (g := g) rfl j u hu⟩, fun p hp => by cases hp; exact hg, hb⟩
      rcases Nat.lt_or_ge g w'.heap.size with hlt | hge
      · exact hlt
      · rw [Array.getElem?_eq_none hge] at hg2; cases hg2

theorem keepS {X V : World} {S : Nat} {r : Obj} (hb : Below X.heap.size X V) (h : X.heap[S]? = some r) : V.heap[S]? = some r := (hb.block S (ltHeap h)).trans h
theorem cells3 {w : World} {S : Nat} {c0 c1 c2 c3 c4 c5 c6 : Value} {T : TypeId} (h : w.heap[S]? = some (.cells #[c0, c1, c2, c3, c4, c5, c6] T (0, 0))) : w.cell? ⟨S, 1, none⟩ = some c1 ∧ w.cell? ⟨S, 5, none⟩ = some c5 ∧ w.cell? ⟨S, 6, none⟩ = some c6 :=
  ⟨cell_of_row _ _ 1 _ _ _ h, cell_of_row _ _ 5 _ _ _ h, cell_of_row _ _ 6 _ _ _ h⟩
theorem step_copy {ops : Array Oper} {o : Oper} {a : Act} {w : World} {K : Act → World → Prop} {Q : Exit → Act → World → Prop} {E : Prop} (hgd : o.guard = none) (s x : Operand)
    (ho : o.op = .call { callee := .builtin .append, args := #[s, x], argTypes := #[33, 33] }) (hs : a.eval s = .slice none 0 0) (tos : List Int) (A : Option Addr) (c : Nat) (hx : a.eval x = .slice A tos.length c)
    (hl : Lies w w.heap.size A (icells tos)) (hn : tos.length ≤ 1000)
    (h : ∀ A' c' w', Lies w' w'.heap.size A' (icells tos) → (∀ p, A' = some p → w.heap.size ≤ p.block) → Below w.heap.size w w' → K (a.put o.dst (.slice A' tos.length c')) w') :
    if Region.wanted o (yielded ops a.tmps) = true then Oper.wp Try.prog o a w K Q else E := by
  have hw : Region.wanted o (yielded ops a.tmps) = true := by simp [Region.wanted, hgd]
  rw [if_pos hw]
  obtain ⟨A', c', w', hr, h1, h2, h3⟩ := copy_ints w tos A c hl hn o.type
  exact Lib.wp_append_run w s x _ _ ho _ _ hs hx _ _ hr (h A' c' w' h1 h2 h3)
end Gm
end Go.Proofs.Ytfhengihdlojmaa
