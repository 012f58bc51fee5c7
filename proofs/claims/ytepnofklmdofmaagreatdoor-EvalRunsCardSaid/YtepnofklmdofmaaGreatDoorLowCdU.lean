/-
  Contracts of slices.Clone of ops, code.Copy.
  The contract of code.Copy.
-/
import Derived.Test.YtepnofklmdofmaaGreatDoorLowCdN
import Derived.Lib.SliceRun
section
namespace Go.Proofs.YtepnofklmdofmaaGreatDoor
open Go.RowKit

namespace Cd
theorem ocells_one (l : List OpV) : ∀ u ∈ ocells l, u.oneCell' = true := by
  intro u hu
  unfold ocells at hu
  obtain ⟨o, _, ho⟩ := List.mem_flatMap.1 hu
  unfold OpV.cells at ho
  simp only [List.mem_cons, List.not_mem_nil, or_false] at ho
  rcases ho with rfl | rfl | rfl | rfl | rfl <;> rfl
/-- append(funcs, f), at a region's list. -/
theorem fpush {ops : Array Oper} {rest : List Oper} {oo : Oper} {a : Act} {w : World} {Q : Exit → Act → World → Prop} {T1 : TypeId} {base n b : Nat} {v : Value} {xs : List Value}
    (hrow : w.ownsRow base 107 3 v n xs) (hgd : oo.guard = none) (s x : Operand)
    (hop : oo.op = .call { callee := .builtin .append, args := #[s, x], argTypes := #[22, 22] }) (hs : a.eval s = v) (hx : a.eval x = .slice (some ⟨b, 0, none⟩) 1 1) (m : Fm) (hb : w.heap.size = b) (hn : n ≤ 100000) (hbase : base ≤ w.heap.size)
    (h : ∀ g cap w', w'.ownsRow base 107 3 (.slice (some ⟨g, 0, none⟩) (n + 1) cap) (n + 1) (xs ++ m.cells) → (w.alloc (.cells #[.int .i64 m.f.args, .int .i64 m.f.regs, .slice m.A m.f.ops.length m.c] T1)).grownBy w' v.ownBlock → wpList Tryz.prog ops Q rest (a.put oo.dst (.slice (some ⟨g, 0, none⟩) (n + 1) cap)) w') :
    wpList Tryz.prog ops Q (oo :: rest) a (w.alloc (.cells #[.int .i64 m.f.args, .int .i64 m.f.regs, .slice m.A m.f.ops.length m.c] T1)) := by
  obtain ⟨i, hi, hz⟩ := Option.map_eq_some_iff.1 fnInfo
  simp only [Prod.mk.injEq] at hz
  obtain ⟨z1, z2, z3⟩ := hz
  subst hb
  refine wpList_append_lies _ hgd s x 22 hop base 107 i (.agg #[.int .i64 0, .int .i64 0, .slice none 0 0]) 3 40 Tryz.underlying22 hi z1 z2 z3 rfl (by decide) v n xs hs (hrow.alloc _) ⟨w.heap.size, 0, none⟩ 1 1 m.cells hx rfl
    (fun j u hu => World.news_of_block (heap_alloc_new w (.cells #[.int .i64 m.f.args, .int .i64 m.f.regs, .slice m.A m.f.ops.length m.c] T1)) j u hu) (by unfold Fm.cells; simp [Value.oneCell']) (by decide) (by unfold maxLen; omega) (by omega) (by simp; omega) (w.heap.size + 1) (by simp) ?_
  intro g cap w' h1 h2 _ _
  exact h g cap w' h1 h2
end Cd

end Go.Proofs.YtepnofklmdofmaaGreatDoor
end

section
namespace Go.Proofs.YtepnofklmdofmaaGreatDoor
open Go.RowKit

end Go.Proofs.YtepnofklmdofmaaGreatDoor
end
