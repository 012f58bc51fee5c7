/-
  Contracts of slices.Clone of ops, code.Copy.
-/
import Derived.Test.YtkigoidklonhcaaGreatDoorLowCdN
import Derived.Lib.SliceRun
namespace Go.Proofs.YtkigoidklonhcaaGreatDoor
open Go.RowKit

namespace Cd
theorem ocells_one (l : List OpV) : ∀ u ∈ ocells l, u.oneCell' = true := by
  intro u hu
  unfold ocells at hu
  obtain ⟨o, _, ho⟩ := List.mem_flatMap.1 hu
  unfold OpV.cells at ho
  simp only [List.mem_cons, List.not_mem_nil, or_false] at ho
  rcases ho with rfl | rfl | rfl | rfl | rfl <;> rfl
/-- append(funcs, f), at a region's list. -/
theorem fpush {ops : Array Oper} {rest : List Oper} {oo : Oper} {a : Act} {w : World} {Q : Exit → Act → World → Prop} {T1 : TypeId} {base n b : Nat} {v : Value} {xs : List Value}
    (hrow : w.ownsRow base 41 3 v n xs) (hgd : oo.guard = none) (s x : Operand)
    (hop : oo.op = .call { callee := .builtin .append, args := #[s, x], argTypes := #[22, 22] }) (hs : a.eval s = v) (hx : a.eval x = .slice (some ⟨b, 0, none⟩) 1 1) (m : Fm) (hb : w.heap.size = b) (hn : n ≤ 100000) (hbase : base ≤ w.heap.size)
    (h : ∀ g cap w', w'.ownsRow base 41 3 (.slice (some ⟨g, 0, none⟩) (n + 1) cap) (n + 1) (xs ++ m.cells) → (w.alloc (.cells #[.int .i64 m.f.args, .int .i64 m.f.regs, .slice m.A m.f.ops.length m.c] T1)).grownBy w' v.ownBlock → wpList Tryz.prog ops Q rest (a.put oo.dst (.slice (some ⟨g, 0, none⟩) (n + 1) cap)) w') :
    wpList Tryz.prog ops Q (oo :: rest) a (w.alloc (.cells #[.int .i64 m.f.args, .int .i64 m.f.regs, .slice m.A m.f.ops.length m.c] T1)) := by
  obtain ⟨i, hi, hz⟩ := Option.map_eq_some_iff.1 fnInfo
  simp only [Prod.mk.injEq] at hz
  obtain ⟨z1, z2, z3⟩ := hz
  subst hb
  refine wpList_append_lies _ hgd s x 22 hop base 41 i (.agg #[.int .i64 0, .int .i64 0, .slice none 0 0]) 3 40 Tryz.underlying22 hi z1 z2 z3 rfl (by decide) v n xs hs (hrow.alloc _) ⟨w.heap.size, 0, none⟩ 1 1 m.cells hx rfl
    (fun j u hu => World.news_of_block (heap_alloc_new w (.cells #[.int .i64 m.f.args, .int .i64 m.f.regs, .slice m.A m.f.ops.length m.c] T1)) j u hu) (by unfold Fm.cells; simp [Value.oneCell']) (by decide) (by unfold maxLen; omega) (by omega) (by simp; omega) (w.heap.size + 1) (by simp) ?_
  intro g cap w' h1 h2 _ _
  exact h g cap w' h1 h2
end Cd

set_option maxHeartbeats 600000 in
set_option maxRecDepth 20000 in
theorem cclone (l : List Cd.OpV) (A : Option Addr) (c : Nat) (w : World) (hl : Lies w w.heap.size A (Cd.ocells l)) (nl : l.length ≤ 100000) :
    Calls Tryz.prog 51 #[.slice A l.length c] w fun e w' => ∃ A' c', e = .returned (.slice A' l.length c') ∧ w'.ownsRow w.heap.size 44 5 (.slice A' l.length c') l.length (Cd.ocells l) ∧ Below w.heap.size w w' := by
  have qT : ∀ (w : World) (a : Option Addr) (n c n' c' : Nat), (binOp .eql 39 (.slice a n c) (.slice none n' c')).run Tryz.prog w = .ok (.bool a.isNone) w := fun w a n c n' c' => Lib.run_eql_slice_nil w _ _ a n c n' c' Tryz.underlying39
  have HL := Lib.hid hl
  clear hl
  cases A with
  | none =>
    have hnil : l = [] := by
      cases l with
      | nil => rfl
      | cons x xs => obtain ⟨_, e, _⟩ := HL.out (by rw [Cd.ocells_len]; simp); cases e
    subst hnil
    go_enter Tryz.func51, Tryz.ntmps51
    go_wp2_with fail
    go_ret
    exact ⟨none, 0, rfl, ⟨rfl, .inl ⟨rfl, rfl⟩⟩, Below.refl _ _⟩
  | some ad =>
    obtain ⟨i, hi, hz⟩ := Option.map_eq_some_iff.1 Cd.opInfo
    simp only [Prod.mk.injEq] at hz
    obtain ⟨z1, z2, z3⟩ := hz
    have HOWN : Hid ((w.alloc (.cells #[] 44)).ownsRow w.heap.size 44 5 (.slice (some ⟨w.heap.size, 0, none⟩) 0 0) 0 []) := ⟨rfl, .inr ⟨w.heap.size, 0, #[], rfl, Nat.le_refl _, heap_alloc_new w _, Nat.le_refl _, Nat.zero_le _, rfl, rfl⟩⟩
    have HB : Hid (Below w.heap.size w (w.alloc (.cells #[] 44))) := Cd.fn1 _ _ _
    have HON := Lib.hid (Cd.ocells_one l)
    have HSRC : Hid (∀ j u, (Cd.ocells l)[j]? = some u → (w.alloc (.cells #[] 44)).cell? (ad.add j) = some u) := fun j u hu => by
      obtain ⟨ad', e, hb, hc⟩ := (HL.out.below HB.out) (by have := (List.getElem?_eq_some_iff.1 hu).1; omega)
      cases e
      exact hc j u hu
    have HLE := Lib.hid (Cd.ocells_len l)
    go_enter Tryz.func51, Tryz.ntmps51
    go_wp2_with (at_builtin; refine wpList_append_own _ rfl _ _ 39 rfl w.heap.size 44 i (.agg #[.int .u8 0, .int .i64 0, .int .i64 0, .int .i64 0, .int .i64 0]) 5 40 Tryz.underlying39 hi z1 z2 z3 rfl (by decide) _ _ _ rfl HOWN.out ad l.length c (Cd.ocells l) rfl HLE.out HSRC.out HON.out (by unfold maxLen; omega) (by omega) (by simp) ?_)
    intro v' w' hown hg _
    have HO := Lib.hid hown
    have HB2 : Hid (Below w.heap.size w w') := HB.out.grown hg HB.out.size (fun k hk => by cases hk; exact Nat.le_refl _)
    clear hown hg
    go_wp2_with fail
    go_ret
    have h1 : w'.ownsRow w.heap.size 44 5 v' l.length (Cd.ocells l) := by simpa using HO.out
    obtain ⟨A', c', rfl⟩ := Cd.rowForm h1
    exact ⟨A', c', rfl, h1, HB2.out⟩
end Go.Proofs.YtkigoidklonhcaaGreatDoor
