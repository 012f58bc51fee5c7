/-
  Layer 15: cells in memory, the program's and the document's.
-/
import Derived.Test.YtlgelhkpdldgdaaGmA
import Derived.Test.YtlgelhkpdldgdaaOpen
import Derived.Lib.AppendZeros
import Derived.Maps.AppendAt
import Derived.Deep.AppendLies
import Derived.Lib.Hide
namespace Go.Proofs.Ytlgelhkpdldgdaa
open Go.RowKit

namespace Ce
theorem i64Info : (Try.prog.info? 2).map (fun i => (i.zero, i.size, i.bytes)) = some (some (.int .i64 0), 1, 8) := by kernel_rfl
theorem icells_len (xs : List Int) : (icells xs).length = xs.length := by unfold icells; simp
theorem icells_one (xs : List Int) : ∀ u ∈ icells xs, u.oneCell' = true := by
  intro u hu
  unfold icells at hu
  obtain ⟨z, _, rfl⟩ := List.mem_map.1 hu
  rfl
theorem icells_cat (a b : List Int) : icells (a ++ b) = icells a ++ icells b := by unfold icells; rw [List.map_append]
/-- Numbers of a slice are appended to an owned one. -/
theorem append_run (w : World) (v : Value) (n : Nat) (xs : List Value) (hown : w.ownsRow 0 2 1 v n xs) (A : Option Addr) (ys : List Int) (c : Nat)
    (hsrc : Lies w w.heap.size A (icells ys)) (hn : n + ys.length ≤ 1000000) (ty : TypeId) :
    ∃ v' w', (Builtin.append_ #[27, 27] ty #[v, .slice A ys.length c]).run Try.prog w = .ok v' w' ∧ w'.ownsRow 0 2 1 v' (n + ys.length) (xs ++ icells ys) ∧ w.grownBy w' v.ownBlock ∧ (v'.ownBlock = v.ownBlock ∨ v'.ownBlock = some w.heap.size) := by
  obtain ⟨i, hi, hz⟩ := Option.map_eq_some_iff.1 i64Info
  simp only [Prod.mk.injEq] at hz
  obtain ⟨z1, z2, z3⟩ := hz
  have hmax : n + ys.length ≤ maxLen := by unfold maxLen; omega
  have hlen := icells_len ys
  cases A with
  | some ad =>
    obtain ⟨v', w', a, b, d, _, e⟩ := run_append_own_at (P := Try.prog) w 0 27 ty 2 i _ 1 8 Try.underlying27 hi z1 z2 z3 rfl (by omega) v n xs hown ad ys.length c (icells ys) (by omega) (fun j u hu => by
      obtain ⟨ad', e, _, hc⟩ := hsrc (by have := (List.getElem?_eq_some_iff.1 hu).1; omega)
      cases e
      exact hc j u hu) (icells_one ys) hmax (by omega) (Nat.zero_le _)
    exact ⟨v', w', a, b, d, e⟩
  | none =>
    have hm : ys.length = 0 := by
      rcases Nat.eq_zero_or_pos ys.length with h | h
      · exact h
      · obtain ⟨_, e, _⟩ := hsrc (by omega)
        cases e
    obtain rfl := List.eq_nil_of_length_eq_zero hm
    refine ⟨v, w, ?_, by simpa [icells] using hown, ⟨rfl, rfl, rfl, Nat.le_refl _, fun _ _ _ => rfl⟩, .inl rfl⟩
    rcases hown.2 with ⟨rfl, rfl⟩ | ⟨g, cap, cur, rfl, _, _, hnc, _⟩
    · simp [Builtin.append_, run_underlying (P := Try.prog) Try.underlying27, sizeOf, typeInfo, hi, Builtin.lenOf, Builtin.firstCells]
    · simp [Builtin.append_, run_underlying (P := Try.prog) Try.underlying27, sizeOf, typeInfo, hi, Builtin.lenOf, Builtin.firstCells, hnc, storeCells]
/-- A builtin append that is told ahead, at an operation. -/
theorem wp_append_run {w w' : World} {oo : Oper} {a : Act} {K : Act → World → Prop} {Q : Exit → Act → World → Prop} (s x : Operand) {v u v' : Value}
    (ho : oo.op = .call { callee := .builtin .append, args := #[s, x], argTypes := #[27, 27] }) (hs : a.eval s = v) (hx : a.eval x = u)
    (hr : (Builtin.append_ #[27, 27] oo.type #[v, u]).run Try.prog w = .ok v' w') (h : K (a.put oo.dst v') w') : oo.wp Try.prog a w K Q := by
  unfold Oper.wp execOp
  simp only [ho, resolve, invoke, builtin, Sem.run_bind, Sem.run_pure, Result.andThen_ok, List.map_toArray, List.map_cons, List.map_nil, hs, hx, hr]
  exact h
/-- At a step of a region that draws. -/
theorem step_append_run {w w' : World} {ops : Array Oper} {oo : Oper} {a : Act} {K : Act → World → Prop} {Q : Exit → Act → World → Prop} {E : Prop} (hgd : oo.guard = none) (s x : Operand) {v u v' : Value}
    (ho : oo.op = .call { callee := .builtin .append, args := #[s, x], argTypes := #[27, 27] }) (hs : a.eval s = v) (hx : a.eval x = u)
    (hr : (Builtin.append_ #[27, 27] oo.type #[v, u]).run Try.prog w = .ok v' w') (h : K (a.put oo.dst v') w') :
    if Region.wanted oo (yielded ops a.tmps) = true then Oper.wp Try.prog oo a w K Q else E := by
  have hw : Region.wanted oo (yielded ops a.tmps) = true := by simp [Region.wanted, hgd]
  rw [if_pos hw]
  exact wp_append_run s x ho hs hx hr h

/-- The program's memory: the object at B, what it points at, at M. -/
structure PM (B M : Nat) (v : Value) (xs : List Int) (n : Nat) (w : World) : Prop where
  obj : w.heap[B]? = some (.cells #[.pointer (some ⟨M, 0, none⟩)] 75 (0, 0))
  mem : w.heap[M]? = some (.cells #[.int .i64 (n : Int), v] 73 (0, 0))
  row : w.ownsRow 0 2 1 v xs.length (icells xs)
  ne : B ≠ M
  nb : v.ownBlock ≠ some B
  nm : v.ownBlock ≠ some M
/-- What is off its blocks. -/
def POff (B M : Nat) (v : Value) (i : Nat) : Prop := i ≠ B ∧ i ≠ M ∧ some i ≠ v.ownBlock
/-- The document's memory, at R. -/
structure DM (R : Nat) (v : Value) (xs : List Int) (n : Nat) (w : World) : Prop where
  obj : w.heap[R]? = some (.cells #[v, .int .i64 (n : Int)] 29 (0, 0))
  row : w.ownsRow 0 2 1 v xs.length (icells xs)
  nr : v.ownBlock ≠ some R
def DOff (R : Nat) (v : Value) (i : Nat) : Prop := i ≠ R ∧ some i ≠ v.ownBlock
section
variable {B M R : Nat} {v : Value} {xs : List Int} {n : Nat} {w w' : World}
theorem PM.ltB (h : PM B M v xs n w) : B < w.heap.size := Gm.ltHeap h.obj
theorem PM.ltM (h : PM B M v xs n w) : M < w.heap.size := Gm.ltHeap h.mem
theorem PM.of (h : PM B M v xs n w) (h1 : w'.heap[B]? = w.heap[B]?) (h2 : w'.heap[M]? = w.heap[M]?) (h3 : ∀ i, v.ownBlock = some i → w'.heap[i]? = w.heap[i]?) : PM B M v xs n w' :=
  ⟨h1.trans h.obj, h2.trans h.mem, Gm.ownsKeep h.row h3, h.ne, h.nb, h.nm⟩
theorem PM.below (h : PM B M v xs n w) (hb : Below w.heap.size w w') : PM B M v xs n w' :=
  h.of (hb.block _ h.ltB) (hb.block _ h.ltM) fun i hi => hb.block i (h.row.lt i hi).2
theorem PM.drew (h : PM B M v xs n w) : PM B M v xs n w.drew := h.below (Below.refl _ _).drew
theorem PM.c0 (h : PM B M v xs n w) : w.cell? ⟨B, 0, none⟩ = some (.pointer (some ⟨M, 0, none⟩)) := cell_of_row _ _ 0 _ _ _ h.obj
theorem PM.m0 (h : PM B M v xs n w) : w.cell? ⟨M, 0, none⟩ = some (.int .i64 (n : Int)) := cell_of_row _ _ 0 _ _ _ h.mem
theorem PM.m1 (h : PM B M v xs n w) : w.cell? ⟨M, 1, none⟩ = some v := cell_of_row _ _ 1 _ _ _ h.mem
theorem PM.fro (h : PM B M v xs n w) (j : Nat) : w.frozen? ⟨M, j, none⟩ = false := frozen_of_row _ _ j _ _ h.mem
theorem PM.fresh (h : PM B M v xs n w) {i : Nat} (hi : w.heap.size ≤ i) : POff B M v i :=
  ⟨fun e => by have := h.ltB; omega, fun e => by have := h.ltM; omega, fun e => by have := (h.row.lt i e.symm).2; omega⟩
/-- A step more. -/
theorem PM.count (h : PM B M v xs n w) : PM B M v xs (n + 1) (w.setCell ⟨M, 0, none⟩ (.int .i64 ((n : Int) + 1))) := by
  have hk : ∀ i, i ≠ M → (w.setCell ⟨M, 0, none⟩ (.int .i64 ((n : Int) + 1))).heap[i]? = w.heap[i]? := fun i hi => Below.heap_setCell _ _ _ _ hi
  refine ⟨(hk B h.ne).trans h.obj, ?_, Gm.ownsKeep h.row fun i hi => hk i fun e => h.nm (by rw [hi, e]), h.ne, h.nb, h.nm⟩
  rw [heap_setCell_same _ _ _ _ _ _ h.mem]
  rfl
theorem DM.ltR (h : DM R v xs n w) : R < w.heap.size := Gm.ltHeap h.obj
theorem DM.of (h : DM R v xs n w) (h1 : w'.heap[R]? = w.heap[R]?) (h3 : ∀ i, v.ownBlock = some i → w'.heap[i]? = w.heap[i]?) : DM R v xs n w' :=
  ⟨h1.trans h.obj, Gm.ownsKeep h.row h3, h.nr⟩
theorem DM.below (h : DM R v xs n w) (hb : Below w.heap.size w w') : DM R v xs n w' :=
  h.of (hb.block _ h.ltR) fun i hi => hb.block i (h.row.lt i hi).2
theorem DM.c0 (h : DM R v xs n w) : w.cell? ⟨R, 0, none⟩ = some v := cell_of_row _ _ 0 _ _ _ h.obj
theorem DM.c1 (h : DM R v xs n w) : w.cell? ⟨R, 1, none⟩ = some (.int .i64 (n : Int)) := cell_of_row _ _ 1 _ _ _ h.obj
theorem DM.fro (h : DM R v xs n w) (j : Nat) : w.frozen? ⟨R, j, none⟩ = false := frozen_of_row _ _ j _ _ h.obj
theorem DM.fresh (h : DM R v xs n w) {i : Nat} (hi : w.heap.size ≤ i) : DOff R v i :=
  ⟨fun e => by have := h.ltR; omega, fun e => by have := (h.row.lt i e.symm).2; omega⟩
theorem DM.count (h : DM R v xs n w) : DM R v xs (n + 1) (w.setCell ⟨R, 1, none⟩ (.int .i64 ((n : Int) + 1))) := by
  have hk : ∀ i, i ≠ R → (w.setCell ⟨R, 1, none⟩ (.int .i64 ((n : Int) + 1))).heap[i]? = w.heap[i]? := fun i hi => Below.heap_setCell _ _ _ _ hi
  refine ⟨?_, Gm.ownsKeep h.row fun i hi => hk i fun e => h.nr (by rw [hi, e]), h.nr⟩
  rw [heap_setCell_same _ _ _ _ _ _ h.obj]
  rfl
/-- A row's cell, written. -/
theorem own_set {T : TypeId} {base : Nat} {g : Nat} {cap : Nat} (h : w.ownsRow base T 1 (.slice (some ⟨g, 0, none⟩) xs.length cap) xs.length (icells xs)) {k : Nat} (_hk : k < xs.length) (x : Int) :
    (w.setCell ⟨g, k, none⟩ (.int .i64 x)).ownsRow base T 1 (.slice (some ⟨g, 0, none⟩) xs.length cap) (xs.set k x).length (icells (xs.set k x)) := by
  rw [List.length_set]
  obtain ⟨hl, h0 | ⟨g', cap', cur, e, hg, hh, h1, h2, h3, h4⟩⟩ := h
  · obtain ⟨e, _⟩ := h0
    cases e
  · injection e with e1 _ e3
    injection e1 with e1
    injection e1 with e1
    subst e1
    subst e3
    refine ⟨by rw [icells_len, List.length_set]; omega, .inr ⟨g, cap, cur.setIfInBounds k (.int .i64 x), rfl, hg, heap_setCell_same _ _ _ _ _ _ hh, h1, h2, by simpa using h3, ?_⟩⟩
    have hki : icells (xs.set k x) = (icells xs).set k (.int .i64 x) := by unfold icells; rw [List.map_set]
    rw [hki, ← h4, Array.toList_setIfInBounds, List.take_set]
end
end Ce
end Go.Proofs.Ytlgelhkpdldgdaa
