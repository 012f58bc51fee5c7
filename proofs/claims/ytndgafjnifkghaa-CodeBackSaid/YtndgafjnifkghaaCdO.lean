/-
  The contract of code.readFunc: a function is read.
-/
import Derived.Test.YtndgafjnifkghaaCdN
import Derived.Deep.AppendLies
import Derived.Deep.RegionLaw
namespace Go.Proofs.Ytndgafjnifkghaa
open Go.RowKit

namespace Cd
theorem opInfo : (Try.prog.info? 43).map (fun i => (i.zero, i.size, i.bytes)) = some (some (.agg #[.int .u8 0, .int .i64 0, .int .i64 0, .int .i64 0, .int .i64 0]), 5, 40) := by kernel_rfl
/-- append(ops, o), at a step of a region that draws. -/
theorem opush_step {ops : Array Oper} {oo : Oper} {a : Act} {w : World} {K : Act → World → Prop} {Q : Exit → Act → World → Prop} {E : Prop} {T1 : TypeId} {base n b : Nat} {v : Value} {xs : List Value}
    (hrow : w.ownsRow base 43 5 v n xs) (hgd : oo.guard = none) (s x : Operand)
    (hop : oo.op = .call { callee := .builtin .append, args := #[s, x], argTypes := #[39, 39] }) (hs : a.eval s = v) (hx : a.eval x = .slice (some ⟨b, 0, none⟩) 1 1) (o : OpV) (hb : w.heap.size = b) (hn : n ≤ 100000) (hbase : base ≤ w.heap.size)
    (h : ∀ g cap w', w'.ownsRow base 43 5 (.slice (some ⟨g, 0, none⟩) (n + 1) cap) (n + 1) (xs ++ o.cells) → (w.alloc (.cells #[.int .u8 (o.k : Int), .int .i64 o.d, .int .i64 o.a, .int .i64 o.b, .int .i64 o.n] T1)).grownBy w' v.ownBlock → K (a.put oo.dst (.slice (some ⟨g, 0, none⟩) (n + 1) cap)) w') :
    if Region.wanted oo (yielded ops a.tmps) = true then Oper.wp Try.prog oo a (w.alloc (.cells #[.int .u8 (o.k : Int), .int .i64 o.d, .int .i64 o.a, .int .i64 o.b, .int .i64 o.n] T1)) K Q else E := by
  obtain ⟨i, hi, hz⟩ := Option.map_eq_some_iff.1 opInfo
  simp only [Prod.mk.injEq] at hz
  obtain ⟨z1, z2, z3⟩ := hz
  subst hb
  refine step_append_lies _ hgd s x 39 hop base 43 i (.agg #[.int .u8 0, .int .i64 0, .int .i64 0, .int .i64 0, .int .i64 0]) 5 40 Try.underlying39 hi z1 z2 z3 rfl (by decide) v n xs hs (hrow.alloc _) ⟨w.heap.size, 0, none⟩ 1 1 o.cells hx rfl
    (fun j u hu => World.news_of_block (heap_alloc_new w (.cells #[.int .u8 (o.k : Int), .int .i64 o.d, .int .i64 o.a, .int .i64 o.b, .int .i64 o.n] T1)) j u hu) (by unfold OpV.cells; simp [Value.oneCell']) (by decide) (by unfold maxLen; omega) (by omega) (by simp; omega) (w.heap.size + 1) (by simp) ?_
  intro g cap w' h1 h2 _ _
  exact h g cap w' h1 h2
/-- A call of a Go function by its contract, at a step of a region that draws. -/
theorem step_call {P : Program} {ops : Array Oper} {oo : Oper} {a : Act} {w : World} {K : Act → World → Prop} {Q : Exit → Act → World → Prop} {E : Prop} (f : FuncId) (args : Array Value) (Post : Value → World → Prop)
    (hgd : oo.guard = none) (hrun : (execOp a.eval oo).run P w = .ok (.enter f args) w) (hc : Calls P f args w fun e w' => ∃ v, e = .returned v ∧ Post v w') (h : ∀ v w', Post v w' → K (a.put oo.dst v) w') :
    if Region.wanted oo (yielded ops a.tmps) = true then Oper.wp P oo a w K Q else E := by
  have hw : Region.wanted oo (yielded ops a.tmps) = true := by simp [Region.wanted, hgd]
  rw [if_pos hw]
  unfold Oper.wp
  rw [hrun, Oper.upon_enter]
  refine hc.mono fun e w' hh => ?_
  obtain ⟨v, rfl, hp⟩ := hh
  exact h v w' hp
/-- Ops are read, so many. -/
def rOps : Nat → ByteArray → Nat → List OpV × ByteArray × Nat
  | 0, s, f => ([], s, f)
  | n + 1, s, f => ((rOps n s f).1 ++ [(rOp (rOps n s f).2.1 (rOps n s f).2.2).1], (rOp (rOps n s f).2.1 (rOps n s f).2.2).2)
theorem rOps_len (n : Nat) (s : ByteArray) (f : Nat) : (rOps n s f).1.length = n := by
  induction n with
  | zero => rfl
  | succ n ih => unfold rOps; simp [ih]
theorem rOps_size (n : Nat) (s : ByteArray) (f : Nat) : (rOps n s f).2.1.size ≤ s.size := by
  induction n with
  | zero => exact Nat.le_refl _
  | succ n ih => exact Nat.le_trans (rOp_size _ _) ih
def rA (s : ByteArray) (f : Nat) : Nat × ByteArray × Nat := Wire.step (Wire.wU 16) s f
def rC (m : Int) (s : ByteArray) (f : Nat) : Nat × ByteArray × Nat := Wire.step (Wire.wC m) s f
/-- A function is read. -/
def rFn (s : ByteArray) (f : Nat) : FnV × ByteArray × Nat :=
  let a := rA s f
  let b := rA a.2.1 a.2.2
  let c := rC 64 b.2.1 b.2.2
  let r := rOps c.1 c.2.1 c.2.2
  (⟨a.1, b.1, r.1⟩, r.2)
theorem rC_le (m : Nat) (s : ByteArray) (f : Nat) : (rC (m : Int) s f).1 ≤ m := by
  unfold rC Wire.step
  split
  · exact Nat.zero_le _
  · split
    · exact Nat.zero_le _
    · split
      · exact Nat.zero_le _
      · rename_i h
        simp only [ne_eq, Decidable.not_not] at h
        unfold Wire.wC at h
        by_cases h2 : (m : Int) < 0 ∨ (m : Int) < (Num.rd s.data.toList).1
        · rw [if_pos h2] at h; omega
        · show (Num.rd s.data.toList).1 ≤ m
          omega
theorem rFn_size (s : ByteArray) (f : Nat) : (rFn s f).2.1.size ≤ s.size :=
  Nat.le_trans (rOps_size _ _ _) (Nat.le_trans (Wire.step_size _ _) (Nat.le_trans (Wire.step_size _ _) (Wire.step_size s f)))
end Cd
end Go.Proofs.Ytndgafjnifkghaa
