/-
  The contract of code.readOp: an op is read.
  The contract of code.readFunc: a function is read.
  The contract of code.readFunc: a function is read.
  The contract of code.readProgram: a program is read.
  The contract of code.Decode.
-/
import Derived.Test.YtepnofklmdofmaaGreatDoorLowCdI
import Derived.Deep.AppendLies
import Derived.Deep.RegionLaw
section
namespace Go.Proofs.YtepnofklmdofmaaGreatDoor
open Go.RowKit

namespace Cd
theorem stepU_le (m : Nat) (s : ByteArray) (f : Nat) : (Wire.step (Wire.wU m) s f).1 ≤ m := by
  unfold Wire.step
  split
  · exact Nat.zero_le _
  · split
    · exact Nat.zero_le _
    · split
      · exact Nat.zero_le _
      · rename_i h
        simp only [ne_eq, Decidable.not_not] at h
        unfold Wire.wU at h
        by_cases h2 : m < (Num.rd s.data.toList).1
        · rw [if_pos h2] at h; omega
        · show (Num.rd s.data.toList).1 ≤ m
          omega
/-- Some registers are read. -/
def rRegs (l : List Nat) (x : OpV × ByteArray × Nat) : OpV × ByteArray × Nat :=
  l.foldl (fun x i => (x.1.setI i ((Wire.step (Wire.wU 16) x.2.1 x.2.2).1 : Int), (Wire.step (Wire.wU 16) x.2.1 x.2.2).2)) x
theorem rRegs_snoc (l : List Nat) (i : Nat) (x : OpV × ByteArray × Nat) : rRegs (l ++ [i]) x = ((rRegs l x).1.setI i ((Wire.step (Wire.wU 16) (rRegs l x).2.1 (rRegs l x).2.2).1 : Int), (Wire.step (Wire.wU 16) (rRegs l x).2.1 (rRegs l x).2.2).2) := by
  unfold rRegs
  rw [List.foldl_append]
  rfl
/-- An op is read: it, what is left, the fault. -/
def rHead (s : ByteArray) (f : Nat) : OpV × ByteArray × Nat :=
  rRegs (ids (hD (Wire.step (Wire.wU 255) s f).1) (hA (Wire.step (Wire.wU 255) s f).1) (hB (Wire.step (Wire.wU 255) s f).1)) (⟨(Wire.step (Wire.wU 255) s f).1, 0, 0, 0, 0⟩, (Wire.step (Wire.wU 255) s f).2)
def stepN (s : ByteArray) (f : Nat) : Nat × ByteArray × Nat := Wire.step (Wire.wI (-9223372036854775808) 9223372036854775807) s f
def rOp (s : ByteArray) (f : Nat) : OpV × ByteArray × Nat :=
  if hN (Wire.step (Wire.wU 255) s f).1 then (⟨(rHead s f).1.k, (rHead s f).1.d, (rHead s f).1.a, (rHead s f).1.b, Num.zag (stepN (rHead s f).2.1 (rHead s f).2.2).1⟩, (stepN (rHead s f).2.1 (rHead s f).2.2).2)
  else rHead s f
theorem rRegs_size (l : List Nat) (x : OpV × ByteArray × Nat) : (rRegs l x).2.1.size ≤ x.2.1.size := by
  unfold rRegs
  induction l generalizing x with
  | nil => exact Nat.le_refl _
  | cons i l ih => exact Nat.le_trans (ih _) (Wire.step_size _ _)
theorem rHead_size (s : ByteArray) (f : Nat) : (rHead s f).2.1.size ≤ s.size := Nat.le_trans (rRegs_size _ _) (Wire.step_size s f)
theorem rOp_size (s : ByteArray) (f : Nat) : (rOp s f).2.1.size ≤ s.size := by
  unfold rOp
  split
  · exact Nat.le_trans (Wire.step_size _ _) (rHead_size s f)
  · exact rHead_size s f
theorem grown_setX {w wr : World} {R X i : Nat} {v : Value} (h : w.grownBy wr (some R)) (hX : w.heap.size ≤ X) : w.grownBy (wr.setCell ⟨X, i, none⟩ v) (some R) :=
  ⟨h.os, h.tape, h.output, by simpa [World.setCell] using h.size, fun k hk hne => (Below.heap_setCell _ _ _ _ (by intro e; dsimp only at e; omega)).trans (h.block k hk hne)⟩
theorem grown_below {w a b : World} {R : Nat} (h : w.grownBy a (some R)) (hb : Below a.heap.size a b) : w.grownBy b (some R) := Wire.grown_trans h (grown_of hb _)
theorem grown_setRow {w wr : World} {R Z : Nat} {cs : Array Value} (h : w.grownBy wr (some R)) (hZ : w.heap.size ≤ Z) : w.grownBy (wr.setRow Z cs) (some R) :=
  ⟨h.os, h.tape, h.output, by simpa using h.size, fun k hk hne => (setRow_other wr Z k cs (by omega)).trans (h.block k hk hne)⟩
theorem Tbl.grown {w w' : World} {B R : Nat} (h : Tbl w B) (hg : w.grownBy w' (some R)) (hne : B ≠ R) : Tbl w' B := Gm.MapF.of_block h (hg.block B (Gm.MapF.lt h) (fun e => hne (Option.some.inj e)))
theorem OB.grown {w w' : World} {X R : Nat} {o : OpV} (h : OB w X o) (hg : w.grownBy w' (some R)) (hne : X ≠ R) : OB w' X o := h.of_block (hg.block X h.lt (fun e => hne (Option.some.inj e)))
end Cd

end Go.Proofs.YtepnofklmdofmaaGreatDoor
end

section
namespace Go.Proofs.YtepnofklmdofmaaGreatDoor
open Go.RowKit

namespace Cd
theorem opInfo : (Tryz.prog.info? 72).map (fun i => (i.zero, i.size, i.bytes)) = some (some (.agg #[.int .u8 0, .int .i64 0, .int .i64 0, .int .i64 0, .int .i64 0]), 5, 40) := by kernel_rfl
/-- append(ops, o), at a step of a region that draws. -/
theorem opush_step {ops : Array Oper} {oo : Oper} {a : Act} {w : World} {K : Act → World → Prop} {Q : Exit → Act → World → Prop} {E : Prop} {T1 : TypeId} {base n b : Nat} {v : Value} {xs : List Value}
    (hrow : w.ownsRow base 72 5 v n xs) (hgd : oo.guard = none) (s x : Operand)
    (hop : oo.op = .call { callee := .builtin .append, args := #[s, x], argTypes := #[105, 105] }) (hs : a.eval s = v) (hx : a.eval x = .slice (some ⟨b, 0, none⟩) 1 1) (o : OpV) (hb : w.heap.size = b) (hn : n ≤ 100000) (hbase : base ≤ w.heap.size)
    (h : ∀ g cap w', w'.ownsRow base 72 5 (.slice (some ⟨g, 0, none⟩) (n + 1) cap) (n + 1) (xs ++ o.cells) → (w.alloc (.cells #[.int .u8 (o.k : Int), .int .i64 o.d, .int .i64 o.a, .int .i64 o.b, .int .i64 o.n] T1)).grownBy w' v.ownBlock → K (a.put oo.dst (.slice (some ⟨g, 0, none⟩) (n + 1) cap)) w') :
    if Region.wanted oo (yielded ops a.tmps) = true then Oper.wp Tryz.prog oo a (w.alloc (.cells #[.int .u8 (o.k : Int), .int .i64 o.d, .int .i64 o.a, .int .i64 o.b, .int .i64 o.n] T1)) K Q else E := by
  obtain ⟨i, hi, hz⟩ := Option.map_eq_some_iff.1 opInfo
  simp only [Prod.mk.injEq] at hz
  obtain ⟨z1, z2, z3⟩ := hz
  subst hb
  refine step_append_lies _ hgd s x 105 hop base 72 i (.agg #[.int .u8 0, .int .i64 0, .int .i64 0, .int .i64 0, .int .i64 0]) 5 40 Tryz.underlying105 hi z1 z2 z3 rfl (by decide) v n xs hs (hrow.alloc _) ⟨w.heap.size, 0, none⟩ 1 1 o.cells hx rfl
    (fun j u hu => World.news_of_block (heap_alloc_new w (.cells #[.int .u8 (o.k : Int), .int .i64 o.d, .int .i64 o.a, .int .i64 o.b, .int .i64 o.n] T1)) j u hu) (by unfold OpV.cells; simp [Value.oneCell']) (by decide) (by unfold maxLen; omega) (by omega) (by simp; omega) (w.heap.size + 1) (by simp) ?_
  intro g cap w' h1 h2 _ _
  exact h g cap w' h1 h2
/-- A call of a Go function by its contract, at a step of a region that draws. -/
theorem step_call {P : Program} {ops : Array Oper} {oo : Oper} {a : Act} {w : World} {K : Act → World → Prop} {Q : Exit → Act → World → Prop} {E : Prop} (f : FuncId) (args : Array Value) (PostC : Value → World → Prop)
    (hgd : oo.guard = none) (hrun : (execOp a.eval oo).run P w = .ok (.enter f args) w) (hc : Calls P f args w fun e w' => ∃ v, e = .returned v ∧ PostC v w') (h : ∀ v w', PostC v w' → K (a.put oo.dst v) w') :
    if Region.wanted oo (yielded ops a.tmps) = true then Oper.wp P oo a w K Q else E := by
  have hw : Region.wanted oo (yielded ops a.tmps) = true := by simp [Region.wanted, hgd]
  rw [if_pos hw]
  unfold Oper.wp
  rw [hrun, Oper.upon_enter]
  refine hc.mono fun e w' hh => ?_
  obtain ⟨v, rfl, hp⟩ := hh
  exact h v w' hp
/-- Ops are read, so many. -/
def rOps : Nat → ByteArray → Nat → List OpV × ByteArray × Nat
  | 0, s, f => ([], s, f)
  | n + 1, s, f => ((rOps n s f).1 ++ [(rOp (rOps n s f).2.1 (rOps n s f).2.2).1], (rOp (rOps n s f).2.1 (rOps n s f).2.2).2)
theorem rOps_len (n : Nat) (s : ByteArray) (f : Nat) : (rOps n s f).1.length = n := by
  induction n with
  | zero => rfl
  | succ n ih => unfold rOps; simp [ih]
theorem rOps_size (n : Nat) (s : ByteArray) (f : Nat) : (rOps n s f).2.1.size ≤ s.size := by
  induction n with
  | zero => exact Nat.le_refl _
  | succ n ih => exact Nat.le_trans (rOp_size _ _) ih
def rA (s : ByteArray) (f : Nat) : Nat × ByteArray × Nat := Wire.step (Wire.wU 16) s f
def rC (m : Int) (s : ByteArray) (f : Nat) : Nat × ByteArray × Nat := Wire.step (Wire.wC m) s f
/-- A function is read. -/
def rFn (s : ByteArray) (f : Nat) : FnV × ByteArray × Nat :=
  let a := rA s f
  let b := rA a.2.1 a.2.2
  let c := rC 64 b.2.1 b.2.2
  let r := rOps c.1 c.2.1 c.2.2
  (⟨a.1, b.1, r.1⟩, r.2)
theorem rC_le (m : Nat) (s : ByteArray) (f : Nat) : (rC (m : Int) s f).1 ≤ m := by
  unfold rC Wire.step
  split
  · exact Nat.zero_le _
  · split
    · exact Nat.zero_le _
    · split
      · exact Nat.zero_le _
      · rename_i h
        simp only [ne_eq, Decidable.not_not] at h
        unfold Wire.wC at h
        by_cases h2 : (m : Int) < 0 ∨ (m : Int) < (Num.rd s.data.toList).1
        · rw [if_pos h2] at h; omega
        · show (Num.rd s.data.toList).1 ≤ m
          omega
theorem rFn_size (s : ByteArray) (f : Nat) : (rFn s f).2.1.size ≤ s.size :=
  Nat.le_trans (rOps_size _ _ _) (Nat.le_trans (Wire.step_size _ _) (Nat.le_trans (Wire.step_size _ _) (Wire.step_size s f)))
end Cd
end Go.Proofs.YtepnofklmdofmaaGreatDoor
end

section
namespace Go.Proofs.YtepnofklmdofmaaGreatDoor
open Go.RowKit

namespace Cd
theorem fnSize : (Tryz.prog.info? 107).map (·.size) = some 3 := by kernel_rfl
theorem grown_row {w a b : World} {R : Nat} {row : Option Nat} (h : w.grownBy a (some R)) (hg : a.grownBy b row) (hrow : ∀ k, row = some k → w.heap.size ≤ k) : w.grownBy b (some R) :=
  ⟨hg.os.trans h.os, hg.tape.trans h.tape, hg.output.trans h.output, Nat.le_trans h.size hg.size, fun i hi hne => (hg.block i (Nat.lt_of_lt_of_le hi h.size) (fun e => by have := hrow i e.symm; omega)).trans (h.block i hi hne)⟩
theorem grown_drew {w a : World} {R : Nat} (h : w.grownBy a (some R)) : w.grownBy a.drew (some R) := ⟨h.os, h.tape, h.output, h.size, h.block⟩
/-- A function's block. -/
def FB (w : World) (F : Nat) (a b : Int) (v : Value) : Prop := w.heap[F]? = some (.cells #[.int .i64 a, .int .i64 b, v] 107 (0, 0))
section
variable {w w' : World} {F : Nat} {a b : Int} {v : Value}
theorem FB.lt (h : FB w F a b v) : F < w.heap.size := ltH h
theorem FB.c2 (h : FB w F a b v) : w.cell? ⟨F, 2, none⟩ = some v := cell_of_row _ _ 2 _ _ _ h
theorem FB.f (h : FB w F a b v) (i : Nat) : w.frozen? ⟨F, i, none⟩ = false := Lib.frozen_of_heap h i
theorem FB.of_block (h : FB w F a b v) (hb : w'.heap[F]? = w.heap[F]?) : FB w' F a b v := hb.trans h
theorem FB.set2 (h : FB w F a b v) (u : Value) : FB (w.setCell ⟨F, 2, none⟩ u) F a b u := by
  unfold FB at h ⊢
  simp [World.setCell, Array.getElem?_modify, h]
end
end Cd

end Go.Proofs.YtepnofklmdofmaaGreatDoor
end

section
namespace Go.Proofs.YtepnofklmdofmaaGreatDoor
open Go.RowKit

namespace Cd
theorem pgSize : (Tryz.prog.info? 24).map (·.size) = some 1 := by kernel_rfl
theorem fnInfo : (Tryz.prog.info? 107).map (fun i => (i.zero, i.size, i.bytes)) = some (some (.agg #[.int .i64 0, .int .i64 0, .slice none 0 0]), 3, 40) := by kernel_rfl
/-- append(funcs, f), at a step of a region that draws. -/
theorem fpush_step {ops : Array Oper} {oo : Oper} {a : Act} {w : World} {K : Act → World → Prop} {Q : Exit → Act → World → Prop} {E : Prop} {T1 : TypeId} {base n b : Nat} {v : Value} {xs : List Value}
    (hrow : w.ownsRow base 107 3 v n xs) (hgd : oo.guard = none) (s x : Operand)
    (hop : oo.op = .call { callee := .builtin .append, args := #[s, x], argTypes := #[22, 22] }) (hs : a.eval s = v) (hx : a.eval x = .slice (some ⟨b, 0, none⟩) 1 1) (m : Fm) (hb : w.heap.size = b) (hn : n ≤ 100000) (hbase : base ≤ w.heap.size)
    (h : ∀ g cap w', w'.ownsRow base 107 3 (.slice (some ⟨g, 0, none⟩) (n + 1) cap) (n + 1) (xs ++ m.cells) → (w.alloc (.cells #[.int .i64 m.f.args, .int .i64 m.f.regs, .slice m.A m.f.ops.length m.c] T1)).grownBy w' v.ownBlock → K (a.put oo.dst (.slice (some ⟨g, 0, none⟩) (n + 1) cap)) w') :
    if Region.wanted oo (yielded ops a.tmps) = true then Oper.wp Tryz.prog oo a (w.alloc (.cells #[.int .i64 m.f.args, .int .i64 m.f.regs, .slice m.A m.f.ops.length m.c] T1)) K Q else E := by
  obtain ⟨i, hi, hz⟩ := Option.map_eq_some_iff.1 fnInfo
  simp only [Prod.mk.injEq] at hz
  obtain ⟨z1, z2, z3⟩ := hz
  subst hb
  refine step_append_lies _ hgd s x 22 hop base 107 i (.agg #[.int .i64 0, .int .i64 0, .slice none 0 0]) 3 40 Tryz.underlying22 hi z1 z2 z3 rfl (by decide) v n xs hs (hrow.alloc _) ⟨w.heap.size, 0, none⟩ 1 1 m.cells hx rfl
    (fun j u hu => World.news_of_block (heap_alloc_new w (.cells #[.int .i64 m.f.args, .int .i64 m.f.regs, .slice m.A m.f.ops.length m.c] T1)) j u hu) (by unfold Fm.cells; simp [Value.oneCell']) (by decide) (by unfold maxLen; omega) (by omega) (by simp; omega) (w.heap.size + 1) (by simp) ?_
  intro g cap w' h1 h2 _ _
  exact h g cap w' h1 h2
/-- Rows of unlike types are unlike blocks. -/
theorem rowNe {w : World} {b1 b2 n1 n2 m1 m2 : Nat} {T1 T2 : TypeId} {v1 v2 : Value} {x1 x2 : List Value} (h1 : w.ownsRow b1 T1 m1 v1 n1 x1) (h2 : w.ownsRow b2 T2 m2 v2 n2 x2) (hT : T1 ≠ T2) : ∀ k, v1.ownBlock = some k → v2.ownBlock ≠ some k := by
  intro k hk hk2
  rcases h1.2 with ⟨rfl, _⟩ | ⟨g, cap, cur, rfl, _, hg, _⟩
  · simp [Value.ownBlock] at hk
  · rcases h2.2 with ⟨rfl, _⟩ | ⟨g2, cap2, cur2, rfl, _, hg2, _⟩
    · simp [Value.ownBlock] at hk2
    · simp only [Value.ownBlock, Option.some.injEq] at hk hk2
      subst hk
      subst hk2
      rw [hg] at hg2
      simp only [Option.some.injEq, Obj.cells.injEq] at hg2
      exact hT hg2.2.1
/-- Functions are read, so many. -/
def rFns : Nat → ByteArray → Nat → List FnV × ByteArray × Nat
  | 0, s, f => ([], s, f)
  | n + 1, s, f => ((rFns n s f).1 ++ [(rFn (rFns n s f).2.1 (rFns n s f).2.2).1], (rFn (rFns n s f).2.1 (rFns n s f).2.2).2)
theorem rFns_len (n : Nat) (s : ByteArray) (f : Nat) : (rFns n s f).1.length = n := by
  induction n with
  | zero => rfl
  | succ n ih => unfold rFns; simp [ih]
theorem rFns_size (n : Nat) (s : ByteArray) (f : Nat) : (rFns n s f).2.1.size ≤ s.size := by
  induction n with
  | zero => exact Nat.le_refl _
  | succ n ih => exact Nat.le_trans (rFn_size _ _) ih
/-- A program is read, behind its version. -/
def rProg (s : ByteArray) (f : Nat) : List FnV × ByteArray × Nat := rFns (rC 16 s f).1 (rC 16 s f).2.1 (rC 16 s f).2.2
theorem rProg_size (s : ByteArray) (f : Nat) : (rProg s f).2.1.size ≤ s.size := Nat.le_trans (rFns_size _ _ _) (Wire.step_size s f)
/-- A program's block. -/
def PBlk (w : World) (F : Nat) (v : Value) : Prop := w.heap[F]? = some (.cells #[v] 24 (0, 0))
section
variable {w w' : World} {F : Nat} {v : Value}
theorem PBlk.lt (h : PBlk w F v) : F < w.heap.size := ltH h
theorem PBlk.c0 (h : PBlk w F v) : w.cell? ⟨F, 0, none⟩ = some v := cell_of_row _ _ 0 _ _ _ h
theorem PBlk.f (h : PBlk w F v) (i : Nat) : w.frozen? ⟨F, i, none⟩ = false := Lib.frozen_of_heap h i
theorem PBlk.of_block (h : PBlk w F v) (hb : w'.heap[F]? = w.heap[F]?) : PBlk w' F v := hb.trans h
theorem PBlk.set0 (h : PBlk w F v) (u : Value) : PBlk (w.setCell ⟨F, 0, none⟩ u) F u := by
  unfold PBlk at h ⊢
  simp [World.setCell, Array.getElem?_modify, h]
end
end Cd

end Go.Proofs.YtepnofklmdofmaaGreatDoor
end

section
namespace Go.Proofs.YtepnofklmdofmaaGreatDoor
open Go.RowKit

namespace Cd
/-! What is read fits the Go types. -/
theorem setI_rng {o : OpV} (h : o.Rng) (i : Nat) {x : Int} (hx : 0 ≤ x ∧ x ≤ 16) : (o.setI i x).Rng := by
  unfold OpV.setI
  split
  · exact ⟨h.k, ⟨by show _ ≤ x; omega, by show x ≤ _; omega⟩, h.a, h.b, h.n⟩
  · split
    · exact ⟨h.k, h.d, ⟨by show _ ≤ x; omega, by show x ≤ _; omega⟩, h.b, h.n⟩
    · exact ⟨h.k, h.d, h.a, ⟨by show _ ≤ x; omega, by show x ≤ _; omega⟩, h.n⟩
theorem rRegs_rng (l : List Nat) (x : OpV × ByteArray × Nat) (h : x.1.Rng) : (rRegs l x).1.Rng := by
  unfold rRegs
  induction l generalizing x with
  | nil => exact h
  | cons i l ih => exact ih _ (setI_rng h i ⟨by omega, by have := stepU_le 16 x.2.1 x.2.2; omega⟩)
theorem rng0 (k : Nat) (hk : k < 256) : (⟨k, 0, 0, 0, 0⟩ : OpV).Rng := by
  have h0 : (-9223372036854775808 : Int) ≤ 0 ∧ (0 : Int) ≤ 9223372036854775807 := by decide
  exact ⟨hk, h0, h0, h0, h0⟩
theorem rOp_rng (s : ByteArray) (f : Nat) : (rOp s f).1.Rng := by
  have h1 : (rHead s f).1.Rng := rRegs_rng _ _ (rng0 _ (Nat.lt_succ_of_le (stepU_le 255 s f)))
  unfold rOp
  split
  · exact ⟨h1.k, h1.d, h1.a, h1.b, Num.zag_range _ (Wire.step_lt _ _)⟩
  · exact h1
theorem rOps_rng (n : Nat) (s : ByteArray) (f : Nat) : ∀ o ∈ (rOps n s f).1, o.Rng := by
  induction n with
  | zero => intro o ho; simp [rOps] at ho
  | succ n ih =>
    intro o ho
    unfold rOps at ho
    rcases List.mem_append.1 ho with h | h
    · exact ih o h
    · rw [List.mem_singleton.1 h]; exact rOp_rng _ _
theorem rFn_rng (s : ByteArray) (f : Nat) : (rFn s f).1.Rng := by
  have h1 := stepU_le 16 s f
  have h2 := stepU_le 16 (rA s f).2.1 (rA s f).2.2
  have h3 := rC_le 64 (rA (rA s f).2.1 (rA s f).2.2).2.1 (rA (rA s f).2.1 (rA s f).2.2).2.2
  refine ⟨⟨by show _ ≤ ((rA s f).1 : Int); omega, ?_⟩, ⟨by show _ ≤ ((rA (rA s f).2.1 (rA s f).2.2).1 : Int); omega, ?_⟩, rOps_rng _ _ _, ?_⟩
  · show ((rA s f).1 : Int) ≤ _
    unfold rA
    omega
  · show ((rA (rA s f).2.1 (rA s f).2.2).1 : Int) ≤ _
    have : (rA (rA s f).2.1 (rA s f).2.2).1 ≤ 16 := h2
    omega
  · show (rOps _ _ _).1.length ≤ _
    rw [rOps_len]
    unfold maxLen
    exact Nat.le_trans h3 (by decide)
theorem rFns_rng (n : Nat) (s : ByteArray) (f : Nat) : ∀ o ∈ (rFns n s f).1, o.Rng := by
  induction n with
  | zero => intro o ho; simp [rFns] at ho
  | succ n ih =>
    intro o ho
    unfold rFns at ho
    rcases List.mem_append.1 ho with h | h
    · exact ih o h
    · rw [List.mem_singleton.1 h]; exact rFn_rng _ _
/-- What Decode tells: the program, the code. -/
def dec (s : ByteArray) : List FnV × Int :=
  if 16384 < s.size then ([], 4)
  else if (Wire.step (Wire.wU 18446744073709551615) s 0).2.2 ≠ 0 then ([], 8)
  else if (Wire.step (Wire.wU 18446744073709551615) s 0).1 ≠ 1 then ([], 100)
  else if Wire.fin (rProg (Wire.step (Wire.wU 18446744073709551615) s 0).2.1 (Wire.step (Wire.wU 18446744073709551615) s 0).2.2).2.1 (rProg (Wire.step (Wire.wU 18446744073709551615) s 0).2.1 (Wire.step (Wire.wU 18446744073709551615) s 0).2.2).2.2 ≠ 0 then ([], 8)
  else if pok (rProg (Wire.step (Wire.wU 18446744073709551615) s 0).2.1 (Wire.step (Wire.wU 18446744073709551615) s 0).2.2).1 then ((rProg (Wire.step (Wire.wU 18446744073709551615) s 0).2.1 (Wire.step (Wire.wU 18446744073709551615) s 0).2.2).1, 0) else ([], 8)
theorem dec_rng (s : ByteArray) : ∀ f ∈ (dec s).1, f.Rng := by
  unfold dec
  split
  · intro f hf; simp at hf
  · split
    · intro f hf; simp at hf
    · split
      · intro f hf; simp at hf
      · split
        · intro f hf; simp at hf
        · split
          · exact rFns_rng _ _ _
          · intro f hf; simp at hf
/-- The rows of a program that was read. -/
structure Rows (w : World) (b : Nat) (A : Option Addr) (c : Nat) (ms : List Fm) : Prop where
  fs : w.ownsRow b 107 3 (.slice A ms.length c) ms.length (mcells ms)
  os : ∀ m ∈ ms, w.ownsRow b 72 5 (.slice m.A m.f.ops.length m.c) m.f.ops.length (ocells m.f.ops)
theorem Rows.keep {w w' : World} {b c : Nat} {A : Option Addr} {ms : List Fm} (h : Rows w b A c ms) (hk : ∀ i, b ≤ i → i < w.heap.size → w'.heap[i]? = w.heap[i]?) : Rows w' b A c ms :=
  ⟨rowKeep h.fs fun i hi => hk i (h.fs.lt i hi).1 (h.fs.lt i hi).2, fun m hm => rowKeep (h.os m hm) fun i hi => hk i ((h.os m hm).lt i hi).1 ((h.os m hm).lt i hi).2⟩
theorem Rows.prog {w : World} {b c : Nat} {A : Option Addr} {ms : List Fm} (h : Rows w b A c ms) : Prog w w.heap.size A ms := ⟨rowLies h.fs, fun m hm => rowLies (h.os m hm)⟩
theorem Rows.base {w : World} {b b2 c : Nat} {A : Option Addr} {ms : List Fm} (h : Rows w b A c ms) (hb : b2 ≤ b) : Rows w b2 A c ms := ⟨rowBase h.fs hb, fun m hm => rowBase (h.os m hm) hb⟩
theorem Rows.nil (w : World) (b : Nat) : Rows w b none 0 [] := ⟨⟨rfl, .inl ⟨rfl, rfl⟩⟩, fun m hm => by simp at hm⟩
theorem results_ct {P : Program} {fn : Func} {p t : Tmp} {ty : TypeId} (h : fn.results = #[.cell p ty, .tmp t]) (tmps : Array Value) (w : World) (g : Nat) (T : TypeId) (cs : Array Value) (fr : Nat × Nat) (d : TypeDesc)
    (hp : tmps.getD p undef = .pointer (some ⟨g, 0, none⟩)) (hg : w.heap[g]? = some (.cells cs T fr))
    (hu : P.underlying ty = some d) (hd : (match d with | .struct _ | .array _ _ => true | _ => false) = true) (hi : (P.info? ty).map (·.size) = some cs.size) (v : Value) (hv : tmps.getD t undef = v) :
    (results fn tmps).run P w = .ok (.tuple #[.agg cs, v]) w := by
  have hp' : tmps[p]?.getD undef = .pointer (some ⟨g, 0, none⟩) := by simpa using hp
  have hv' : tmps[t]?.getD undef = v := by simpa using hv
  simp [results, h, hp', hv', asAddr, run_loadVar_row w g T ty cs fr d hg hu hd hi]
end Cd

end Go.Proofs.YtepnofklmdofmaaGreatDoor
end
