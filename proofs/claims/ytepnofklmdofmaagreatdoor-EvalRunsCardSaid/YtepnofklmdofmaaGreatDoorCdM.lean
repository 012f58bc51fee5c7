/-
  Layer 10, plainly: ops, functions, programs: what each kind of op has, their form, their bytes; how they lie in memory.
-/
import Derived.Test.YtepnofklmdofmaaGreatDoorLowWireR
import Derived.Test.YtepnofklmdofmaaGreatDoorLowWireW
namespace Go.Proofs.YtepnofklmdofmaaGreatDoor
open Go.RowKit

namespace Cd
/-- Does a kind have D, A, B, N? -/
def hD (k : Nat) : Bool := (decide (1 ≤ k) && decide (k ≤ 9)) || decide (k = 12)
def hA (k : Nat) : Bool := (decide (2 ≤ k) && decide (k ≤ 9)) || decide (k = 11) || decide (k = 12) || decide (k = 14)
def hB (k : Nat) : Bool := decide (3 ≤ k) && decide (k ≤ 9)
def hN (k : Nat) : Bool := decide (k = 1) || decide (k = 10) || decide (k = 11) || decide (k = 12)
def isK (k : Nat) : Bool := decide (1 ≤ k) && decide (k ≤ 14)
/-- The same, as the program keeps them: in a number's bits. -/
def pb (d a b n : Bool) : Nat := (if d then 1 else 0) + (if a then 2 else 0) + (if b then 4 else 0) + (if n then 8 else 0)
def prt (k : Nat) : Nat := pb (hD k) (hA k) (hB k) (hN k)
/-- A register, or how many. -/
def reg (x : Int) : Bool := decide (0 ≤ x) && decide (x ≤ 16)
theorem reg_iff {x : Int} : reg x = true ↔ 0 ≤ x ∧ x ≤ 16 := by unfold reg; simp

structure OpV where
  k : Nat
  d : Int
  a : Int
  b : Int
  n : Int
  deriving Inhabited
@[ext] theorem OpV.ext' {x y : OpV} (h1 : x.k = y.k) (h2 : x.d = y.d) (h3 : x.a = y.a) (h4 : x.b = y.b) (h5 : x.n = y.n) : x = y := by cases x; cases y; simp_all
def OpV.cells (o : OpV) : List Value := [.int .u8 (o.k : Int), .int .i64 o.d, .int .i64 o.a, .int .i64 o.b, .int .i64 o.n]
def OpV.val (o : OpV) : Value := .agg #[.int .u8 (o.k : Int), .int .i64 o.d, .int .i64 o.a, .int .i64 o.b, .int .i64 o.n]
/-- What the Go types let it be. -/
structure OpV.Rng (o : OpV) : Prop where
  k : o.k < 256
  d : -9223372036854775808 ≤ o.d ∧ o.d ≤ 9223372036854775807
  a : -9223372036854775808 ≤ o.a ∧ o.a ≤ 9223372036854775807
  b : -9223372036854775808 ≤ o.b ∧ o.b ≤ 9223372036854775807
  n : -9223372036854775808 ≤ o.n ∧ o.n ≤ 9223372036854775807
/-- Without some of its parts. -/
def OpV.less (o : OpV) (d a b n : Bool) : OpV := ⟨o.k, if d then 0 else o.d, if a then 0 else o.a, if b then 0 else o.b, if n then 0 else o.n⟩
def OpV.bare (o : OpV) : OpV := o.less (hD o.k) (hA o.k) (hB o.k) (hN o.k)
def OpV.ok (o : OpV) : Bool := isK o.k && (reg o.d && reg o.a && reg o.b) && (decide (o.bare.d = 0) && decide (o.bare.a = 0) && decide (o.bare.b = 0) && decide (o.bare.n = 0))

structure FnV where
  args : Int
  regs : Int
  ops : List OpV
  deriving Inhabited
structure FnV.Rng (f : FnV) : Prop where
  args : -9223372036854775808 ≤ f.args ∧ f.args ≤ 9223372036854775807
  regs : -9223372036854775808 ≤ f.regs ∧ f.regs ≤ 9223372036854775807
  ops : ∀ o ∈ f.ops, o.Rng
  len : f.ops.length ≤ maxLen
def FnV.ok (f : FnV) : Bool := reg f.args && reg f.regs && decide (f.ops.length ≤ 64) && f.ops.all OpV.ok
def pok (p : List FnV) : Bool := decide (p.length ≤ 16) && p.all FnV.ok

/-! Bytes. -/
def uv (x : Int) : List UInt8 := Lib.uvarint x.toNat
def OpV.regs (o : OpV) : List Int := (if hD o.k then [o.d] else []) ++ (if hA o.k then [o.a] else []) ++ (if hB o.k then [o.b] else [])
def OpV.bytes (o : OpV) : List UInt8 := Lib.uvarint o.k ++ o.regs.flatMap uv ++ (if hN o.k then Lib.uvarint (Lib.zigzag o.n) else [])
def obs (l : List OpV) : List UInt8 := l.flatMap OpV.bytes
def FnV.bytes (f : FnV) : List UInt8 := uv f.args ++ uv f.regs ++ Lib.uvarint f.ops.length ++ obs f.ops
def fbs (l : List FnV) : List UInt8 := l.flatMap FnV.bytes
def pbs (p : List FnV) : List UInt8 := Lib.uvarint 1 ++ Lib.uvarint p.length ++ fbs p

/-! In memory. -/
def ocells (l : List OpV) : List Value := l.flatMap OpV.cells
theorem ocells_len (l : List OpV) : (ocells l).length = l.length * 5 := by
  induction l with
  | nil => rfl
  | cons o l ih =>
    show (o.cells ++ ocells l).length = _
    rw [List.length_append, ih]
    simp [OpV.cells]
    omega
theorem ocells_snoc (l : List OpV) (o : OpV) : ocells (l ++ [o]) = ocells l ++ o.cells := by unfold ocells; simp
theorem ocells_at {l : List OpV} {j i : Nat} {u : Value} (hj : j < l.length) (h : (l[j].cells)[i]? = some u) : (ocells l)[j * 5 + i]? = some u := by
  induction l generalizing j with
  | nil => simp at hj
  | cons o l ih =>
    have e : ocells (o :: l) = o.cells ++ ocells l := rfl
    have hc : o.cells.length = 5 := rfl
    cases j with
    | zero =>
      have hi : i < 5 := by
        have := (List.getElem?_eq_some_iff.1 h).1
        simpa [OpV.cells] using this
      rw [e, List.getElem?_append_left (by omega)]
      simpa using h
    | succ j =>
      rw [e, List.getElem?_append_right (by omega), hc]
      have : (j + 1) * 5 + i - 5 = j * 5 + i := by omega
      rw [this]
      exact ih (by simpa using hj) (by simpa using h)

/-- A function, and where its ops lie. -/
structure Fm where
  f : FnV
  A : Option Addr
  c : Nat
  deriving Inhabited
def Fm.cells (m : Fm) : List Value := [.int .i64 m.f.args, .int .i64 m.f.regs, .slice m.A m.f.ops.length m.c]
def Fm.val (m : Fm) : Value := .agg #[.int .i64 m.f.args, .int .i64 m.f.regs, .slice m.A m.f.ops.length m.c]
def mcells (l : List Fm) : List Value := l.flatMap Fm.cells
theorem mcells_len (l : List Fm) : (mcells l).length = l.length * 3 := by
  induction l with
  | nil => rfl
  | cons o l ih =>
    show (o.cells ++ mcells l).length = _
    rw [List.length_append, ih]
    simp [Fm.cells]
    omega
theorem mcells_snoc (l : List Fm) (o : Fm) : mcells (l ++ [o]) = mcells l ++ o.cells := by unfold mcells; simp
theorem mcells_at {l : List Fm} {j i : Nat} {u : Value} (hj : j < l.length) (h : (l[j].cells)[i]? = some u) : (mcells l)[j * 3 + i]? = some u := by
  induction l generalizing j with
  | nil => simp at hj
  | cons o l ih =>
    have e : mcells (o :: l) = o.cells ++ mcells l := rfl
    have hc : o.cells.length = 3 := rfl
    cases j with
    | zero =>
      have hi : i < 3 := by
        have := (List.getElem?_eq_some_iff.1 h).1
        simpa [Fm.cells] using this
      rw [e, List.getElem?_append_left (by omega)]
      simpa using h
    | succ j =>
      rw [e, List.getElem?_append_right (by omega), hc]
      have : (j + 1) * 3 + i - 3 = j * 3 + i := by omega
      rw [this]
      exact ih (by simpa using hj) (by simpa using h)

/-- Functions in memory, all of them below block B. -/
structure Prog (w : World) (B : Nat) (A : Option Addr) (l : List Fm) : Prop where
  fs : Lies w B A (mcells l)
  os : ∀ m ∈ l, Lies w B m.A (ocells m.f.ops)
section
variable {w w' : World} {B B' : Nat} {A : Option Addr} {l : List Fm}
theorem Prog.below (h : Prog w B A l) (hb : Below B w w') : Prog w' B A l := ⟨h.fs.below hb, fun m hm => (h.os m hm).below hb⟩
theorem Prog.mono (h : Prog w B A l) (hB : B ≤ B') : Prog w B' A l := ⟨h.fs.mono hB, fun m hm => (h.os m hm).mono hB⟩
theorem Prog.keep (h : Prog w B A l) (hk : ∀ p : Addr, p.block < B → w'.cell? p = w.cell? p) : Prog w' B A l := ⟨h.fs.keep hk, fun m hm => (h.os m hm).keep hk⟩
end
/-- The functions alone. -/
def fns (l : List Fm) : List FnV := l.map Fm.f
theorem fns_len (l : List Fm) : (fns l).length = l.length := by unfold fns; simp

theorem off (p : Addr) (i : Nat) (h : i ≠ 0) : p.add i = ⟨p.block, p.off + i, none⟩ := by unfold Addr.add; rw [if_neg h]
/-- One op's cells, as a walk asks for them. -/
theorem op_at {w : World} {B : Nat} {A : Option Addr} {l : List OpV} (h : Lies w B A (ocells l)) {j : Nat} (hj : j < l.length) :
    ∃ ad : Addr, A = some ad ∧ ad.block < B ∧ w.cell? (ad.add (j * 5)) = some (.int .u8 (l[j].k : Int)) ∧ w.cell? ⟨(ad.add (j * 5)).block, (ad.add (j * 5)).off + 1, none⟩ = some (.int .i64 l[j].d) ∧ w.cell? ⟨(ad.add (j * 5)).block, (ad.add (j * 5)).off + 2, none⟩ = some (.int .i64 l[j].a) ∧
      w.cell? ⟨(ad.add (j * 5)).block, (ad.add (j * 5)).off + 3, none⟩ = some (.int .i64 l[j].b) ∧ w.cell? ⟨(ad.add (j * 5)).block, (ad.add (j * 5)).off + 4, none⟩ = some (.int .i64 l[j].n) := by
  obtain ⟨ad, e, hb, hc⟩ := h (by rw [ocells_len]; omega)
  have hx : ∀ i u, (l[j].cells)[i]? = some u → w.cell? ((ad.add (j * 5)).add i) = some u := fun i u hu => by
    have := hc (j * 5 + i) u (ocells_at hj hu)
    have e2 : (ad.add (j * 5)).add i = ad.add (j * 5 + i) := by
      unfold Addr.add
      repeat' split
      all_goals first | rfl | omega | (simp_all; done) | (simp_all; omega)
    rw [e2]; exact this
  refine ⟨ad, e, hb, hx 0 _ rfl, ?_, ?_, ?_, ?_⟩
  · rw [← off _ 1 (by omega)]; exact hx 1 _ rfl
  · rw [← off _ 2 (by omega)]; exact hx 2 _ rfl
  · rw [← off _ 3 (by omega)]; exact hx 3 _ rfl
  · rw [← off _ 4 (by omega)]; exact hx 4 _ rfl
theorem fn_at {w : World} {B : Nat} {A : Option Addr} {l : List Fm} (h : Lies w B A (mcells l)) {j : Nat} (hj : j < l.length) :
    ∃ ad : Addr, A = some ad ∧ ad.block < B ∧ w.cell? (ad.add (j * 3)) = some (.int .i64 l[j].f.args) ∧ w.cell? ⟨(ad.add (j * 3)).block, (ad.add (j * 3)).off + 1, none⟩ = some (.int .i64 l[j].f.regs) ∧
      w.cell? ⟨(ad.add (j * 3)).block, (ad.add (j * 3)).off + 2, none⟩ = some (.slice l[j].A l[j].f.ops.length l[j].c) := by
  obtain ⟨ad, e, hb, hc⟩ := h (by rw [mcells_len]; omega)
  have hx : ∀ i u, (l[j].cells)[i]? = some u → w.cell? ((ad.add (j * 3)).add i) = some u := fun i u hu => by
    have := hc (j * 3 + i) u (mcells_at hj hu)
    have e2 : (ad.add (j * 3)).add i = ad.add (j * 3 + i) := by
      unfold Addr.add
      repeat' split
      all_goals first | rfl | omega | (simp_all; done) | (simp_all; omega)
    rw [e2]; exact this
  refine ⟨ad, e, hb, hx 0 _ rfl, ?_, ?_⟩
  · rw [← off _ 1 (by omega)]; exact hx 1 _ rfl
  · rw [← off _ 2 (by omega)]; exact hx 2 _ rfl
end Cd
end Go.Proofs.YtepnofklmdofmaaGreatDoor
