/-
  What slices hold, as lists of cells; a law's slices, opened: whatever slice comes in reads as a list of its elements.
-/
import Derived.Test.YtlgelhkpdldgdaaChecked
import Derived.Deep.Slices
import Derived.Carry
import Derived.Below
import Derived.Lib.Hide
import Derived.RowKit
namespace Go.Proofs.Ytlgelhkpdldgdaa
open Go.ChangeShapes Go.WideShapes Go.RowKit Go.Deep

/-! ### Rows of cells -/
/-- A slice whose address is A reads as the cells xs, all of them below block B. -/
def Lies (w : World) (B : Nat) (A : Option Addr) (xs : List Value) : Prop :=
  0 < xs.length → ∃ ad, A = some ad ∧ ad.block < B ∧ ∀ j u, xs[j]? = some u → w.cell? (ad.add j) = some u

namespace Lies
variable {w w' : World} {B B' : Nat} {A : Option Addr} {xs : List Value}
theorem add_block (a : Addr) (n : Nat) : (a.add n).block = a.block := by unfold Addr.add; split <;> rfl
theorem keep (h : Lies w B A xs) (hk : ∀ p : Addr, p.block < B → w'.cell? p = w.cell? p) : Lies w' B A xs := fun hn => by
  obtain ⟨ad, e, hb, hc⟩ := h hn
  exact ⟨ad, e, hb, fun j u hu => (hk _ (by rw [add_block]; exact hb)).trans (hc j u hu)⟩
theorem below (h : Lies w B A xs) (hb : Below B w w') : Lies w' B A xs := h.keep fun _ hp => hb.cell hp
theorem drew (h : Lies w B A xs) : Lies w.drew B A xs := h
theorem mono (h : Lies w B A xs) (hB : B ≤ B') : Lies w B' A xs := fun hn => by
  obtain ⟨ad, e, hb, hc⟩ := h hn
  exact ⟨ad, e, by omega, hc⟩
theorem at_ {k : Nat} {u : Value} (h : Lies w B A xs) (hk : xs[k]? = some u) : ∃ ad, A = some ad ∧ ad.block < B ∧ w.cell? (ad.add k) = some u := by
  have hl := (List.getElem?_eq_some_iff.1 hk).1
  obtain ⟨ad, e, hb, hc⟩ := h (by omega)
  exact ⟨ad, e, hb, hc k u hk⟩
theorem nil : Lies w B A [] := fun h => absurd h (by simp)
end Lies

/-- Numbers as cells. -/
def u64s (xs : List Nat) : List Value := xs.map fun x : Nat => Value.int .u64 (x : Int)
theorem u64s_at {xs : List Nat} {k : Nat} (h : k < xs.length) : (u64s xs)[k]? = some (.int .u64 (xs[k] : Int)) := by
  unfold u64s
  rw [List.getElem?_map, List.getElem?_eq_getElem h]
  rfl

def icells (xs : List Int) : List Value := xs.map fun x : Int => Value.int .i64 x
theorem icells_at {xs : List Int} {k : Nat} (h : k < xs.length) : (icells xs)[k]? = some (.int .i64 xs[k]) := by
  unfold icells
  rw [List.getElem?_map, List.getElem?_eq_getElem h]
  rfl

def tcells (xs : List ByteArray) : List Value := xs.map fun x : ByteArray => Value.string x
theorem tcells_at {xs : List ByteArray} {k : Nat} (h : k < xs.length) : (tcells xs)[k]? = some (.string xs[k]) := by
  unfold tcells
  rw [List.getElem?_map, List.getElem?_eq_getElem h]
  rfl

def bcells (xs : List Bool) : List Value := xs.map fun x : Bool => Value.bool x
theorem bcells_at {xs : List Bool} {k : Nat} (h : k < xs.length) : (bcells xs)[k]? = some (.bool xs[k]) := by
  unfold bcells
  rw [List.getElem?_map, List.getElem?_eq_getElem h]
  rfl

section
variable {H : Type} {enc : TypeId × Value → H} {P : Program} {w : World}

/-- Element by element: 'Q' is what the cells of one say of it. -/
theorem open_any {t e : TypeId} {fuel : Nat} {cs : List Value} {x : DataW H × List MemPlace} (ht : P.underlying t = some (.slice e)) (h : DataW.trod enc P w 0 (fun _ => true) true fuel t cs = some x)
    {α : Type} [Inhabited α] (Q : List Value → α → Prop) (each : ∀ (cs' : List Value) (n : Nat) (y : DataW H × List MemPlace), DataW.trod enc P w 0 (fun _ => true) true n e cs' = some y → ∃ a, Q cs' a) :
    ∃ (xs : List α) (A : Option Addr) (c : Nat), cs = [.slice A xs.length c] ∧ xs.length ≤ maxLen ∧
      (0 < xs.length → 0 < P.cellsOf e → ∃ ad, A = some ad ∧ ad.block < w.heap.size ∧ ∀ j (hj : j < xs.length), ∃ cs', Q cs' xs[j] ∧ cs'.length = P.cellsOf e ∧ ∀ i u, cs'[i]? = some u → w.cell? ((ad.add (j * P.cellsOf e)).add i) = some u) := by
  rcases open_slice ht h with ⟨rfl, _⟩ | ⟨a, len, cap, m, n, D, Pl, rfl, _, hl, hm, hmm, _, hx⟩
  · exact ⟨[], none, 0, rfl, Nat.zero_le _, fun h => absurd h (by simp)⟩
  · simp only [if_true] at hmm
    obtain ⟨y, hy⟩ := choose_lt (α := α) (n := len) (p := fun i b => ∃ cs', Q cs' b ∧ cs'.length = P.cellsOf e ∧ ∀ j u, cs'[j]? = some u → w.cell? ((a.add (i * P.cellsOf e)).add j) = some u) (fun i hi => by
      obtain ⟨cs', hc, htr⟩ := hx i (by omega)
      obtain ⟨_, hcl, hat⟩ := World.cells?_some hc
      obtain ⟨b, hb⟩ := each cs' n _ htr
      refine ⟨b, cs', hb, hcl, fun j u hu => ?_⟩
      rw [hat j (by have := (List.getElem?_eq_some_iff.1 hu).1; omega)]
      exact hu)
    refine ⟨(List.range len).map y, some a, cap, by simp, by simp; omega, fun h0 hk => ⟨a, rfl, ?_, fun j hj => ?_⟩⟩
    · obtain ⟨cs', _, hlen, hc⟩ := hy 0 (by simpa using h0)
      have := hc 0 _ (List.getElem?_eq_getElem (by omega))
      have hb := World.block_lt_of_cell? w _ this
      have e1 : ∀ (a : Addr) (n : Nat), (a.add n).block = a.block := fun a n => by unfold Addr.add; split <;> rfl
      rw [e1, e1] at hb
      exact hb
    · have hj' : j < len := by simpa using hj
      obtain ⟨cs', h1, h2, h3⟩ := hy j hj'
      exact ⟨cs', by simpa using h1, h2, h3⟩

/-- Where an element is one cell. -/
theorem open_one {t e : TypeId} {fuel : Nat} {cs : List Value} {x : DataW H × List MemPlace} (ht : P.underlying t = some (.slice e)) (hk : P.cellsOf e = 1) (h : DataW.trod enc P w 0 (fun _ => true) true fuel t cs = some x)
    {α : Type} [Inhabited α] (f : α → Value) (q : α → Prop) (each : ∀ (cs' : List Value) (n : Nat) (y : DataW H × List MemPlace), DataW.trod enc P w 0 (fun _ => true) true n e cs' = some y → ∃ a, cs' = [f a] ∧ q a) :
    ∃ (xs : List α) (A : Option Addr) (c : Nat), cs = [.slice A xs.length c] ∧ xs.length ≤ maxLen ∧ Lies w w.heap.size A (xs.map f) ∧ ∀ x ∈ xs, q x := by
  obtain ⟨xs, A, c, hcs, hlen, hl⟩ := open_any ht h (fun cs' a => cs' = [f a] ∧ q a) each
  refine ⟨xs, A, c, hcs, hlen, fun h0 => ?_, fun x hx => ?_⟩
  · obtain ⟨ad, hA, hb, hj⟩ := hl (by simpa using h0) (by omega)
    refine ⟨ad, hA, hb, fun j u hu => ?_⟩
    have hjl : j < xs.length := by simpa using (List.getElem?_eq_some_iff.1 hu).1
    obtain ⟨cs', ⟨rfl, _⟩, _, hc⟩ := hj j hjl
    have := hc 0 (f xs[j]) rfl
    rw [hk, Nat.mul_one] at this
    have e0 : ∀ a : Addr, a.add 0 = a := fun a => rfl
    rw [e0] at this
    rw [this, ← hu, List.getElem?_map, List.getElem?_eq_getElem hjl]
    rfl
  · obtain ⟨j, hj, rfl⟩ := List.getElem_of_mem hx
    obtain ⟨_, _, _, hjj⟩ := hl (by omega) (by omega)
    obtain ⟨cs', ⟨_, hq⟩, _⟩ := hjj j hj
    exact hq

theorem trod_u64s {t e : TypeId} {fuel : Nat} {cs : List Value} {x : DataW H × List MemPlace} (ht : P.underlying t = some (.slice e)) (he : P.underlying e = some (.int .u64)) (hk : P.cellsOf e = 1)
    (h : DataW.trod enc P w 0 (fun _ => true) true fuel t cs = some x) :
    ∃ (xs : List Nat) (A : Option Addr) (c : Nat), cs = [.slice A xs.length c] ∧ xs.length ≤ maxLen ∧ Lies w w.heap.size A (u64s xs) ∧ ∀ x ∈ xs, x < 18446744073709551616 :=
  open_one ht hk h (fun x : Nat => Value.int .u64 (x : Int)) (fun x => x < 18446744073709551616) (fun cs' n y hy => by
    obtain ⟨m, rfl, _, hw⟩ := DataW.trod_int he hy
    have b : 0 ≤ m ∧ m ≤ 18446744073709551615 := by simpa [Lit.wf, IntKind.min, IntKind.max, IntKind.signed, IntKind.bits] using hw
    refine ⟨m.toNat, ?_, by omega⟩
    show [Value.int .u64 m] = [Value.int .u64 ((m.toNat : Nat) : Int)]
    rw [Int.toNat_of_nonneg b.1])

theorem trod_i64s {t e : TypeId} {fuel : Nat} {cs : List Value} {x : DataW H × List MemPlace} (ht : P.underlying t = some (.slice e)) (he : P.underlying e = some (.int .i64)) (hk : P.cellsOf e = 1)
    (h : DataW.trod enc P w 0 (fun _ => true) true fuel t cs = some x) :
    ∃ (xs : List Int) (A : Option Addr) (c : Nat), cs = [.slice A xs.length c] ∧ xs.length ≤ maxLen ∧ Lies w w.heap.size A (icells xs) ∧ ∀ x ∈ xs, -9223372036854775808 ≤ x ∧ x ≤ 9223372036854775807 :=
  open_one ht hk h (fun x : Int => Value.int .i64 x) (fun x => -9223372036854775808 ≤ x ∧ x ≤ 9223372036854775807) (fun cs' n y hy => by
    obtain ⟨m, rfl, _, hw⟩ := DataW.trod_int he hy
    exact ⟨m, rfl, by simpa [Lit.wf, IntKind.min, IntKind.max, IntKind.signed, IntKind.bits] using hw⟩)

theorem trod_strs {t e : TypeId} {fuel : Nat} {cs : List Value} {x : DataW H × List MemPlace} (ht : P.underlying t = some (.slice e)) (he : P.underlying e = some .string) (hk : P.cellsOf e = 1)
    (h : DataW.trod enc P w 0 (fun _ => true) true fuel t cs = some x) :
    ∃ (xs : List ByteArray) (A : Option Addr) (c : Nat), cs = [.slice A xs.length c] ∧ xs.length ≤ maxLen ∧ Lies w w.heap.size A (tcells xs) ∧ ∀ x ∈ xs, x.size ≤ maxLen :=
  open_one ht hk h (fun x : ByteArray => Value.string x) (fun x => x.size ≤ maxLen) (fun cs' n y hy => by
    obtain ⟨m, rfl, _, hw⟩ := DataW.trod_string he hy
    exact ⟨m, rfl, hw⟩)

theorem trod_bools {t e : TypeId} {fuel : Nat} {cs : List Value} {x : DataW H × List MemPlace} (ht : P.underlying t = some (.slice e)) (he : P.underlying e = some .bool) (hk : P.cellsOf e = 1)
    (h : DataW.trod enc P w 0 (fun _ => true) true fuel t cs = some x) :
    ∃ (xs : List Bool) (A : Option Addr) (c : Nat), cs = [.slice A xs.length c] ∧ xs.length ≤ maxLen ∧ Lies w w.heap.size A (bcells xs) ∧ ∀ x ∈ xs, True :=
  open_one ht hk h (fun x : Bool => Value.bool x) (fun _ => True) (fun cs' n y hy => by
    obtain ⟨b, rfl, _⟩ := DataW.trod_bool he hy
    exact ⟨b, rfl, trivial⟩)

/-- A parameter that is a slice: its value, by what its one cell says. -/
theorem slice_of {base : Nat} {t e : TypeId} {v : Value} {n c : Nat} {A : Option Addr} (ht : P.underlying t = some (.slice e)) (hv : Value.okWide P w .any base t v) (h : v.cells.toList = [.slice A n c]) :
    v = .slice A n c := by
  obtain ⟨a, len, cap, rfl⟩ := okWide_slice ht hv
  simpa [Value.cells] using h
end

theorem laidOut : laidOutB Try.prog = true := by kernel_rfl
end Go.Proofs.Ytlgelhkpdldgdaa
