/-
  Layer 10's programs, opened: a program by value reads as functions in memory.
-/
import Derived.Test.YtepnofklmdofmaaGreatDoorCdM
import Derived.Test.YtepnofklmdofmaaGreatDoorLowOpen
import Derived.ProofKit
import Derived.Deep.QuietTactic
import Derived.Test.YtepnofklmdofmaaGreatDoorProg
namespace Go.Proofs.YtepnofklmdofmaaGreatDoor
open Go.ChangeShapes Go.WideShapes Go.RowKit Go.Deep

theorem op_cells : Tryz.prog.cellsOf 72 = 5 := by kernel_rfl
theorem fnc_cells : Tryz.prog.cellsOf 107 = 3 := by kernel_rfl
theorem pgm_cells : Tryz.prog.cellsOf 24 = 1 := by kernel_rfl
theorem k10_1 : Tryz.prog.cellsOf 3 = 1 := by kernel_rfl
theorem k10_2 : Tryz.prog.cellsOf 5 = 1 := by kernel_rfl
theorem k10_3 : Tryz.prog.cellsOf 2 = 1 := by kernel_rfl
theorem k10_4 : Tryz.prog.cellsOf 105 = 1 := by kernel_rfl
theorem k10_5 : Tryz.prog.cellsOf 22 = 1 := by kernel_rfl

namespace Cd
theorem ocells_inv {l : List OpV} {j : Nat} {u : Value} (h : (ocells l)[j]? = some u) : ∃ hj : j / 5 < l.length, (l[j / 5].cells)[j % 5]? = some u := by
  induction l generalizing j with
  | nil => simp [ocells] at h
  | cons o l ih =>
    have e : ocells (o :: l) = o.cells ++ ocells l := rfl
    have hc : o.cells.length = 5 := rfl
    by_cases h5 : j < 5
    · rw [e, List.getElem?_append_left (by omega)] at h
      have h0 : j / 5 = 0 := by omega
      have h1 : j % 5 = j := by omega
      refine ⟨by rw [h0]; simp, ?_⟩
      simp only [h0, h1]
      exact h
    · rw [e, List.getElem?_append_right (by omega), hc] at h
      obtain ⟨hj, hu⟩ := ih h
      have h0 : j / 5 = (j - 5) / 5 + 1 := by omega
      have h1 : j % 5 = (j - 5) % 5 := by omega
      refine ⟨by rw [h0]; simpa using hj, ?_⟩
      simp only [h0, h1]
      exact hu
theorem mcells_inv {l : List Fm} {j : Nat} {u : Value} (h : (mcells l)[j]? = some u) : ∃ hj : j / 3 < l.length, (l[j / 3].cells)[j % 3]? = some u := by
  induction l generalizing j with
  | nil => simp [mcells] at h
  | cons o l ih =>
    have e : mcells (o :: l) = o.cells ++ mcells l := rfl
    have hc : o.cells.length = 3 := rfl
    by_cases h5 : j < 3
    · rw [e, List.getElem?_append_left (by omega)] at h
      have h0 : j / 3 = 0 := by omega
      have h1 : j % 3 = j := by omega
      refine ⟨by rw [h0]; simp, ?_⟩
      simp only [h0, h1]
      exact h
    · rw [e, List.getElem?_append_right (by omega), hc] at h
      obtain ⟨hj, hu⟩ := ih h
      have h0 : j / 3 = (j - 3) / 3 + 1 := by omega
      have h1 : j % 3 = (j - 3) % 3 := by omega
      refine ⟨by rw [h0]; simpa using hj, ?_⟩
      simp only [h0, h1]
      exact hu
theorem add_add10 (a : Addr) (i j : Nat) : (a.add i).add j = a.add (i + j) := by
  unfold Addr.add
  repeat' split
  all_goals first | rfl | omega | (simp_all; done) | (simp_all; omega)
end Cd

section
variable {H : Type} {enc : TypeId × Value → H} {w : World}

set_option maxRecDepth 100000 in
theorem trod_op10 {fuel : Nat} {cs : List Value} {x : DataW H × List MemPlace} (h : DataW.trod enc Tryz.prog w 0 (fun _ => true) true fuel 72 cs = some x) : ∃ o : Cd.OpV, cs = o.cells ∧ o.Rng := by
  obtain ⟨xs, m, _, _, hlen, hxl, hf⟩ := DataW.trod_struct Tryz.underlying72 h
  rw [op_cells] at hlen
  match cs, hlen, xs, hxl with
  | [c0, c1, c2, c3, c4], _, [y0, y1, y2, y3, y4], _ =>
    have f0 : DataW.trod enc Tryz.prog w 0 (fun _ => true) true m 5 (List.take (Tryz.prog.cellsOf 5) [c0, c1, c2, c3, c4]) = some y0 := hf 0 _ rfl
    rw [k10_2] at f0
    have f1 : DataW.trod enc Tryz.prog w 0 (fun _ => true) true m 3 (List.take (Tryz.prog.cellsOf 3) [c1, c2, c3, c4]) = some y1 := hf 1 _ rfl
    rw [k10_1] at f1
    have f2 : DataW.trod enc Tryz.prog w 0 (fun _ => true) true m 3 (List.take (Tryz.prog.cellsOf 3) [c2, c3, c4]) = some y2 := hf 2 _ rfl
    rw [k10_1] at f2
    have f3 : DataW.trod enc Tryz.prog w 0 (fun _ => true) true m 3 (List.take (Tryz.prog.cellsOf 3) [c3, c4]) = some y3 := hf 3 _ rfl
    rw [k10_1] at f3
    have f4 : DataW.trod enc Tryz.prog w 0 (fun _ => true) true m 2 (List.take (Tryz.prog.cellsOf 2) [c4]) = some y4 := hf 4 _ rfl
    rw [k10_3] at f4
    obtain ⟨a0, e0, _, w0⟩ := DataW.trod_int Tryz.underlying5 f0
    obtain ⟨a1, e1, _, w1⟩ := DataW.trod_int Tryz.underlying3 f1
    obtain ⟨a2, e2, _, w2⟩ := DataW.trod_int Tryz.underlying3 f2
    obtain ⟨a3, e3, _, w3⟩ := DataW.trod_int Tryz.underlying3 f3
    obtain ⟨a4, e4, _, w4⟩ := DataW.trod_int Tryz.underlying2 f4
    have b0 : 0 ≤ a0 ∧ a0 ≤ 255 := by simpa [Lit.wf, IntKind.min, IntKind.max, IntKind.signed, IntKind.bits] using w0
    have b1 : -9223372036854775808 ≤ a1 ∧ a1 ≤ 9223372036854775807 := by simpa [Lit.wf, IntKind.min, IntKind.max, IntKind.signed, IntKind.bits] using w1
    have b2 : -9223372036854775808 ≤ a2 ∧ a2 ≤ 9223372036854775807 := by simpa [Lit.wf, IntKind.min, IntKind.max, IntKind.signed, IntKind.bits] using w2
    have b3 : -9223372036854775808 ≤ a3 ∧ a3 ≤ 9223372036854775807 := by simpa [Lit.wf, IntKind.min, IntKind.max, IntKind.signed, IntKind.bits] using w3
    have b4 : -9223372036854775808 ≤ a4 ∧ a4 ≤ 9223372036854775807 := by simpa [Lit.wf, IntKind.min, IntKind.max, IntKind.signed, IntKind.bits] using w4
    have e0' : c0 = .int .u8 a0 := by simpa using e0
    have e1' : c1 = .int .i64 a1 := by simpa using e1
    have e2' : c2 = .int .i64 a2 := by simpa using e2
    have e3' : c3 = .int .i64 a3 := by simpa using e3
    have e4' : c4 = .int .i64 a4 := by simpa using e4
    refine ⟨⟨a0.toNat, a1, a2, a3, a4⟩, ?_, ⟨by show a0.toNat < 256; omega, b1, b2, b3, b4⟩⟩
    have e5 : ((a0.toNat : Nat) : Int) = a0 := by omega
    unfold Cd.OpV.cells
    simp only []
    rw [e0', e1', e2', e3', e4', e5]

theorem trod_ops10 {fuel : Nat} {cs : List Value} {x : DataW H × List MemPlace} (h : DataW.trod enc Tryz.prog w 0 (fun _ => true) true fuel 105 cs = some x) :
    ∃ (l : List Cd.OpV) (A : Option Addr) (c : Nat), cs = [.slice A l.length c] ∧ l.length ≤ maxLen ∧ Lies w w.heap.size A (Cd.ocells l) ∧ ∀ o ∈ l, o.Rng := by
  obtain ⟨l, A, c, hcs, hn, hl⟩ := open_any Tryz.underlying105 h (fun cs' a => cs' = Cd.OpV.cells a ∧ a.Rng) (fun cs' n y hy => trod_op10 hy)
  refine ⟨l, A, c, hcs, hn, fun h0 => ?_, fun a ha => ?_⟩
  · have h0' : 0 < l.length := by rw [Cd.ocells_len] at h0; omega
    obtain ⟨ad, hA, hb, hj⟩ := hl h0' (by rw [op_cells]; decide)
    refine ⟨ad, hA, hb, fun j u hu => ?_⟩
    obtain ⟨hjl, hu2⟩ := Cd.ocells_inv hu
    obtain ⟨cs', ⟨rfl, _⟩, _, hc⟩ := hj (j / 5) hjl
    rw [op_cells] at hc
    have := hc (j % 5) u hu2
    rw [Cd.add_add10, show j / 5 * 5 + j % 5 = j by omega] at this
    exact this
  · obtain ⟨j, hj, rfl⟩ := List.getElem_of_mem ha
    obtain ⟨_, _, _, hjj⟩ := hl (by omega) (by rw [op_cells]; decide)
    obtain ⟨cs', ⟨_, hq⟩, _⟩ := hjj j hj
    exact hq

set_option maxRecDepth 100000 in
theorem trod_fn10 {fuel : Nat} {cs : List Value} {x : DataW H × List MemPlace} (h : DataW.trod enc Tryz.prog w 0 (fun _ => true) true fuel 107 cs = some x) : ∃ m : Cd.Fm, cs = m.cells ∧ m.f.Rng ∧ Lies w w.heap.size m.A (Cd.ocells m.f.ops) := by
  obtain ⟨xs, m, _, _, hlen, hxl, hf⟩ := DataW.trod_struct Tryz.underlying107 h
  rw [fnc_cells] at hlen
  match cs, hlen, xs, hxl with
  | [c0, c1, c2], _, [y0, y1, y2], _ =>
    have f0 : DataW.trod enc Tryz.prog w 0 (fun _ => true) true m 3 (List.take (Tryz.prog.cellsOf 3) [c0, c1, c2]) = some y0 := hf 0 _ rfl
    rw [k10_1] at f0
    have f1 : DataW.trod enc Tryz.prog w 0 (fun _ => true) true m 3 (List.take (Tryz.prog.cellsOf 3) [c1, c2]) = some y1 := hf 1 _ rfl
    rw [k10_1] at f1
    have f2 : DataW.trod enc Tryz.prog w 0 (fun _ => true) true m 105 (List.take (Tryz.prog.cellsOf 105) [c2]) = some y2 := hf 2 _ rfl
    rw [k10_4] at f2
    obtain ⟨a0, e0, _, w0⟩ := DataW.trod_int Tryz.underlying3 f0
    obtain ⟨a1, e1, _, w1⟩ := DataW.trod_int Tryz.underlying3 f1
    obtain ⟨l, A, c, e2, hn, hl, hr⟩ := trod_ops10 f2
    have b0 : -9223372036854775808 ≤ a0 ∧ a0 ≤ 9223372036854775807 := by simpa [Lit.wf, IntKind.min, IntKind.max, IntKind.signed, IntKind.bits] using w0
    have b1 : -9223372036854775808 ≤ a1 ∧ a1 ≤ 9223372036854775807 := by simpa [Lit.wf, IntKind.min, IntKind.max, IntKind.signed, IntKind.bits] using w1
    have e0' : c0 = .int .i64 a0 := by simpa using e0
    have e1' : c1 = .int .i64 a1 := by simpa using e1
    have e2' : c2 = .slice A l.length c := by simpa using e2
    refine ⟨⟨⟨a0, a1, l⟩, A, c⟩, ?_, ⟨b0, b1, hr, hn⟩, hl⟩
    unfold Cd.Fm.cells
    simp only []
    rw [e0', e1', e2']

theorem trod_fns10 {fuel : Nat} {cs : List Value} {x : DataW H × List MemPlace} (h : DataW.trod enc Tryz.prog w 0 (fun _ => true) true fuel 22 cs = some x) :
    ∃ (l : List Cd.Fm) (A : Option Addr) (c : Nat), cs = [.slice A l.length c] ∧ l.length ≤ maxLen ∧ Cd.Prog w w.heap.size A l ∧ ∀ m ∈ l, m.f.Rng := by
  obtain ⟨l, A, c, hcs, hn, hl⟩ := open_any Tryz.underlying22 h (fun cs' (m : Cd.Fm) => cs' = m.cells ∧ m.f.Rng ∧ Lies w w.heap.size m.A (Cd.ocells m.f.ops)) (fun cs' n y hy => trod_fn10 hy)
  have hall : ∀ m ∈ l, m.f.Rng ∧ Lies w w.heap.size m.A (Cd.ocells m.f.ops) := fun m hm => by
    obtain ⟨j, hj, rfl⟩ := List.getElem_of_mem hm
    obtain ⟨_, _, _, hjj⟩ := hl (by omega) (by rw [fnc_cells]; decide)
    obtain ⟨cs', ⟨_, hq⟩, _⟩ := hjj j hj
    exact hq
  refine ⟨l, A, c, hcs, hn, ⟨fun h0 => ?_, fun m hm => (hall m hm).2⟩, fun m hm => (hall m hm).1⟩
  have h0' : 0 < l.length := by rw [Cd.mcells_len] at h0; omega
  obtain ⟨ad, hA, hb, hj⟩ := hl h0' (by rw [fnc_cells]; decide)
  refine ⟨ad, hA, hb, fun j u hu => ?_⟩
  obtain ⟨hjl, hu2⟩ := Cd.mcells_inv hu
  obtain ⟨cs', ⟨rfl, _⟩, _, hc⟩ := hj (j / 3) hjl
  rw [fnc_cells] at hc
  have := hc (j % 3) u hu2
  rw [Cd.add_add10, show j / 3 * 3 + j % 3 = j by omega] at this
  exact this

set_option maxRecDepth 100000 in
theorem trod_prog10 {fuel : Nat} {cs : List Value} {x : DataW H × List MemPlace} (h : DataW.trod enc Tryz.prog w 0 (fun _ => true) true fuel 24 cs = some x) :
    ∃ (l : List Cd.Fm) (A : Option Addr) (c : Nat), cs = [.slice A l.length c] ∧ l.length ≤ maxLen ∧ Cd.Prog w w.heap.size A l ∧ ∀ m ∈ l, m.f.Rng := by
  obtain ⟨xs, m, _, _, hlen, hxl, hf⟩ := DataW.trod_struct Tryz.underlying24 h
  rw [pgm_cells] at hlen
  match cs, hlen, xs, hxl with
  | [c0], _, [y0], _ =>
    have f0 : DataW.trod enc Tryz.prog w 0 (fun _ => true) true m 22 (List.take (Tryz.prog.cellsOf 22) [c0]) = some y0 := hf 0 _ rfl
    rw [k10_5] at f0
    obtain ⟨l, A, c, e0, hn, hP, hR⟩ := trod_fns10 f0
    exact ⟨l, A, c, by simpa using e0, hn, hP, hR⟩

set_option maxRecDepth 100000 in
theorem prog_of10 {base : Nat} {v : Value} {u : Value} (hv : Value.okWide Tryz.prog w .any base 24 v) (h : v.cells.toList = [u]) : v = .agg #[u] := by
  obtain ⟨cs, rfl, _⟩ := okWide_struct Tryz.underlying24 hv
  have : cs = #[u] := by
    apply Array.ext'
    simpa [Value.cells] using h
  rw [this]
end
end Go.Proofs.YtepnofklmdofmaaGreatDoor
