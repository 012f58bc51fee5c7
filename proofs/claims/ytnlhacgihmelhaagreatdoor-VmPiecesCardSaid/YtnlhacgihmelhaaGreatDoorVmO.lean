/-
  Layer 14's results and tasks, opened: by value, they read as numbers, a text, a list.
-/
import Derived.Test.YtnlhacgihmelhaaGreatDoorL10S
namespace Go.Proofs.YtnlhacgihmelhaaGreatDoor
open Go.ChangeShapes Go.WideShapes Go.RowKit Go.Deep

theorem res_cells : Tryz.prog.cellsOf 30 = 2 := by kernel_rfl
theorem tsk_cells : Tryz.prog.cellsOf 41 = 4 := by kernel_rfl
theorem k14_1 : Tryz.prog.cellsOf 28 = 1 := by kernel_rfl
theorem k14_2 : Tryz.prog.cellsOf 9 = 1 := by kernel_rfl
theorem k14_3 : Tryz.prog.cellsOf 25 = 1 := by kernel_rfl
section
variable {H : Type} {enc : TypeId × Value → H} {w : World}

set_option maxRecDepth 100000 in
theorem trod_res14 {fuel : Nat} {cs : List Value} {x : DataW H × List MemPlace} (h : DataW.trod enc Tryz.prog w 0 (fun _ => true) true fuel 30 cs = some x) :
    ∃ v e : Int, cs = [.int .i64 v, .int .i64 e] := by
  obtain ⟨xs, m, _, _, hlen, hxl, hf⟩ := DataW.trod_struct Tryz.underlying30 h
  rw [res_cells] at hlen
  match cs, hlen, xs, hxl with
  | [c0, c1], _, [y0, y1], _ =>
    have f0 : DataW.trod enc Tryz.prog w 0 (fun _ => true) true m 2 (List.take (Tryz.prog.cellsOf 2) [c0, c1]) = some y0 := hf 0 _ rfl
    rw [k10_3] at f0
    have f1 : DataW.trod enc Tryz.prog w 0 (fun _ => true) true m 28 (List.take (Tryz.prog.cellsOf 28) [c1]) = some y1 := hf 1 _ rfl
    rw [k14_1] at f1
    obtain ⟨a0, e0, _, _⟩ := DataW.trod_int Tryz.underlying2 f0
    obtain ⟨a1, e1, _, _⟩ := DataW.trod_int Tryz.underlying28 f1
    exact ⟨a0, a1, by rw [show c0 = .int .i64 a0 by simpa using e0, show c1 = .int .i64 a1 by simpa using e1]⟩

set_option maxRecDepth 100000 in
theorem res_of14 {base : Nat} {v : Value} {a b : Value} (hv : Value.okWide Tryz.prog w .any base 30 v) (h : v.cells.toList = [a, b]) : v = .agg #[a, b] := by
  obtain ⟨cs, rfl, _⟩ := okWide_struct Tryz.underlying30 hv
  have : cs = #[a, b] := by
    apply Array.ext'
    simpa [Value.cells] using h
  rw [this]

set_option maxRecDepth 100000 in
theorem trod_task14 {fuel : Nat} {cs : List Value} {x : DataW H × List MemPlace} (h : DataW.trod enc Tryz.prog w 0 (fun _ => true) true fuel 41 cs = some x) :
    ∃ (pa : ByteArray) (fn : Int) (xs : List Int) (A : Option Addr) (c : Nat) (fu : Int), cs = [.string pa, .int .i64 fn, .slice A xs.length c, .int .i64 fu] ∧ pa.size ≤ maxLen ∧ xs.length ≤ maxLen ∧ Lies w w.heap.size A (icells xs) ∧ (∀ x ∈ xs, -9223372036854775808 ≤ x ∧ x ≤ 9223372036854775807) ∧ (-9223372036854775808 ≤ fn ∧ fn ≤ 9223372036854775807) ∧ -9223372036854775808 ≤ fu ∧ fu ≤ 9223372036854775807 := by
  obtain ⟨ys, m, _, _, hlen, hxl, hf⟩ := DataW.trod_struct Tryz.underlying41 h
  rw [tsk_cells] at hlen
  match cs, hlen, ys, hxl with
  | [c0, c1, c2, c3], _, [y0, y1, y2, y3], _ =>
    have f0 : DataW.trod enc Tryz.prog w 0 (fun _ => true) true m 9 (List.take (Tryz.prog.cellsOf 9) [c0, c1, c2, c3]) = some y0 := hf 0 _ rfl
    rw [k14_2] at f0
    have f1 : DataW.trod enc Tryz.prog w 0 (fun _ => true) true m 3 (List.take (Tryz.prog.cellsOf 3) [c1, c2, c3]) = some y1 := hf 1 _ rfl
    rw [k10_1] at f1
    have f2 : DataW.trod enc Tryz.prog w 0 (fun _ => true) true m 25 (List.take (Tryz.prog.cellsOf 25) [c2, c3]) = some y2 := hf 2 _ rfl
    rw [k14_3] at f2
    have f3 : DataW.trod enc Tryz.prog w 0 (fun _ => true) true m 3 (List.take (Tryz.prog.cellsOf 3) [c3]) = some y3 := hf 3 _ rfl
    rw [k10_1] at f3
    obtain ⟨s, e0, _, hs⟩ := DataW.trod_string Tryz.underlying9 f0
    obtain ⟨a1, e1, _, w1⟩ := DataW.trod_int Tryz.underlying3 f1
    obtain ⟨xs, A, c, e2, hn, hl, hb⟩ := trod_i64s Tryz.underlying25 Tryz.underlying2 (by kernel_rfl) f2
    obtain ⟨a3, e3, _, w3⟩ := DataW.trod_int Tryz.underlying3 f3
    exact ⟨s, a1, xs, A, c, a3, by rw [show c0 = .string s by simpa using e0, show c1 = .int .i64 a1 by simpa using e1, show c2 = .slice A xs.length c by simpa using e2, show c3 = .int .i64 a3 by simpa using e3], hs, hn, hl, hb, by simpa [Lit.wf, IntKind.min, IntKind.max, IntKind.signed, IntKind.bits] using w1, by simpa [Lit.wf, IntKind.min, IntKind.max, IntKind.signed, IntKind.bits] using w3⟩

set_option maxRecDepth 100000 in
theorem task_of14 {base : Nat} {v : Value} {a b c d : Value} (hv : Value.okWide Tryz.prog w .any base 41 v) (h : v.cells.toList = [a, b, c, d]) : v = .agg #[a, b, c, d] := by
  obtain ⟨cs, rfl, _⟩ := okWide_struct Tryz.underlying41 hv
  have : cs = #[a, b, c, d] := by
    apply Array.ext'
    simpa [Value.cells] using h
  rw [this]
end
end Go.Proofs.YtnlhacgihmelhaaGreatDoor
