/-
  Layer 10's known small run.
  Layer 10's Heavy: which programs a statement looks at.
  Layer 10's programs, opened: a program by value reads as functions in memory.
  What a law of layer 10 calls, in every world behind one in which its programs lie.
-/
import Derived.Test.YtkigoidklonhcaaGreatDoorCdY
import Derived.Test.YtkigoidklonhcaaGreatDoorCdV
import Derived.Test.YtkigoidklonhcaaGreatDoorCrA
import Derived.Test.YtkigoidklonhcaaGreatDoorCdH
import Derived.Test.YtkigoidklonhcaaGreatDoorCdM
import Derived.Test.YtkigoidklonhcaaGreatDoorLowOpen
import Derived.ProofKit
import Derived.Deep.QuietTactic
import Derived.Test.YtkigoidklonhcaaGreatDoorProg
import Derived.Test.YtkigoidklonhcaaGreatDoorCdZ
section
namespace Go.Proofs.YtkigoidklonhcaaGreatDoor
open Go.RowKit

namespace Cd
def am (n : Nat) : Fm := ⟨aFn, some ⟨n, 0, none⟩, 2⟩
theorem a_rng : ∀ f ∈ [aFn], f.Rng := by rw [← a_dec0]; exact dec_rng _
/-- The small program, as the law lays it. -/
theorem a_laid {w W1 W2 W : World} {T1 T2 : TypeId} (h1 : W1 = w.alloc (.cells #[.int .u8 1, .int .i64 1, .int .i64 0, .int .i64 0, .int .i64 (-1), .int .u8 14, .int .i64 0, .int .i64 1, .int .i64 0, .int .i64 0] T1))
    (h2 : W2 = W1.alloc (.cells #[.int .i64 1, .int .i64 2, .slice (some ⟨w.heap.size, 0, none⟩) 2 2] T2)) (h3 : W = W2.alloc (.cells #[.slice (some ⟨w.heap.size + 1, 0, none⟩) 1 1] 24)) :
    Prog W W.heap.size (some ⟨w.heap.size + 1, 0, none⟩) [am w.heap.size] ∧ PBlk W (w.heap.size + 2) (.slice (some ⟨w.heap.size + 1, 0, none⟩) 1 1) ∧ Below w.heap.size w W := by
  have s1 : W1.heap.size = w.heap.size + 1 := by rw [h1]; simp
  have s2 : W2.heap.size = w.heap.size + 2 := by rw [h2]; simp [s1]
  have s3 : W.heap.size = w.heap.size + 3 := by rw [h3]; simp [s2]
  have b1 : Below w.heap.size w W1 := by rw [h1]; exact fn1 _ _ _
  have b2 : Below W1.heap.size W1 W2 := by rw [h2]; exact fn1 _ _ _
  have b3 : Below W2.heap.size W2 W := by rw [h3]; exact fn1 _ _ _
  have hO : W.heap[w.heap.size]? = some (.cells #[.int .u8 1, .int .i64 1, .int .i64 0, .int .i64 0, .int .i64 (-1), .int .u8 14, .int .i64 0, .int .i64 1, .int .i64 0, .int .i64 0] T1 (0, 0)) := by
    rw [b3.block _ (by omega), b2.block _ (by omega), h1]; exact heap_alloc_new w _
  have hF : W.heap[w.heap.size + 1]? = some (.cells #[.int .i64 1, .int .i64 2, .slice (some ⟨w.heap.size, 0, none⟩) 2 2] T2 (0, 0)) := by
    rw [b3.block _ (by omega), ← s1, h2]; exact heap_alloc_new W1 _
  refine ⟨⟨fun _ => ⟨_, rfl, by show w.heap.size + 1 < _; omega, fun j u hu => World.news_of_block hF j u hu⟩, fun m hm => ?_⟩, ?_, b1.trans ((b2.trans (b3.mono b2.size)).mono b1.size)⟩
  · rw [List.mem_singleton.1 hm]
    exact fun _ => ⟨_, rfl, by show w.heap.size < _; omega, fun j u hu => World.news_of_block hO j u hu⟩
  · show W.heap[w.heap.size + 2]? = _
    rw [← s2, h3]
    exact heap_alloc_new W2 _
end Cd

theorem Cd.cellB {V U : World} {X : Nat} {v : Value} (hb : Below V.heap.size V U) (hl : X < V.heap.size) (c : V.cell? ⟨X, 0, none⟩ = some v) : U.cell? ⟨X, 0, none⟩ = some v := (World.cell?_of_block (hb.block X hl)).trans c
theorem Cd.eqFs_refl (l : List Cd.FnV) : Cd.eqFs l l = true := Cd.eqFs_iff.2 rfl
theorem Cd.prog_new {w : World} {T : TypeId} : Cd.Prog (w.alloc (.cells #[.int .i64 0, .int .i64 17, .slice none 0 0] T)) (w.alloc (.cells #[.int .i64 0, .int .i64 17, .slice none 0 0] T)).heap.size (some ⟨w.heap.size, 0, none⟩) [⟨⟨0, 17, []⟩, none, 0⟩] :=
  ⟨fun _ => ⟨_, rfl, by simp, fun j u hu => World.news_of_block (heap_alloc_new w _) j u hu⟩, fun m hm => by rw [List.mem_singleton.1 hm]; exact fun h => by simp [Cd.ocells] at h⟩
end Go.Proofs.YtkigoidklonhcaaGreatDoor
end

section
namespace Go.Proofs.YtkigoidklonhcaaGreatDoor
open Go.RowKit

/-- What Heavy tells. -/
def HeavyP (l : List Cd.Fm) (w : World) (e : Ending) (w' : World) : Prop := ∃ b : Bool, e = .returned (.bool b) ∧ (b = false → l.length ≤ 60 ∧ ∀ m ∈ l, m.f.ops.length ≤ 200) ∧ Below w.heap.size w w'

set_option maxHeartbeats 1000000 in
set_option maxRecDepth 20000 in
theorem heavyp (l : List Cd.Fm) (hR : ∀ m ∈ l, m.f.Rng) (hn : l.length ≤ maxLen) (A : Option Addr) (c : Nat) (w : World) (hP : Cd.Prog w w.heap.size A l) :
    Calls Tryz.prog 4 #[.agg #[.slice A l.length c]] w (HeavyP l w) := by
  unfold maxLen at hn
  obtain ⟨W, hW⟩ : ∃ W, W = w.alloc (.cells #[.slice A l.length c] 24) := ⟨_, rfl⟩
  have hb : Below w.heap.size w W := by rw [hW]; exact Cd.fn1 _ _ _
  have HF : Hid (W.heap[w.heap.size]? = some (.cells #[.slice A l.length c] 24 (0, 0))) := by show _ = _; rw [hW]; exact heap_alloc_new w _
  have HB := Lib.hid hb
  have HP := Lib.hid hP
  have HR := Lib.hid hR
  have c0 : W.cell? ⟨w.heap.size, 0, none⟩ = some (.slice A l.length c) := cell_of_row _ _ 0 _ _ _ HF.out
  clear hb hP hR
  go_enter Tryz.func4, Tryz.ntmps4
  go_upto_region 1 with fail
  rw [← hW]
  clear hW
  by_cases h60 : 60 < l.length
  · have h60i : (60 : Int) < l.length := by omega
    clear h60
    go_wp2_with fail
    go_ret
    exact ⟨true, rfl, (fun h => by cases h), HB.out⟩
  · have h60i : ¬ (60 : Int) < l.length := by omega
    have H60 := Lib.hid h60
    clear h60
    go_wp2_with fail
    go_loopw [3] (fun s3 wr => ∃ k : Nat, k ≤ l.length ∧ s3 = .int .i64 k ∧ Hid (∀ m ∈ l.take k, m.f.ops.length ≤ 200) ∧ wr = W) (fun s3 _ => l.length - (intOf s3).toNat)
    case atStart => exact ⟨0, Nat.zero_le _, rfl, (show Hid _ from fun m hm => by simp at hm), rfl⟩
    case round =>
      obtain ⟨k, hk, rfl, HK, rfl⟩ := hrel
      by_cases hlt : k < l.length
      · obtain ⟨ad, rfl, hadb, d0, d1, d2⟩ := Cd.fn_at (HP.out.below HB.out).fs hlt
        have k0 : (0 : Int) ≤ (k : Int) := by omega
        have k1 : (k : Int) < l.length := by omega
        have hlen := (HR.out _ (List.getElem_mem hlt)).len
        unfold maxLen at hlen
        have HK2 : Hid (l[k].f.ops.length ≤ 200 → ∀ m ∈ l.take (k + 1), m.f.ops.length ≤ 200) := fun h m hm => by
          rw [List.take_succ_eq_append_getElem hlt] at hm
          rcases List.mem_append.1 hm with hm | hm
          · exact HK.out m hm
          · rw [List.mem_singleton.1 hm]; exact h
        generalize l[k] = m at d0 d1 d2 hlen HK2
        clear hadb hlt
        by_cases h2 : 200 < m.f.ops.length
        · have h2i : (200 : Int) < m.f.ops.length := by omega
          clear h2
          go_wp2_with fail
          go_ret
          exact ⟨true, rfl, (fun h => by cases h), HB.out⟩
        · have h2i : ¬ (200 : Int) < m.f.ops.length := by omega
          have HK3 := Lib.hid (HK2.out (by omega))
          clear h2 HK2
          go_wp2_with fail
          go_roundw
          case rel => first | exact ⟨k + 1, by omega, by go_num, HK3.out, rfl⟩ | exact ⟨k + 1, by omega, by go_num, HK3.out, trivial⟩
          case measure => simp [intOf]; omega
      · have k1 : ¬ ((k : Int) < l.length) := by omega
        have HE : Hid (l.length ≤ 60 ∧ ∀ m ∈ l, m.f.ops.length ≤ 200) := by
          refine ⟨by have := H60.out; omega, ?_⟩
          have := HK.out
          rwa [List.take_of_length_le (by omega)] at this
        go_wp2_with fail
        go_ret
        exact ⟨false, rfl, (fun _ => HE.out), HB.out⟩
end Go.Proofs.YtkigoidklonhcaaGreatDoor
end

section
namespace Go.Proofs.YtkigoidklonhcaaGreatDoor
open Go.ChangeShapes Go.WideShapes Go.RowKit Go.Deep

theorem op_cells : Tryz.prog.cellsOf 44 = 5 := by kernel_rfl
theorem fnc_cells : Tryz.prog.cellsOf 41 = 3 := by kernel_rfl
theorem pgm_cells : Tryz.prog.cellsOf 24 = 1 := by kernel_rfl
theorem k10_1 : Tryz.prog.cellsOf 3 = 1 := by kernel_rfl
theorem k10_2 : Tryz.prog.cellsOf 5 = 1 := by kernel_rfl
theorem k10_3 : Tryz.prog.cellsOf 2 = 1 := by kernel_rfl
theorem k10_4 : Tryz.prog.cellsOf 39 = 1 := by kernel_rfl
theorem k10_5 : Tryz.prog.cellsOf 22 = 1 := by kernel_rfl

namespace Cd
theorem ocells_inv {l : List OpV} {j : Nat} {u : Value} (h : (ocells l)[j]? = some u) : ∃ hj : j / 5 < l.length, (l[j / 5].cells)[j % 5]? = some u := by
  induction l generalizing j with
  | nil => simp [ocells] at h
  | cons o l ih =>
    have e : ocells (o :: l) = o.cells ++ ocells l := rfl
    have hc : o.cells.length = 5 := rfl
    by_cases h5 : j < 5
    · rw [e, List.getElem?_append_left (by omega)] at h
      have h0 : j / 5 = 0 := by omega
      have h1 : j % 5 = j := by omega
      refine ⟨by rw [h0]; simp, ?_⟩
      simp only [h0, h1]
      exact h
    · rw [e, List.getElem?_append_right (by omega), hc] at h
      obtain ⟨hj, hu⟩ := ih h
      have h0 : j / 5 = (j - 5) / 5 + 1 := by omega
      have h1 : j % 5 = (j - 5) % 5 := by omega
      refine ⟨by rw [h0]; simpa using hj, ?_⟩
      simp only [h0, h1]
      exact hu
theorem mcells_inv {l : List Fm} {j : Nat} {u : Value} (h : (mcells l)[j]? = some u) : ∃ hj : j / 3 < l.length, (l[j / 3].cells)[j % 3]? = some u := by
  induction l generalizing j with
  | nil => simp [mcells] at h
  | cons o l ih =>
    have e : mcells (o :: l) = o.cells ++ mcells l := rfl
    have hc : o.cells.length = 3 := rfl
    by_cases h5 : j < 3
    · rw [e, List.getElem?_append_left (by omega)] at h
      have h0 : j / 3 = 0 := by omega
      have h1 : j % 3 = j := by omega
      refine ⟨by rw [h0]; simp, ?_⟩
      simp only [h0, h1]
      exact h
    · rw [e, List.getElem?_append_right (by omega), hc] at h
      obtain ⟨hj, hu⟩ := ih h
      have h0 : j / 3 = (j - 3) / 3 + 1 := by omega
      have h1 : j % 3 = (j - 3) % 3 := by omega
      refine ⟨by rw [h0]; simpa using hj, ?_⟩
      simp only [h0, h1]
      exact hu
theorem add_add10 (a : Addr) (i j : Nat) : (a.add i).add j = a.add (i + j) := by
  unfold Addr.add
  repeat' split
  all_goals first | rfl | omega | (simp_all; done) | (simp_all; omega)
end Cd

section
variable {H : Type} {enc : TypeId × Value → H} {w : World}

set_option maxRecDepth 100000 in
theorem trod_op10 {fuel : Nat} {cs : List Value} {x : DataW H × List MemPlace} (h : DataW.trod enc Tryz.prog w 0 (fun _ => true) true fuel 44 cs = some x) : ∃ o : Cd.OpV, cs = o.cells ∧ o.Rng := by
  obtain ⟨xs, m, _, _, hlen, hxl, hf⟩ := DataW.trod_struct Tryz.underlying44 h
  rw [op_cells] at hlen
  match cs, hlen, xs, hxl with
  | [c0, c1, c2, c3, c4], _, [y0, y1, y2, y3, y4], _ =>
    have f0 : DataW.trod enc Tryz.prog w 0 (fun _ => true) true m 5 (List.take (Tryz.prog.cellsOf 5) [c0, c1, c2, c3, c4]) = some y0 := hf 0 _ rfl
    rw [k10_2] at f0
    have f1 : DataW.trod enc Tryz.prog w 0 (fun _ => true) true m 3 (List.take (Tryz.prog.cellsOf 3) [c1, c2, c3, c4]) = some y1 := hf 1 _ rfl
    rw [k10_1] at f1
    have f2 : DataW.trod enc Tryz.prog w 0 (fun _ => true) true m 3 (List.take (Tryz.prog.cellsOf 3) [c2, c3, c4]) = some y2 := hf 2 _ rfl
    rw [k10_1] at f2
    have f3 : DataW.trod enc Tryz.prog w 0 (fun _ => true) true m 3 (List.take (Tryz.prog.cellsOf 3) [c3, c4]) = some y3 := hf 3 _ rfl
    rw [k10_1] at f3
    have f4 : DataW.trod enc Tryz.prog w 0 (fun _ => true) true m 2 (List.take (Tryz.prog.cellsOf 2) [c4]) = some y4 := hf 4 _ rfl
    rw [k10_3] at f4
    obtain ⟨a0, e0, _, w0⟩ := DataW.trod_int Tryz.underlying5 f0
    obtain ⟨a1, e1, _, w1⟩ := DataW.trod_int Tryz.underlying3 f1
    obtain ⟨a2, e2, _, w2⟩ := DataW.trod_int Tryz.underlying3 f2
    obtain ⟨a3, e3, _, w3⟩ := DataW.trod_int Tryz.underlying3 f3
    obtain ⟨a4, e4, _, w4⟩ := DataW.trod_int Tryz.underlying2 f4
    have b0 : 0 ≤ a0 ∧ a0 ≤ 255 := by simpa [Lit.wf, IntKind.min, IntKind.max, IntKind.signed, IntKind.bits] using w0
    have b1 : -9223372036854775808 ≤ a1 ∧ a1 ≤ 9223372036854775807 := by simpa [Lit.wf, IntKind.min, IntKind.max, IntKind.signed, IntKind.bits] using w1
    have b2 : -9223372036854775808 ≤ a2 ∧ a2 ≤ 9223372036854775807 := by simpa [Lit.wf, IntKind.min, IntKind.max, IntKind.signed, IntKind.bits] using w2
    have b3 : -9223372036854775808 ≤ a3 ∧ a3 ≤ 9223372036854775807 := by simpa [Lit.wf, IntKind.min, IntKind.max, IntKind.signed, IntKind.bits] using w3
    have b4 : -9223372036854775808 ≤ a4 ∧ a4 ≤ 9223372036854775807 := by simpa [Lit.wf, IntKind.min, IntKind.max, IntKind.signed, IntKind.bits] using w4
    have e0' : c0 = .int .u8 a0 := by simpa using e0
    have e1' : c1 = .int .i64 a1 := by simpa using e1
    have e2' : c2 = .int .i64 a2 := by simpa using e2
    have e3' : c3 = .int .i64 a3 := by simpa using e3
    have e4' : c4 = .int .i64 a4 := by simpa using e4
    refine ⟨⟨a0.toNat, a1, a2, a3, a4⟩, ?_, ⟨by show a0.toNat < 256; omega, b1, b2, b3, b4⟩⟩
    have e5 : ((a0.toNat : Nat) : Int) = a0 := by omega
    unfold Cd.OpV.cells
    simp only []
    rw [e0', e1', e2', e3', e4', e5]

theorem trod_ops10 {fuel : Nat} {cs : List Value} {x : DataW H × List MemPlace} (h : DataW.trod enc Tryz.prog w 0 (fun _ => true) true fuel 39 cs = some x) :
    ∃ (l : List Cd.OpV) (A : Option Addr) (c : Nat), cs = [.slice A l.length c] ∧ l.length ≤ maxLen ∧ Lies w w.heap.size A (Cd.ocells l) ∧ ∀ o ∈ l, o.Rng := by
  obtain ⟨l, A, c, hcs, hn, hl⟩ := open_any Tryz.underlying39 h (fun cs' a => cs' = Cd.OpV.cells a ∧ a.Rng) (fun cs' n y hy => trod_op10 hy)
  refine ⟨l, A, c, hcs, hn, fun h0 => ?_, fun a ha => ?_⟩
  · have h0' : 0 < l.length := by rw [Cd.ocells_len] at h0; omega
    obtain ⟨ad, hA, hb, hj⟩ := hl h0' (by rw [op_cells]; decide)
    refine ⟨ad, hA, hb, fun j u hu => ?_⟩
    obtain ⟨hjl, hu2⟩ := Cd.ocells_inv hu
    obtain ⟨cs', ⟨rfl, _⟩, _, hc⟩ := hj (j / 5) hjl
    rw [op_cells] at hc
    have := hc (j % 5) u hu2
    rw [Cd.add_add10, show j / 5 * 5 + j % 5 = j by omega] at this
    exact this
  · obtain ⟨j, hj, rfl⟩ := List.getElem_of_mem ha
    obtain ⟨_, _, _, hjj⟩ := hl (by omega) (by rw [op_cells]; decide)
    obtain ⟨cs', ⟨_, hq⟩, _⟩ := hjj j hj
    exact hq

set_option maxRecDepth 100000 in
theorem trod_fn10 {fuel : Nat} {cs : List Value} {x : DataW H × List MemPlace} (h : DataW.trod enc Tryz.prog w 0 (fun _ => true) true fuel 41 cs = some x) : ∃ m : Cd.Fm, cs = m.cells ∧ m.f.Rng ∧ Lies w w.heap.size m.A (Cd.ocells m.f.ops) := by
  obtain ⟨xs, m, _, _, hlen, hxl, hf⟩ := DataW.trod_struct Tryz.underlying41 h
  rw [fnc_cells] at hlen
  match cs, hlen, xs, hxl with
  | [c0, c1, c2], _, [y0, y1, y2], _ =>
    have f0 : DataW.trod enc Tryz.prog w 0 (fun _ => true) true m 3 (List.take (Tryz.prog.cellsOf 3) [c0, c1, c2]) = some y0 := hf 0 _ rfl
    rw [k10_1] at f0
    have f1 : DataW.trod enc Tryz.prog w 0 (fun _ => true) true m 3 (List.take (Tryz.prog.cellsOf 3) [c1, c2]) = some y1 := hf 1 _ rfl
    rw [k10_1] at f1
    have f2 : DataW.trod enc Tryz.prog w 0 (fun _ => true) true m 39 (List.take (Tryz.prog.cellsOf 39) [c2]) = some y2 := hf 2 _ rfl
    rw [k10_4] at f2
    obtain ⟨a0, e0, _, w0⟩ := DataW.trod_int Tryz.underlying3 f0
    obtain ⟨a1, e1, _, w1⟩ := DataW.trod_int Tryz.underlying3 f1
    obtain ⟨l, A, c, e2, hn, hl, hr⟩ := trod_ops10 f2
    have b0 : -9223372036854775808 ≤ a0 ∧ a0 ≤ 9223372036854775807 := by simpa [Lit.wf, IntKind.min, IntKind.max, IntKind.signed, IntKind.bits] using w0
    have b1 : -9223372036854775808 ≤ a1 ∧ a1 ≤ 9223372036854775807 := by simpa [Lit.wf, IntKind.min, IntKind.max, IntKind.signed, IntKind.bits] using w1
    have e0' : c0 = .int .i64 a0 := by simpa using e0
    have e1' : c1 = .int .i64 a1 := by simpa using e1
    have e2' : c2 = .slice A l.length c := by simpa using e2
    refine ⟨⟨⟨a0, a1, l⟩, A, c⟩, ?_, ⟨b0, b1, hr, hn⟩, hl⟩
    unfold Cd.Fm.cells
    simp only []
    rw [e0', e1', e2']

theorem trod_fns10 {fuel : Nat} {cs : List Value} {x : DataW H × List MemPlace} (h : DataW.trod enc Tryz.prog w 0 (fun _ => true) true fuel 22 cs = some x) :
    ∃ (l : List Cd.Fm) (A : Option Addr) (c : Nat), cs = [.slice A l.length c] ∧ l.length ≤ maxLen ∧ Cd.Prog w w.heap.size A l ∧ ∀ m ∈ l, m.f.Rng := by
  obtain ⟨l, A, c, hcs, hn, hl⟩ := open_any Tryz.underlying22 h (fun cs' (m : Cd.Fm) => cs' = m.cells ∧ m.f.Rng ∧ Lies w w.heap.size m.A (Cd.ocells m.f.ops)) (fun cs' n y hy => trod_fn10 hy)
  have hall : ∀ m ∈ l, m.f.Rng ∧ Lies w w.heap.size m.A (Cd.ocells m.f.ops) := fun m hm => by
    obtain ⟨j, hj, rfl⟩ := List.getElem_of_mem hm
    obtain ⟨_, _, _, hjj⟩ := hl (by omega) (by rw [fnc_cells]; decide)
    obtain ⟨cs', ⟨_, hq⟩, _⟩ := hjj j hj
    exact hq
  refine ⟨l, A, c, hcs, hn, ⟨fun h0 => ?_, fun m hm => (hall m hm).2⟩, fun m hm => (hall m hm).1⟩
  have h0' : 0 < l.length := by rw [Cd.mcells_len] at h0; omega
  obtain ⟨ad, hA, hb, hj⟩ := hl h0' (by rw [fnc_cells]; decide)
  refine ⟨ad, hA, hb, fun j u hu => ?_⟩
  obtain ⟨hjl, hu2⟩ := Cd.mcells_inv hu
  obtain ⟨cs', ⟨rfl, _⟩, _, hc⟩ := hj (j / 3) hjl
  rw [fnc_cells] at hc
  have := hc (j % 3) u hu2
  rw [Cd.add_add10, show j / 3 * 3 + j % 3 = j by omega] at this
  exact this

set_option maxRecDepth 100000 in
theorem trod_prog10 {fuel : Nat} {cs : List Value} {x : DataW H × List MemPlace} (h : DataW.trod enc Tryz.prog w 0 (fun _ => true) true fuel 24 cs = some x) :
    ∃ (l : List Cd.Fm) (A : Option Addr) (c : Nat), cs = [.slice A l.length c] ∧ l.length ≤ maxLen ∧ Cd.Prog w w.heap.size A l ∧ ∀ m ∈ l, m.f.Rng := by
  obtain ⟨xs, m, _, _, hlen, hxl, hf⟩ := DataW.trod_struct Tryz.underlying24 h
  rw [pgm_cells] at hlen
  match cs, hlen, xs, hxl with
  | [c0], _, [y0], _ =>
    have f0 : DataW.trod enc Tryz.prog w 0 (fun _ => true) true m 22 (List.take (Tryz.prog.cellsOf 22) [c0]) = some y0 := hf 0 _ rfl
    rw [k10_5] at f0
    obtain ⟨l, A, c, e0, hn, hP, hR⟩ := trod_fns10 f0
    exact ⟨l, A, c, by simpa using e0, hn, hP, hR⟩

set_option maxRecDepth 100000 in
theorem prog_of10 {base : Nat} {v : Value} {u : Value} (hv : Value.okWide Tryz.prog w .any base 24 v) (h : v.cells.toList = [u]) : v = .agg #[u] := by
  obtain ⟨cs, rfl, _⟩ := okWide_struct Tryz.underlying24 hv
  have : cs = #[u] := by
    apply Array.ext'
    simpa [Value.cells] using h
  rw [this]
end
end Go.Proofs.YtkigoidklonhcaaGreatDoor
end

section
namespace Go.Proofs.YtkigoidklonhcaaGreatDoor
open Go.RowKit

namespace Cd
/-- A program that a law holds, in world V and all later ones. -/
structure HeldP (V : World) (A : Option Addr) (l : List Fm) : Prop where
  p : Prog V V.heap.size A l
  n : l.length ≤ maxLen
  r : ∀ m ∈ l, m.f.Rng
theorem HeldP.later {V U : World} {A : Option Addr} {l : List Fm} (h : HeldP V A l) (hb : Below V.heap.size V U) : HeldP U A l := ⟨(h.p.below hb).mono hb.size, h.n, h.r⟩
def Rd (V : World) (v : Value) (e : Ending) (w' : World) : Prop := e = .returned v ∧ Below V.heap.size V w'
end Cd

theorem heavy_at {V U : World} {A : Option Addr} {l : List Cd.Fm} (h : Cd.HeldP V A l) (c : Nat) (hU : Below V.heap.size V U) :
    Calls Tryz.prog 4 #[.agg #[.slice A l.length c]] U fun e w' => ∃ b : Bool, e = .returned (.bool b) ∧ Hid (b = false → l.length ≤ 60 ∧ ∀ m ∈ l, m.f.ops.length ≤ 200) ∧ Below V.heap.size V w' := by
  have h2 := h.later hU
  refine (heavyp l h2.r h2.n A c U h2.p).mono ?_
  rintro e w' ⟨b, he, hb, hb2⟩
  exact ⟨b, he, hb, hU.trans (hb2.mono hU.size)⟩
theorem encode_at {V U : World} {A : Option Addr} {l : List Cd.Fm} (h : Cd.HeldP V A l) (c : Nat) (hU : Below V.heap.size V U) :
    Calls Tryz.prog 7 #[.agg #[.slice A l.length c]] U fun e w' => e = .returned (.tuple #[.string ⟨(Cd.enc (Cd.fns l)).1.toArray⟩, .int .i64 (Cd.enc (Cd.fns l)).2]) ∧ Below V.heap.size V w' := by
  have h2 := h.later hU
  refine (cEncode l h2.r h2.n A c U h2.p).mono ?_
  rintro e w' ⟨he, hb⟩
  exact ⟨he, hU.trans (hb.mono hU.size)⟩
theorem may_at {V U : World} {A : Option Addr} {l : List Cd.Fm} (h : Cd.HeldP V A l) (c : Nat) (hU : Below V.heap.size V U) :
    Calls Tryz.prog 32 #[.agg #[.slice A l.length c]] U fun e w' => e = .returned (.bool (Cd.pok (Cd.fns l))) ∧ Below V.heap.size V w' := by
  have h2 := h.later hU
  refine (cMay l h2.r h2.n A c U h2.p).mono ?_
  rintro e w' ⟨he, hb⟩
  exact ⟨he, hU.trans (hb.mono hU.size)⟩
theorem decode_at {V U : World} (s : ByteArray) (hs : s.size ≤ maxLen) (hU : Below V.heap.size V U) :
    Calls Tryz.prog 8 #[.string s] U fun e w' => ∃ (ms : List Cd.Fm) (A : Option Addr) (c : Nat), e = .returned (.tuple #[.agg #[.slice A ms.length c], .int .i64 (Cd.dec s).2]) ∧ Hid (Cd.fns ms = (Cd.dec s).1) ∧ Hid (Cd.HeldP w' A ms) ∧ Below V.heap.size V w' := by
  refine (cDecode s hs U).mono ?_
  rintro e w' ⟨ms, A, c, he, hm, hr, hb⟩
  have hrg : ∀ m ∈ ms, m.f.Rng := fun m hh => Cd.dec_rng s _ (by rw [← hm]; exact List.mem_map_of_mem hh)
  have hlen : ms.length ≤ maxLen := by rw [← Cd.fns_len ms, hm]; exact Cd.dec_short s
  exact ⟨ms, A, c, he, hm, ⟨hr.prog, hlen, hrg⟩, hU.trans (hb.mono hU.size)⟩
end Go.Proofs.YtkigoidklonhcaaGreatDoor
end
