/-
  The program's timers in memory; New, is, Now, Set, told, Next.
-/
import Derived.Test.YtnojjfpccnmbeaaTpJ
import Derived.Deep.RegionHeld3
namespace Go.Proofs.Ytnojjfpccnmbeaa
open Go.RowKit

namespace Tk
/-- The program's timers at T: the clock c, the timers l in the order of a heap. -/
structure PTm (T Q B : Nat) (v : Value) (c : Int) (l : List Tm) (w : World) : Prop where
  obj : w.heap[T]? = some (.cells #[.int .i64 c, .pointer (some ⟨Q, 0, none⟩)] 62 (0, 0))
  q : QTm Q B v l w
  hp : Heap.Heap lt l l.length
  nT : QOff Q B v T
def POff (T Q B : Nat) (v : Value) (i : Nat) : Prop := i ≠ T ∧ QOff Q B v i
section
variable {T Q B : Nat} {v v' : Value} {c : Int} {l l' : List Tm} {w w' : World}
theorem PTm.c0 (h : PTm T Q B v c l w) : w.cell? ⟨T, 0, none⟩ = some (.int .i64 c) := cell_of_row _ _ 0 _ _ _ h.obj
theorem PTm.c1 (h : PTm T Q B v c l w) : w.cell? ⟨T, 1, none⟩ = some (.pointer (some ⟨Q, 0, none⟩)) := cell_of_row _ _ 1 _ _ _ h.obj
theorem PTm.below (h : PTm T Q B v c l w) (hb : Below w.heap.size w w') : PTm T Q B v c l w' := ⟨(hb.block _ (ltHeap h.obj)).trans h.obj, h.q.below hb, h.hp, h.nT⟩
theorem PTm.fresh (h : PTm T Q B v c l w) {i : Nat} (hi : w.heap.size ≤ i) : POff T Q B v i := ⟨fun e => by have := ltHeap h.obj; omega, h.q.fresh hi⟩
theorem Mvt.mono {off off' : Nat → Prop} {P : Nat → Prop} (h : Mvt off off' w w') : Mvt (fun i => P i ∧ off i) (fun i => P i ∧ off' i) w w' :=
  ⟨h.os, h.tape, h.output, h.size, fun i hi ho => h.block i hi ho.2, fun i hi ho => ⟨ho.1, h.keep i hi ho.2⟩⟩
theorem PTm.moved (h : PTm T Q B v c l w) (hq : QTm Q B v' l' w') (hh : Heap.Heap lt l' l'.length) (hm : Mvt (QOff Q B v) (QOff Q B v') w w') : PTm T Q B v' c l' w' ∧ Mvt (POff T Q B v) (POff T Q B v') w w' :=
  ⟨⟨(hm.block _ (ltHeap h.obj) h.nT).trans h.obj, hq, hh, hm.keep _ (ltHeap h.obj) h.nT⟩, hm.mono⟩
theorem PTm.keys (h : PTm T Q B v c l w) : ∀ x ∈ l, x.1.size ≤ 64 := h.q.keys
theorem PTm.dist (h : PTm T Q B v c l w) : Dist l := h.q.dist
end
end Tk

theorem tkis {T Q B : Nat} {v : Value} {c : Int} {l : List Tk.Tm} {w : World} (h : Tk.PTm T Q B v c l w) :
    Calls Try.prog 24 #[.pointer (some ⟨T, 0, none⟩)] w fun e w' => e = .returned (.bool true) ∧ w = w' := by
  have c1 := h.c1
  clear h
  go_enter Try.func24, Try.ntmps24
  go_wp2_with fail
  go_ret
  exact ⟨rfl, rfl⟩

theorem tknow {T Q B : Nat} {v : Value} {c : Int} {l : List Tk.Tm} {w : World} (h : Tk.PTm T Q B v c l w) :
    Calls Try.prog 21 #[.pointer (some ⟨T, 0, none⟩)] w fun e w' => e = .returned (.int .i64 c) ∧ w = w' := by
  have HIS := Lib.hid (tkis h)
  have c0 := h.c0
  clear h
  go_enter Try.func21, Try.ntmps21
  go_wp2_with (go_at_call 24; refine HIS.out.mono ?_; rintro e w2 ⟨rfl, rfl⟩)
  go_ret
  exact ⟨rfl, rfl⟩

set_option maxRecDepth 20000 in
set_option maxHeartbeats 1000000 in
theorem tknew (w : World) :
    Calls Try.prog 10 #[] w fun e w' => ∃ T Q B : Nat, e = .returned (.pointer (some ⟨T, 0, none⟩)) ∧ Tk.PTm T Q B (.slice none 0 0) 0 [] w' ∧ Below w.heap.size w w' ∧ w.heap.size ≤ T ∧ w.heap.size ≤ Q ∧ w.heap.size ≤ B := by
  have hmm := @run_makeMap Try.prog
  obtain ⟨W, hW⟩ : ∃ W, W = ((w.alloc (.map #[] 0)).alloc (.cells #[.slice none 0 0, .map (some w.heap.size)] 60)).alloc (.cells #[.int .i64 0, .pointer (some ⟨w.heap.size + 1, 0, none⟩)] 62) := ⟨_, rfl⟩
  have HE : Hid (Tk.PTm (w.heap.size + 2) (w.heap.size + 1) w.heap.size (.slice none 0 0) 0 [] W ∧ Below w.heap.size w W) := by
    have s1 : (w.alloc (.map #[] 0)).heap.size = w.heap.size + 1 := by simp
    have s2 : ((w.alloc (.map #[] 0)).alloc (.cells #[.slice none 0 0, .map (some w.heap.size)] 60)).heap.size = w.heap.size + 2 := by simp
    have hbb : Below w.heap.size w W := by rw [hW]; exact (((Below.refl _ _).alloc (Nat.le_refl _) _).alloc (by simp) _).alloc (by simp; omega) _
    have e2 : W.heap[w.heap.size + 2]? = some (.cells #[.int .i64 0, .pointer (some ⟨w.heap.size + 1, 0, none⟩)] 62 (0, 0)) := by rw [hW, ← s2]; exact heap_alloc_new _ _
    have e1 : W.heap[w.heap.size + 1]? = some (.cells #[.slice none 0 0, .map (some w.heap.size)] 60 (0, 0)) := by
      rw [hW, Below.heap_alloc _ _ _ (by rw [s2]; omega), ← s1]
      exact heap_alloc_new _ _
    have em : Tk.MapIs 3 W w.heap.size (fun _ => none) 0 := by
      refine (Tk.MapIs.made w 3).of_block ?_
      rw [hW, Below.heap_alloc _ _ _ (by rw [s2]; omega), Below.heap_alloc _ _ _ (by rw [s1]; omega)]
    refine ⟨⟨e2, ⟨⟨fun _ => none, ⟨e1, World.ownsRow_nil _ _ _ _, em, by simp [Value.ownBlock], by simp [Value.ownBlock], by omega⟩, fun k => ⟨fun i x hx => by simp at hx, fun _ => rfl⟩⟩, List.Pairwise.nil, fun x hx => by simp at hx⟩, fun k h0 hk => by simp at hk, by omega, by omega, by simp [Value.ownBlock]⟩, hbb⟩
  go_enter Try.func10, Try.ntmps10
  go_wp2_with fail
  rw [← hW]
  go_ret
  exact ⟨_, _, _, rfl, HE.out.1, HE.out.2, by omega, by omega, by omega⟩
end Go.Proofs.Ytnojjfpccnmbeaa
