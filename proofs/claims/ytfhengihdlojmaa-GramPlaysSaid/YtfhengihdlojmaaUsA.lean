/-
  A row of numbers that is being sorted; cmp.Less; insertion sort.
-/
import Derived.Test.YtfhengihdlojmaaGmA
import Derived.Sort.AssemblyPlain
import Derived.Sort.WalkA
import Derived.Deep.MidRow
import Derived.Sort.Row
import Derived.BigRegion
import Derived.Laws.Cover1
namespace Go.Proofs.Ytfhengihdlojmaa
open Go.RowKit

namespace Us
open Go.Sort
/-- The row in block B holds d, then rest; all else is as it was in w0. -/
structure Row (w0 : World) (B : Nat) (rest : List Value) (d : Array Int) (W : World) : Prop where
  row : W.heap[B]? = some (.cells ((d.toList.map (Value.int .u64)) ++ rest).toArray 28 (0, 0))
  mv : Gm.Mvg (fun i => i ≠ B) (fun i => i ≠ B) w0 W
section
variable {w0 W W' : World} {B : Nat} {rest : List Value} {d : Array Int}
theorem Row.below (h : Row w0 B rest d W) (hb : Below W.heap.size W W') : Row w0 B rest d W' :=
  ⟨(hb.block _ (Gm.ltHeap h.row)).trans h.row, h.mv.trans (.of_below hb)⟩
theorem Row.drewN (h : Row w0 B rest d W) (n : Nat) : Row w0 B rest d (W.drewN n) := h.below (below_drewN (Below.refl _ _) n)
theorem Row.drew (h : Row w0 B rest d W) : Row w0 B rest d W.drew := h.below (below_drewN (Below.refl _ _) 1)
theorem addB (B t : Nat) : (⟨B, 0, none⟩ : Addr).add t = ⟨B, t, none⟩ := by rw [Addr.add_mid, Nat.zero_add]
theorem get_ (d : Array Int) (t : Nat) (h : t < d.size) : (((d.toList.map (Value.int .u64)) ++ rest).toArray)[t]? = some (.int .u64 d[t]!) := by
  rw [List.getElem?_toArray, List.getElem?_append_left (by simpa using h), List.getElem?_map]
  simp [h]
theorem Row.cell (h : Row w0 B rest d W) {p : Addr} (hp : p = ⟨B, 0, none⟩) {t : Nat} (ht : t < d.size) : W.cell? (p.add t) = some (.int .u64 d[t]!) := by
  rw [hp, addB]
  exact (cell_of_row _ _ t _ _ _ h.row).trans (get_ d t ht)
theorem Row.frz (h : Row w0 B rest d W) {p : Addr} (hp : p = ⟨B, 0, none⟩) (t : Nat) : W.frozen? (p.add t) = false := by
  rw [hp, addB]
  exact frozen_of_row _ _ t _ _ h.row
theorem set_toList (d : Array Int) (i : Nat) (x : Int) (rest : List Value) (h : i < d.size) :
    (((d.toList.map (Value.int .u64)) ++ rest).toArray).setIfInBounds i (.int .u64 x) = (((d.setIfInBounds i x).toList.map (Value.int .u64)) ++ rest).toArray := by
  apply Array.ext'
  simp only [Array.toList_setIfInBounds, List.map_set]
  rw [List.set_append_left _ _ (by simpa using h)]
theorem Row.set (h : Row w0 B rest d W) {p : Addr} (hp : p = ⟨B, 0, none⟩) {i : Nat} (hi : i < d.size) (x : Int) : Row w0 B rest (d.setIfInBounds i x) (W.setCell (p.add i) (.int .u64 x)) := by
  subst hp
  rw [addB]
  refine ⟨?_, h.mv.trans ⟨rfl, rfl, rfl, by simp [World.setCell], fun j _ hj => Below.heap_setCell _ _ _ _ hj, fun _ _ h => h⟩⟩
  rw [heap_setCell_same _ _ _ _ _ _ h.row, set_toList d i x rest hi]
theorem Row.swap (h : Row w0 B rest d W) {p : Addr} (hp : p = ⟨B, 0, none⟩) {i j : Nat} (hi : i < d.size) (hj : j < d.size) :
    Row w0 B rest (swp d i j) ((W.setCell (p.add i) (.int .u64 d[j]!)).setCell (p.add j) (.int .u64 d[i]!)) :=
  (h.set hp hi _).set hp (by simpa using hj) _
theorem Row.c2 (h : Row w0 B rest d W) {p : Addr} (hp : p = ⟨B, 0, none⟩) {i j : Nat} (hi : i < d.size) (hj : j < d.size) (x : Int) :
    ∃ u, (W.setCell (p.add i) (.int .u64 x)).cell? (p.add j) = some u := ⟨_, (h.set hp hi x).cell hp (by simpa using hj)⟩
theorem Row.lt (h : Row w0 B rest d W) : B < W.heap.size := Gm.ltHeap h.row
/-- A callee's row over ours. -/
theorem Row.trans {w1 : World} {d' : Array Int} (h : Row w0 B rest d w1) (k : Row w1 B rest d' W) : Row w0 B rest d' W := ⟨k.row, h.mv.trans k.mv⟩
theorem Row.start (h : W.heap[B]? = some (.cells ((d.toList.map (Value.int .u64)) ++ rest).toArray 28 (0, 0))) : Row W B rest d W := ⟨h, .refl _ _⟩
theorem Row.start' (h : Row w0 B rest d W) : Row W B rest d W := ⟨h.row, .refl _ _⟩
end
end Us

theorem uisnan (a : Int) (w : World) : Calls Try.prog 63 #[.int .u64 a] w fun e w' => e = .returned (.bool false) ∧ w = w' := by
  have h : ((a != a) : Bool) = false := by simp
  go_enter Try.func63, Try.ntmps63
  go_wp2_with fail
  go_ret
  exact ⟨rfl, rfl⟩
theorem uless (a b : Int) (w : World) : Calls Try.prog 53 #[.int .u64 a, .int .u64 b] w fun e w' => e = .returned (.bool (Sort.ltInt a b)) ∧ w = w' := by
  have HN : Hid (∀ w, Calls Try.prog 63 #[.int .u64 a] w fun e w' => e = .returned (.bool false) ∧ w = w') := fun w => uisnan a w
  unfold Sort.ltInt
  cases h : decide (a < b) with
  | false =>
    go_enter Try.func53, Try.ntmps53
    go_wp2_with (go_at_call 63; refine (HN.out _).mono ?_; rintro e w' ⟨rfl, rfl⟩)
    go_ret
    exact ⟨rfl, rfl⟩
  | true =>
    go_enter Try.func53, Try.ntmps53
    go_wp2_with (go_at_call 63; refine (HN.out _).mono ?_; rintro e w' ⟨rfl, rfl⟩)
    go_ret
    exact ⟨rfl, rfl⟩
end Go.Proofs.Ytfhengihdlojmaa
