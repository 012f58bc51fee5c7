/-
  What a disk is in memory, and the contracts of sector's small calls.
-/
import Derived.Test.YtmoifihgomjbcaaChecked
import Derived.Test.YtmoifihgomjbcaaSecM
import Derived.ProofKit
import Derived.BigQuiet
import Derived.Deep.QuietTactic
import Derived.Deep.MidRow
import Derived.Deep.RegionHeld3
import Derived.Deep.RegionHeldLaw
import Derived.Deep.AppendLies
import Derived.Deep.DrawnRows
import Derived.Shelf.Spec.SlicesInsert
import Derived.Great.BuildSlice
namespace Go.Proofs.Ytmoifihgomjbcaa
open Go.RowKit

namespace Sec
/-- Where a disk lies: its own block, the two rows of sectors, the slice of what is loose; lo: none of it lies below. -/
structure Bl where
  lo : Nat
  b : Nat
  s : Nat
  m : Nat
  v : Value
def Bl.ptr (D : Bl) : Value := .pointer (some ⟨D.b, 0, none⟩)
/-- The disk's own cells. -/
def own (D : Bl) (s : St) : Array Value := #[.slice (some ⟨D.s, 0, none⟩) s.n s.n, .slice (some ⟨D.m, 0, none⟩) s.n s.n, D.v, .bool s.lit, .int .i64 (s.left : Int)]
structure At (D : Bl) (s : St) (w : World) : Prop where
  ob : w.heap[D.b]? = some (.cells (own D s) 53 (0, 0))
  good : w.heap[D.s]? = some (.cells (cel s.good).toArray 57 (0, 0))
  now : w.heap[D.m]? = some (.cells (cel s.now).toArray 57 (0, 0))
  row : w.ownsRow D.lo 65 129 D.v s.loose.length (wcels s.loose)
  lo1 : D.lo ≤ D.b
  lo2 : D.lo ≤ D.s
  lo3 : D.lo ≤ D.m
  ne1 : D.b ≠ D.s
  ne2 : D.b ≠ D.m
  ne3 : D.s ≠ D.m
  ne4 : D.v.ownBlock ≠ some D.b
  ne5 : D.v.ownBlock ≠ some D.s
  ne6 : D.v.ownBlock ≠ some D.m
/-- None of a disk's blocks. -/
def Bl.off (D : Bl) (i : Nat) : Prop := i ≠ D.b ∧ i ≠ D.s ∧ i ≠ D.m ∧ some i ≠ D.v.ownBlock
/-- A call that works on the disk at D, which is at D' behind it: nothing else of what was there turns. -/
structure Moves (D D' : Bl) (w w' : World) : Prop where
  os : w'.os = w.os
  tape : w'.tape = w.tape
  output : w'.output = w.output
  size : w.heap.size ≤ w'.heap.size
  block : ∀ i, i < w.heap.size → D.off i → w'.heap[i]? = w.heap[i]?
  lo : D'.lo = D.lo
  b : D'.b = D.b
  s : D'.s = D.s
  m : D'.m = D.m
  v : ∀ i, i < w.heap.size → some i ≠ D.v.ownBlock → some i ≠ D'.v.ownBlock
theorem Moves.refl (D : Bl) (w : World) : Moves D D w w := ⟨rfl, rfl, rfl, Nat.le_refl _, fun _ _ _ => rfl, rfl, rfl, rfl, rfl, fun _ _ h => h⟩
theorem Moves.trans {D D' D'' : Bl} {w w' w'' : World} (h : Moves D D' w w') (k : Moves D' D'' w' w'') : Moves D D'' w w'' :=
  ⟨k.os.trans h.os, k.tape.trans h.tape, k.output.trans h.output, Nat.le_trans h.size k.size,
    fun i hi ho => (k.block i (Nat.lt_of_lt_of_le hi h.size) ⟨by rw [h.b]; exact ho.1, by rw [h.s]; exact ho.2.1, by rw [h.m]; exact ho.2.2.1, h.v i hi ho.2.2.2⟩).trans (h.block i hi ho),
    k.lo.trans h.lo, k.b.trans h.b, k.s.trans h.s, k.m.trans h.m, fun i hi ho => k.v i (Nat.lt_of_lt_of_le hi h.size) (h.v i hi ho)⟩
theorem lt_of_heap {w : World} {b : Nat} {o : Obj} (h : w.heap[b]? = some o) : b < w.heap.size := by
  rcases Nat.lt_or_ge b w.heap.size with hlt | hge
  · exact hlt
  · rw [Array.getElem?_eq_none hge] at h; cases h
section
variable {D D' : Bl} {s s' : St} {w w' : World}
theorem At.ltb (h : At D s w) : D.b < w.heap.size := lt_of_heap h.ob
theorem At.lts (h : At D s w) : D.s < w.heap.size := lt_of_heap h.good
theorem At.ltm (h : At D s w) : D.m < w.heap.size := lt_of_heap h.now
theorem At.low (h : At D s w) {i : Nat} (hi : i < D.lo) : D.off i := by
  refine ⟨by have := h.lo1; omega, by have := h.lo2; omega, by have := h.lo3; omega, fun e => ?_⟩
  have := (h.row.lt i e.symm).1
  omega
theorem Moves.below (h : Moves D D' w w') (ha : At D s w) : Below D.lo w w' :=
  ⟨h.os, h.tape, h.output, h.size, fun i hi => h.block i (by have := ha.ltb; have := ha.lo1; omega) (ha.low hi)⟩
theorem grown_of_below (hb : Below w.heap.size w w') (row : Option Nat) : w.grownBy w' row := ⟨hb.os, hb.tape, hb.output, hb.size, fun k hk _ => hb.block k hk⟩
theorem At.below (h : At D s w) (hb : Below w.heap.size w w') : At D s w' :=
  ⟨(hb.block _ h.ltb).trans h.ob, (hb.block _ h.lts).trans h.good, (hb.block _ h.ltm).trans h.now, h.row.kept (grown_of_below hb none) (by cases D.v.ownBlock <;> simp), h.lo1, h.lo2, h.lo3, h.ne1, h.ne2, h.ne3, h.ne4, h.ne5, h.ne6⟩
theorem Moves.of_below (hb : Below w.heap.size w w') : Moves D D w w' := ⟨hb.os, hb.tape, hb.output, hb.size, fun i hi _ => hb.block i hi, rfl, rfl, rfl, rfl, fun _ _ h => h⟩
theorem At.drew (h : At D s w) : At D s w.drew := h.below (Below.refl _ _).drew
theorem At.cell (h : At D s w) (j : Nat) : w.cell? ⟨D.b, j, none⟩ = (own D s)[j]? := cell_of_row w D.b j _ _ _ h.ob
theorem At.fro (h : At D s w) (j : Nat) : w.frozen? ⟨D.b, j, none⟩ = false := frozen_of_row w D.b j _ _ h.ob
theorem At.c0 (h : At D s w) : w.cell? ⟨D.b, 0, none⟩ = some (.slice (some ⟨D.s, 0, none⟩) s.n s.n) := h.cell 0
theorem At.c1 (h : At D s w) : w.cell? ⟨D.b, 1, none⟩ = some (.slice (some ⟨D.m, 0, none⟩) s.n s.n) := h.cell 1
theorem At.c2 (h : At D s w) : w.cell? ⟨D.b, 2, none⟩ = some D.v := h.cell 2
theorem At.c3 (h : At D s w) : w.cell? ⟨D.b, 3, none⟩ = some (.bool s.lit) := h.cell 3
theorem At.c4 (h : At D s w) : w.cell? ⟨D.b, 4, none⟩ = some (.int .i64 (s.left : Int)) := h.cell 4
/-- The loose slice's value, opened: its length. -/
theorem At.v_eq (h : At D s w) : ∃ A c, D.v = .slice A s.loose.length c := by
  rcases h.row.2 with ⟨e, h0⟩ | ⟨g, cap, _, e, _⟩
  · exact ⟨none, 0, by rw [e, h0]⟩
  · exact ⟨_, cap, e⟩
/-- The fuse's cells turn. -/
theorem At.fuse (h : At D s w) (lit : Bool) (left : Nat) (w' : World) (hw : w'.heap[D.b]? = some (.cells (own D { s with lit := lit, left := left }) 53 (0, 0)))
    (hg : w.grownBy w' (some D.b)) : At D { s with lit := lit, left := left } w' ∧ Moves D D w w' :=
  ⟨⟨hw, (hg.block _ h.lts (by simpa using h.ne1.symm)).trans h.good, (hg.block _ h.ltm (by simpa using h.ne2.symm)).trans h.now, h.row.kept hg (.inr h.ne4), h.lo1, h.lo2, h.lo3, h.ne1, h.ne2, h.ne3, h.ne4, h.ne5, h.ne6⟩,
   ⟨hg.os, hg.tape, hg.output, hg.size, fun i hi ho => hg.block i hi (by simpa using ho.1), rfl, rfl, rfl, rfl, fun _ _ h => h⟩⟩
end
/-- Behind a call that works on a disk. -/
def Behind (D : Bl) (s : St) (w w' : World) : Prop := ∃ D', At D' s w' ∧ Moves D D' w w'
/-- Where a disk is. -/
theorem grown_set (w : World) (B i : Nat) (u : Value) : w.grownBy (w.setCell ⟨B, i, none⟩ u) (some B) :=
  ⟨rfl, rfl, rfl, by simp [World.setCell], fun k _ hne => Below.heap_setCell _ _ _ _ (by intro h; exact hne (by rw [h]))⟩
theorem grown_trans {a b c : World} {row : Option Nat} (h : a.grownBy b row) (k : b.grownBy c row) : a.grownBy c row :=
  ⟨k.os.trans h.os, k.tape.trans h.tape, k.output.trans h.output, Nat.le_trans h.size k.size, fun i hi hne => (k.block i (by have := h.size; omega) hne).trans (h.block i hi hne)⟩
end Sec

set_option maxHeartbeats 400000 in
theorem sec_has_yes (D : Sec.Bl) (s : Sec.St) (w : World) (h : Sec.At D s w) (k : Nat) (hk : k < s.n) :
    Calls Try.prog 20 #[D.ptr, .int .i64 (k : Int)] w fun e w' => e = .returned (.bool true) ∧ w = w' := by
  have c0 := h.c0
  have h1 : decide ((0 : Int) ≤ (k : Int)) = true := by simp
  have h2 : decide (k < s.n) = true := by simpa using hk
  have hk' : (k : Int) < (s.n : Int) := by omega
  clear h
  unfold Sec.Bl.ptr
  go_enter Try.func20, Try.ntmps20
  go_wp2
  go_ret
  exact ⟨rfl, rfl⟩

set_option maxHeartbeats 400000 in
theorem sec_has_no (D : Sec.Bl) (s : Sec.St) (w : World) (h : Sec.At D s w) (k : Int) (hk : k < 0 ∨ (s.n : Int) ≤ k) :
    Calls Try.prog 20 #[D.ptr, .int .i64 k] w fun e w' => e = .returned (.bool false) ∧ w = w' := by
  have c0 := h.c0
  clear h
  unfold Sec.Bl.ptr
  by_cases h0 : k < 0
  · have h1 : decide ((0 : Int) ≤ k) = false := by simpa using h0
    clear hk
    go_enter Try.func20, Try.ntmps20
    go_wp2
    go_ret
    exact ⟨rfl, rfl⟩
  · have h1 : decide ((0 : Int) ≤ k) = true := by simpa using Int.not_lt.1 h0
    have h2 : decide (k < (s.n : Int)) = false := by simp; omega
    clear hk
    go_enter Try.func20, Try.ntmps20
    go_wp2
    go_ret
    exact ⟨rfl, rfl⟩

set_option maxHeartbeats 400000 in
theorem sec_is (D : Sec.Bl) (s : Sec.St) (w : World) (h : Sec.At D s w) (hs : s.Ok) :
    Calls Try.prog 19 #[D.ptr] w fun e w' => e = .returned (.bool true) ∧ w = w' := by
  have H := Lib.hid h
  have HS := Lib.hid hs
  clear h hs
  have e : D.ptr = .pointer (some ⟨D.b, 0, none⟩) := rfl
  rw [e]
  clear e
  go_enter Try.func19, Try.ntmps19
  go_wp2_with fail
  refine (sec_has_yes D s _ H.out 0 (by have := HS.out.n1; omega)).mono ?_
  rintro e w' ⟨rfl, rfl⟩
  go_wp2_with fail
  go_ret
  exact ⟨rfl, rfl⟩

set_option maxHeartbeats 400000 in
theorem sec_is_nil (w : World) :
    Calls Try.prog 19 #[.pointer none] w fun e w' => e = .returned (.bool false) ∧ w = w' := by
  go_enter Try.func19, Try.ntmps19
  go_wp2
  go_ret
  exact ⟨rfl, rfl⟩

set_option maxHeartbeats 400000 in
theorem sec_still (D : Sec.Bl) (s : Sec.St) (w : World) (h : Sec.At D s w) (b : Bool) (hb : s.still = b) :
    Calls Try.prog 21 #[.pointer (some ⟨D.b, 3, none⟩)] w fun e w' => e = .returned (.bool b) ∧ w = w' := by
  have c3 := h.c3
  have c4 := h.c4
  clear h
  unfold Sec.St.still at hb
  cases hl : s.lit with
  | false =>
    rw [hl] at hb c3
    obtain rfl : b = false := by simpa using hb.symm
    clear hb
    go_enter Try.func21, Try.ntmps21
    go_wp2
    go_ret
    exact ⟨rfl, rfl⟩
  | true =>
    rw [hl] at hb c3
    have hq : ((s.left : Int) == 0) = b := by
      rw [← hb]
      simp only [Bool.true_and]
      rw [Bool.eq_iff_iff]
      simp
    clear hb hl
    generalize s.left = n at c4 hq
    go_enter Try.func21, Try.ntmps21
    cases b
    · go_wp2
      go_ret
      exact ⟨rfl, rfl⟩
    · go_wp2
      go_ret
      exact ⟨rfl, rfl⟩

set_option maxHeartbeats 400000 in
theorem sec_burn (D : Sec.Bl) (s : Sec.St) (w : World) (h : Sec.At D s w) (hs : s.Ok) (hb : s.still = false) :
    Calls Try.prog 22 #[.pointer (some ⟨D.b, 3, none⟩)] w fun e w' => e = .returned (.tuple #[]) ∧ Sec.At D s.burn w' ∧ Sec.Moves D D w w' := by
  have c3 := h.c3
  have c4 := h.c4
  have f4 := h.fro 4
  have hlim := hs.left
  have H := Lib.hid h
  clear h hs
  cases hl : s.lit with
  | false =>
    rw [hl] at c3
    have e : s.burn = s := by cases s; simp only at hl; subst hl; rfl
    rw [e]
    clear e hl hb
    go_enter Try.func22, Try.ntmps22
    go_wp2
    go_end0
    exact ⟨rfl, H.out, Sec.Moves.refl _ _⟩
  | true =>
    rw [hl] at c3
    have hn : 1 ≤ s.left := by
      unfold Sec.St.still at hb
      rw [hl] at hb
      simp at hb
      omega
    have e : s.burn = { s with lit := s.lit, left := s.left - 1 } := by unfold Sec.St.burn; rw [hl]; rfl
    have E := Lib.hid e
    have HL := Lib.hid hl
    have hc : ((s.left : Int) - 1) = ((s.left - 1 : Nat) : Int) := by omega
    have HC := Lib.hid hc
    clear e hl hb hc
    go_enter Try.func22, Try.ntmps22
    go_wp2
    go_end0
    rw [HC.out, E.out]
    refine ⟨rfl, H.out.fuse _ _ _ ?_ (Sec.grown_set _ _ _ _)⟩
    rw [heap_setCell_same _ _ _ _ _ _ H.out.ob]
    rfl
end Go.Proofs.Ytmoifihgomjbcaa
