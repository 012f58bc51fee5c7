/-
  Numbers written anew in some blocks alone (layer 10).
-/
import Derived.Test.YtndgafjnifkghaaCrJ
namespace Go.Proofs.Ytndgafjnifkghaa
open Go.RowKit

namespace Cd
/-- Numbers were written anew in blocks from lo to hi; else all is as it was. -/
structure Mut (lo hi : Nat) (V w : World) : Prop where
  size : w.heap.size = V.heap.size
  os : w.os = V.os
  tape : w.tape = V.tape
  output : w.output = V.output
  out : ∀ k, ¬ (lo ≤ k ∧ k < hi) → w.heap[k]? = V.heap[k]?
  slc : ∀ p A n c, V.cell? p = some (.slice A n c) → w.cell? p = some (.slice A n c)
  int : ∀ p K x, V.cell? p = some (.int K x) → ∃ y, w.cell? p = some (.int K y)
  frz : ∀ p, w.frozen? p = V.frozen? p
theorem Mut.refl (lo hi : Nat) (V : World) : Mut lo hi V V := ⟨rfl, rfl, rfl, rfl, fun _ _ => rfl, fun _ _ _ _ h => h, fun _ _ x h => ⟨x, h⟩, fun _ => rfl⟩
theorem Mut.set {lo hi : Nat} {V w : World} (h : Mut lo hi V w) (a : Addr) (ha : lo ≤ a.block ∧ a.block < hi) {K : IntKind} {x : Int} (hc : w.cell? a = some (.int K x)) (z : Int) : Mut lo hi V (w.setCell a (.int K z)) := by
  refine ⟨by simpa [World.setCell] using h.size, h.os, h.tape, h.output, fun k hk => ?_, fun p A n c hp => ?_, fun p K2 y hp => ?_, fun p => ?_⟩
  · exact (Below.heap_setCell _ _ _ _ (by intro e; rw [e] at hk; exact hk ha)).trans (h.out k hk)
  · have h1 := h.slc p A n c hp
    by_cases e : a = p
    · subst e; rw [h1] at hc; cases hc
    · rw [World.cell?_setCell_other (h := e)]; exact h1
  · obtain ⟨y2, h1⟩ := h.int p K2 y hp
    by_cases e : a = p
    · subst e
      rw [h1] at hc
      cases hc
      exact ⟨z, World.cell?_setCell_same _ _ _ h1⟩
    · exact ⟨y2, by rw [World.cell?_setCell_other (h := e)]; exact h1⟩
  · rw [World.frozen?_setCell]; exact h.frz p
theorem Mut.below {lo hi : Nat} {V w : World} (h : Mut lo hi V w) {b : Nat} {U : World} (hb : Below b U V) (hl : b ≤ lo) : Below b U w :=
  ⟨h.os.trans hb.os, h.tape.trans hb.tape, h.output.trans hb.output, by rw [h.size]; exact hb.size, fun k hk => (h.out k (by omega)).trans (hb.block k hk)⟩
/-- The op of a row that is the call's own: where it lies. -/
theorem row_op {w : World} {b : Nat} {A : Option Addr} {c : Nat} {l : List OpV} (h : w.ownsRow b 43 5 (.slice A l.length c) l.length (ocells l)) {k : Nat} (hk : k < l.length) :
    ∃ ad : Addr, A = some ad ∧ b ≤ ad.block ∧ ad.block < w.heap.size ∧ w.cell? (ad.add (k * 5)) = some (.int .u8 (l[k].k : Int)) ∧ w.frozen? (ad.add (k * 5)) = false := by
  rcases h.2 with ⟨e, h0⟩ | ⟨g, cap, cur, e1, hg, hh, _⟩
  · omega
  · obtain rfl : A = some ⟨g, 0, none⟩ := by injection e1
    have hl := h.lt g rfl
    have hc := h.cells (g := g) rfl (k * 5 + 0) _ (ocells_at hk (i := 0) rfl)
    refine ⟨_, rfl, hl.1, hl.2, hc, ?_⟩
    unfold World.frozen?
    have e : ((⟨g, 0, none⟩ : Addr).add (k * 5)).block = g := Lies.add_block _ _
    rw [e, hh]
    simp
theorem row_fn {w : World} {b : Nat} {A : Option Addr} {c : Nat} {l : List Fm} (h : w.ownsRow b 41 3 (.slice A l.length c) l.length (mcells l)) {k : Nat} (hk : k < l.length) :
    ∃ ad : Addr, A = some ad ∧ b ≤ ad.block ∧ ad.block < w.heap.size ∧ w.cell? (ad.add (k * 3)) = some (.int .i64 l[k].f.args) ∧ w.frozen? (ad.add (k * 3)) = false ∧ w.cell? ⟨(ad.add (k * 3)).block, (ad.add (k * 3)).off + 2, none⟩ = some (.slice l[k].A l[k].f.ops.length l[k].c) := by
  rcases h.2 with ⟨e, h0⟩ | ⟨g, cap, cur, e1, hg, hh, _⟩
  · omega
  · obtain rfl : A = some ⟨g, 0, none⟩ := by injection e1
    have hl := h.lt g rfl
    have hc := h.cells (g := g) rfl (k * 3 + 0) _ (mcells_at hk (i := 0) rfl)
    obtain ⟨ad, e2, _, _, _, c2⟩ := fn_at (rowLies h) hk
    cases e2
    refine ⟨_, rfl, hl.1, hl.2, hc, ?_, c2⟩
    unfold World.frozen?
    have e : ((⟨g, 0, none⟩ : Addr).add (k * 3)).block = g := Lies.add_block _ _
    rw [e, hh]
    simp
end Cd
end Go.Proofs.Ytndgafjnifkghaa
