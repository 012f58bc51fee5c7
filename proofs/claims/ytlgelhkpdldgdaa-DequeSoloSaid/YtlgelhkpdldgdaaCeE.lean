/-
  Layer 15: cells among blocks that must stay; the program's and the document's side by side.
-/
import Derived.Test.YtlgelhkpdldgdaaCeD
namespace Go.Proofs.Ytlgelhkpdldgdaa
open Go.RowKit

namespace Ce
/-- Blocks stay. -/
structure Kept (K : Nat → Prop) (w w' : World) : Prop where
  os : w'.os = w.os
  tape : w'.tape = w.tape
  output : w'.output = w.output
  size : w.heap.size ≤ w'.heap.size
  block : ∀ i, i < w.heap.size → K i → w'.heap[i]? = w.heap[i]?
theorem Kept.below {K : Nat → Prop} {w w' a : World} {lo : Nat} (h : Kept K w w') (hb : Below lo a w) (hl : lo ≤ w.heap.size) (hK : ∀ i, i < lo → K i) : Below lo a w' :=
  ⟨h.os.trans hb.os, h.tape.trans hb.tape, h.output.trans hb.output, Nat.le_trans hb.size h.size, fun i hi => (h.block i (by omega) (hK i hi)).trans (hb.block i hi)⟩
theorem Kept.of_below {K : Nat → Prop} {w w' : World} (h : Below w.heap.size w w') : Kept K w w' := ⟨h.os, h.tape, h.output, h.size, fun i hi _ => h.block i hi⟩
theorem Kept.row {K : Nat → Prop} {w w' : World} {i : Nat} {o : Obj} (h : Kept K w w') (hr : w.heap[i]? = some o) (hK : K i) : w'.heap[i]? = some o := (h.block i (Gm.ltHeap hr) hK).trans hr
/-- The program's, among blocks that must stay. -/
structure Pm (K : Nat → Prop) (B M : Nat) (xs : List Int) (n : Nat) (w : World) : Prop where
  ex : ∃ v, PM B M v xs n w ∧ ∀ i, K i → POff B M v i
  lt : ∀ i, K i → i < w.heap.size
section
variable {K : Nat → Prop} {B M R : Nat} {xs xs' : List Int} {n n' : Nat} {v v' : Value} {w w' : World}
theorem Pm.mono {K' : Nat → Prop} (h : Pm K B M xs n w) (hK : ∀ i, K' i → K i) : Pm K' B M xs n w := by
  obtain ⟨v, h1, h2⟩ := h.ex
  exact ⟨⟨v, h1, fun i hi => h2 i (hK i hi)⟩, fun i hi => h.lt i (hK i hi)⟩
theorem Pm.below (h : Pm K B M xs n w) (hb : Below w.heap.size w w') : Pm K B M xs n w' := by
  obtain ⟨v, h1, h2⟩ := h.ex
  exact ⟨⟨v, h1.below hb, h2⟩, fun i hi => Nat.lt_of_lt_of_le (h.lt i hi) hb.size⟩
/-- A block more must stay. -/
theorem Pm.push (h : Pm K B M xs n w) (hb : Below w.heap.size w w') : Pm (fun i => K i ∨ (w.heap.size ≤ i ∧ i < w'.heap.size)) B M xs n w' := by
  obtain ⟨v, h1, h2⟩ := h.ex
  refine ⟨⟨v, h1.below hb, fun i hi => ?_⟩, fun i hi => ?_⟩
  · rcases hi with hi | hi
    · exact h2 i hi
    · exact h1.fresh hi.1
  · rcases hi with hi | hi
    · exact Nat.lt_of_lt_of_le (h.lt i hi) hb.size
    · exact hi.2
theorem Pm.step (hK : ∀ i, K i → POff B M v i) (hl : ∀ i, K i → i < w.heap.size) (h' : PM B M v' xs' n' w') (hm : Gm.Mvg (POff B M v) (POff B M v') w w') : Pm K B M xs' n' w' ∧ Kept K w w' :=
  ⟨⟨⟨v', h', fun i hi => hm.keep i (hl i hi) (hK i hi)⟩, fun i hi => Nat.lt_of_lt_of_le (hl i hi) hm.size⟩, ⟨hm.os, hm.tape, hm.output, hm.size, fun i hi h => hm.block i hi (hK i h)⟩⟩
end
theorem moX_len {xs ys : List Int} (h : xs.length ≤ 65536) : (moX xs ys).length ≤ 65536 := by
  unfold moX
  split
  · rename_i h1
    have := of_decide_eq_true h1
    rw [List.length_append]
    omega
  · exact h
theorem stX_len (xs : List Int) (a x : Int) : (stX xs a x).length = xs.length := by unfold stX; split <;> simp
theorem swX_len (xs : List Int) (a o x : Int) : (swX xs a o x).length = xs.length := by unfold swX; split <;> simp
theorem cnt_le (xs : List Int) (a : Int) (n : Nat) : cnt xs a n ≤ n + 1 := by unfold cnt; split <;> omega
end Ce

section
variable {K : Nat → Prop} {B M : Nat} {xs : List Int} {n : Nat} {w : World}
theorem pm_more (h : Ce.Pm K B M xs n w) (A : Option Addr) (ys : List Int) (c : Nat) (hl : Lies w w.heap.size A (icells ys)) (hy : ys.length ≤ maxLen) (hx : xs.length ≤ 65536) :
    Calls Try.prog 24 #[.pointer (some ⟨B, 0, none⟩), .slice A ys.length c] w fun e w' =>
    e = .returned (.tuple #[.int .i64 (Ce.moA xs ys), .int .i64 (Ce.moE xs ys)]) ∧ Ce.Pm K B M (Ce.moX xs ys) n w' ∧ Ce.Kept K w w' := by
  obtain ⟨v, h1, h2⟩ := h.ex
  refine (cmore h1 A ys c hl hy hx).mono ?_
  rintro e w' ⟨he, v', h', hm⟩
  exact ⟨he, Ce.Pm.step h2 h.lt h' hm⟩
theorem pm_load (h : Ce.Pm K B M xs n w) (hn : n ≤ 1000000000000) (at_ : Int) : Calls Try.prog 22 #[.pointer (some ⟨B, 0, none⟩), .int .i64 at_] w fun e w' =>
    e = .returned (.tuple #[.int .i64 (Ce.ldV xs at_), .int .i64 (Ce.erC xs at_)]) ∧ Ce.Pm K B M xs (Ce.cnt xs at_ n) w' ∧ Ce.Kept K w w' := by
  obtain ⟨v, h1, h2⟩ := h.ex
  refine (cload h1 hn at_).mono ?_
  rintro e w' ⟨he, h', hm⟩
  exact ⟨he, Ce.Pm.step h2 h.lt h' hm⟩
theorem pm_store (h : Ce.Pm K B M xs n w) (hn : n ≤ 1000000000000) (at_ x : Int) : Calls Try.prog 83 #[.pointer (some ⟨B, 0, none⟩), .int .i64 at_, .int .i64 x] w fun e w' =>
    e = .returned (.int .i64 (Ce.erC xs at_)) ∧ Ce.Pm K B M (Ce.stX xs at_ x) (Ce.cnt xs at_ n) w' ∧ Ce.Kept K w w' := by
  obtain ⟨v, h1, h2⟩ := h.ex
  refine (cstore h1 hn at_ x).mono ?_
  rintro e w' ⟨he, h', hm⟩
  exact ⟨he, Ce.Pm.step h2 h.lt h' hm⟩
theorem pm_swap (h : Ce.Pm K B M xs n w) (hn : n ≤ 1000000000000) (at_ old x : Int) : Calls Try.prog 94 #[.pointer (some ⟨B, 0, none⟩), .int .i64 at_, .int .i64 old, .int .i64 x] w fun e w' =>
    e = .returned (.tuple #[.bool (Ce.swB xs at_ old), .int .i64 (Ce.erC xs at_)]) ∧ Ce.Pm K B M (Ce.swX xs at_ old x) (Ce.cnt xs at_ n) w' ∧ Ce.Kept K w w' := by
  obtain ⟨v, h1, h2⟩ := h.ex
  refine (cswap h1 hn at_ old x).mono ?_
  rintro e w' ⟨he, h', hm⟩
  exact ⟨he, Ce.Pm.step h2 h.lt h' hm⟩
theorem pm_len (h : Ce.Pm K B M xs n w) : Calls Try.prog 10 #[.pointer (some ⟨B, 0, none⟩)] w fun e w' => e = .returned (.int .i64 (xs.length : Int)) ∧ Below w.heap.size w w' := by
  obtain ⟨v, h1, _⟩ := h.ex
  exact clen h1
theorem pm_steps (h : Ce.Pm K B M xs n w) : Calls Try.prog 19 #[.pointer (some ⟨B, 0, none⟩)] w fun e w' => e = .returned (.int .i64 (n : Int)) ∧ Below w.heap.size w w' := by
  obtain ⟨v, h1, _⟩ := h.ex
  exact csteps h1
end
theorem pm_new (w : World) : Calls Try.prog 8 #[] w fun e w' => ∃ B M, e = .returned (.pointer (some ⟨B, 0, none⟩)) ∧ Ce.Pm (fun i => i < w.heap.size) B M [] 0 w' ∧ Below w.heap.size w w' := by
  refine (cnew w).mono ?_
  rintro e w' ⟨B, M, he, h1, h2, h3, h4⟩
  exact ⟨B, M, he, ⟨⟨_, h3, fun i hi => ⟨by omega, by omega, fun e => by cases e⟩⟩, fun i hi => Nat.lt_of_lt_of_le hi h4.size⟩, h4⟩

namespace Ce
theorem lies2 (w : World) (a b : Int) (T : TypeId) : Lies (w.alloc (.cells #[.int .i64 a, .int .i64 b] T)) (w.alloc (.cells #[.int .i64 a, .int .i64 b] T)).heap.size (some ⟨w.heap.size, 0, none⟩) (icells [a, b]) := fun _ =>
  ⟨⟨w.heap.size, 0, none⟩, rfl, by simp, fun j u hu => World.news_of_block (heap_alloc_new w (.cells #[.int .i64 a, .int .i64 b] T)) j u hu⟩
end Ce
namespace Ce
/-- The program's and the document's side by side, among blocks that must stay. -/
structure Bth (K : Nat → Prop) (B M R : Nat) (xs : List Int) (n : Nat) (ys : List Int) (m : Nat) (w : World) : Prop where
  ex : ∃ v u, PM B M v xs n w ∧ DM R u ys m w ∧ (∀ i, K i → POff B M v i ∧ DOff R u i) ∧ ∀ i, POff B M v i ∨ DOff R u i
  lt : ∀ i, K i → i < w.heap.size
section
variable {K : Nat → Prop} {B M R : Nat} {xs xs' ys ys' : List Int} {n n' m m' : Nat} {v v' : Value} {w w' : World}
theorem Bth.mono {K' : Nat → Prop} (h : Bth K B M R xs n ys m w) (hK : ∀ i, K' i → K i) : Bth K' B M R xs n ys m w := by
  obtain ⟨v, u, h1, h2, h3, h4⟩ := h.ex
  exact ⟨⟨v, u, h1, h2, fun i hi => h3 i (hK i hi), h4⟩, fun i hi => h.lt i (hK i hi)⟩
theorem Bth.below (h : Bth K B M R xs n ys m w) (hb : Below w.heap.size w w') : Bth K B M R xs n ys m w' := by
  obtain ⟨v, u, h1, h2, h3, h4⟩ := h.ex
  exact ⟨⟨v, u, h1.below hb, h2.below hb, h3, h4⟩, fun i hi => Nat.lt_of_lt_of_le (h.lt i hi) hb.size⟩
theorem Bth.push (h : Bth K B M R xs n ys m w) (hb : Below w.heap.size w w') : Bth (fun i => K i ∨ (w.heap.size ≤ i ∧ i < w'.heap.size)) B M R xs n ys m w' := by
  obtain ⟨v, u, h1, h2, h3, h4⟩ := h.ex
  refine ⟨⟨v, u, h1.below hb, h2.below hb, fun i hi => ?_, h4⟩, fun i hi => ?_⟩
  · rcases hi with hi | hi
    · exact h3 i hi
    · exact ⟨h1.fresh hi.1, h2.fresh hi.1⟩
  · rcases hi with hi | hi
    · exact Nat.lt_of_lt_of_le (h.lt i hi) hb.size
    · exact hi.2
theorem Bth.cells (h : Bth K B M R xs n ys m w) : ∃ A c, w.cell? ⟨R, 0, none⟩ = some (.slice A ys.length c) ∧ w.cell? ⟨R, 1, none⟩ = some (.int .i64 (m : Int)) ∧ Lies w w.heap.size A (icells ys) := by
  obtain ⟨v, u, h1, h2, h3, h4⟩ := h.ex
  obtain ⟨A, c, rfl⟩ := Gm.own_form h2.row
  refine ⟨A, c, h2.c0, h2.c1, fun hp => ?_⟩
  rcases h2.row.2 with ⟨e, h0⟩ | ⟨g, cap, cur, e1, hg, hh, _⟩
  · have := icells_len ys
    omega
  · obtain rfl : A = some ⟨g, 0, none⟩ := by injection e1
    exact ⟨⟨g, 0, none⟩, rfl, (h2.row.lt g rfl).2, fun j u hu => h2.row.cells (g := g) rfl j u hu⟩
theorem own_lt {T : TypeId} {base k : Nat} {zs : List Value} (h : w.ownsRow base T 1 v k zs) {i : Nat} (hi : some i = v.ownBlock) : i < w.heap.size := (h.lt i hi.symm).2
theorem Bth.stepP {u : Value} (_h1 : PM B M v xs n w) (h2 : DM R u ys m w) (h3 : ∀ i, K i → POff B M v i ∧ DOff R u i) (h4 : ∀ i, POff B M v i ∨ DOff R u i) (hl : ∀ i, K i → i < w.heap.size) (h' : PM B M v' xs' n' w') (hm : Gm.Mvg (POff B M v) (POff B M v') w w') : Bth K B M R xs' n' ys m w' ∧ Kept K w w' := by
  have hR : POff B M v R := (h4 R).resolve_right fun e => e.1 rfl
  have hu : ∀ i, u.ownBlock = some i → POff B M v i := fun i hi => (h4 i).resolve_right fun e => e.2 hi.symm
  refine ⟨⟨⟨v', u, h', h2.of (hm.block R h2.ltR hR) (fun i hi => hm.block i (own_lt h2.row hi.symm) (hu i hi)), fun i hi => ⟨hm.keep i (hl i hi) (h3 i hi).1, (h3 i hi).2⟩, fun i => ?_⟩, fun i hi => Nat.lt_of_lt_of_le (hl i hi) hm.size⟩, ⟨hm.os, hm.tape, hm.output, hm.size, fun i hi h => hm.block i hi (h3 i h).1⟩⟩
  by_cases hd : DOff R u i
  · exact .inr hd
  · refine .inl (hm.keep i ?_ ((h4 i).resolve_right hd))
    by_cases hi : i = R
    · rw [hi]; exact h2.ltR
    · by_cases hj : some i = u.ownBlock
      · exact own_lt h2.row hj
      · exact absurd ⟨hi, hj⟩ hd
theorem Bth.stepD {u u' : Value} (h1 : PM B M v xs n w) (_h2 : DM R u ys m w) (h3 : ∀ i, K i → POff B M v i ∧ DOff R u i) (h4 : ∀ i, POff B M v i ∨ DOff R u i) (hl : ∀ i, K i → i < w.heap.size) (h' : DM R u' ys' m' w') (hm : Gm.Mvg (DOff R u) (DOff R u') w w') : Bth K B M R xs n ys' m' w' ∧ Kept K w w' := by
  have hB : DOff R u B := (h4 B).resolve_left fun e => e.1 rfl
  have hM : DOff R u M := (h4 M).resolve_left fun e => e.2.1 rfl
  have hv : ∀ i, v.ownBlock = some i → DOff R u i := fun i hi => (h4 i).resolve_left fun e => e.2.2 hi.symm
  refine ⟨⟨⟨v, u', h1.of (hm.block B h1.ltB hB) (hm.block M h1.ltM hM) (fun i hi => hm.block i (own_lt h1.row hi.symm) (hv i hi)), h', fun i hi => ⟨(h3 i hi).1, hm.keep i (hl i hi) (h3 i hi).2⟩, fun i => ?_⟩, fun i hi => Nat.lt_of_lt_of_le (hl i hi) hm.size⟩, ⟨hm.os, hm.tape, hm.output, hm.size, fun i hi h => hm.block i hi (h3 i h).2⟩⟩
  by_cases hd : POff B M v i
  · exact .inl hd
  · refine .inr (hm.keep i ?_ ((h4 i).resolve_left hd))
    by_cases hi : i = B
    · rw [hi]; exact h1.ltB
    · by_cases hi2 : i = M
      · rw [hi2]; exact h1.ltM
      · by_cases hj : some i = v.ownBlock
        · exact own_lt h1.row hj
        · exact absurd ⟨hi, hi2, hj⟩ hd
end
end Ce
section
variable {K : Nat → Prop} {B M R : Nat} {xs ys : List Int} {n m : Nat} {w : World}
theorem two_moreP (h : Ce.Bth K B M R xs n ys m w) (A : Option Addr) (zs : List Int) (c : Nat) (hl : Lies w w.heap.size A (icells zs)) (hy : zs.length ≤ maxLen) (hx : xs.length ≤ 65536) :
    Calls Try.prog 24 #[.pointer (some ⟨B, 0, none⟩), .slice A zs.length c] w fun e w' =>
    e = .returned (.tuple #[.int .i64 (Ce.moA xs zs), .int .i64 (Ce.moE xs zs)]) ∧ Ce.Bth K B M R (Ce.moX xs zs) n ys m w' ∧ Ce.Kept K w w' := by
  obtain ⟨v, u, h1, h2, h3, h4⟩ := h.ex
  refine (cmore h1 A zs c hl hy hx).mono ?_
  rintro e w' ⟨he, v', h', hm⟩
  exact ⟨he, Ce.Bth.stepP h1 h2 h3 h4 h.lt h' hm⟩
theorem two_moreD (h : Ce.Bth K B M R xs n ys m w) (A : Option Addr) (zs : List Int) (c : Nat) (hl : Lies w w.heap.size A (icells zs)) (hy : zs.length ≤ maxLen) (hx : ys.length ≤ 65536) :
    Calls Try.prog 28 #[.pointer (some ⟨R, 0, none⟩), .slice A zs.length c] w fun e w' =>
    e = .returned (.tuple #[.int .i64 (Ce.moA ys zs), .int .i64 (Ce.moE ys zs)]) ∧ Ce.Bth K B M R xs n (Ce.moX ys zs) m w' ∧ Ce.Kept K w w' := by
  obtain ⟨v, u, h1, h2, h3, h4⟩ := h.ex
  refine (dmore h2 A zs c hl hy hx).mono ?_
  rintro e w' ⟨he, v', h', hm⟩
  exact ⟨he, Ce.Bth.stepD h1 h2 h3 h4 h.lt h' hm⟩
theorem two_loadP (h : Ce.Bth K B M R xs n ys m w) (hn : n ≤ 1000000000000) (at_ : Int) : Calls Try.prog 22 #[.pointer (some ⟨B, 0, none⟩), .int .i64 at_] w fun e w' =>
    e = .returned (.tuple #[.int .i64 (Ce.ldV xs at_), .int .i64 (Ce.erC xs at_)]) ∧ Ce.Bth K B M R xs (Ce.cnt xs at_ n) ys m w' ∧ Ce.Kept K w w' := by
  obtain ⟨v, u, h1, h2, h3, h4⟩ := h.ex
  refine (cload h1 hn at_).mono ?_
  rintro e w' ⟨he, h', hm⟩
  exact ⟨he, Ce.Bth.stepP h1 h2 h3 h4 h.lt h' hm⟩
theorem two_loadD (h : Ce.Bth K B M R xs n ys m w) (hn : m ≤ 1000000000000) (at_ : Int) : Calls Try.prog 62 #[.pointer (some ⟨R, 0, none⟩), .int .i64 at_] w fun e w' =>
    e = .returned (.tuple #[.int .i64 (Ce.ldV ys at_), .int .i64 (Ce.erC ys at_)]) ∧ Ce.Bth K B M R xs n ys (Ce.cnt ys at_ m) w' ∧ Ce.Kept K w w' := by
  obtain ⟨v, u, h1, h2, h3, h4⟩ := h.ex
  refine (dload h2 hn at_).mono ?_
  rintro e w' ⟨he, h', hm⟩
  exact ⟨he, Ce.Bth.stepD h1 h2 h3 h4 h.lt h' hm⟩
theorem two_storeP (h : Ce.Bth K B M R xs n ys m w) (hn : n ≤ 1000000000000) (at_ x : Int) : Calls Try.prog 83 #[.pointer (some ⟨B, 0, none⟩), .int .i64 at_, .int .i64 x] w fun e w' =>
    e = .returned (.int .i64 (Ce.erC xs at_)) ∧ Ce.Bth K B M R (Ce.stX xs at_ x) (Ce.cnt xs at_ n) ys m w' ∧ Ce.Kept K w w' := by
  obtain ⟨v, u, h1, h2, h3, h4⟩ := h.ex
  refine (cstore h1 hn at_ x).mono ?_
  rintro e w' ⟨he, h', hm⟩
  exact ⟨he, Ce.Bth.stepP h1 h2 h3 h4 h.lt h' hm⟩
theorem two_storeD (h : Ce.Bth K B M R xs n ys m w) (hn : m ≤ 1000000000000) (at_ x : Int) : Calls Try.prog 63 #[.pointer (some ⟨R, 0, none⟩), .int .i64 at_, .int .i64 x] w fun e w' =>
    e = .returned (.int .i64 (Ce.erC ys at_)) ∧ Ce.Bth K B M R xs n (Ce.stX ys at_ x) (Ce.cnt ys at_ m) w' ∧ Ce.Kept K w w' := by
  obtain ⟨v, u, h1, h2, h3, h4⟩ := h.ex
  refine (dstore h2 hn at_ x).mono ?_
  rintro e w' ⟨he, h', hm⟩
  exact ⟨he, Ce.Bth.stepD h1 h2 h3 h4 h.lt h' hm⟩
theorem two_swapP (h : Ce.Bth K B M R xs n ys m w) (hn : n ≤ 1000000000000) (at_ old x : Int) : Calls Try.prog 94 #[.pointer (some ⟨B, 0, none⟩), .int .i64 at_, .int .i64 old, .int .i64 x] w fun e w' =>
    e = .returned (.tuple #[.bool (Ce.swB xs at_ old), .int .i64 (Ce.erC xs at_)]) ∧ Ce.Bth K B M R (Ce.swX xs at_ old x) (Ce.cnt xs at_ n) ys m w' ∧ Ce.Kept K w w' := by
  obtain ⟨v, u, h1, h2, h3, h4⟩ := h.ex
  refine (cswap h1 hn at_ old x).mono ?_
  rintro e w' ⟨he, h', hm⟩
  exact ⟨he, Ce.Bth.stepP h1 h2 h3 h4 h.lt h' hm⟩
theorem two_swapD (h : Ce.Bth K B M R xs n ys m w) (hn : m ≤ 1000000000000) (at_ old x : Int) : Calls Try.prog 53 #[.pointer (some ⟨R, 0, none⟩), .int .i64 at_, .int .i64 old, .int .i64 x] w fun e w' =>
    e = .returned (.tuple #[.bool (Ce.swB ys at_ old), .int .i64 (Ce.erC ys at_)]) ∧ Ce.Bth K B M R xs n (Ce.swX ys at_ old x) (Ce.cnt ys at_ m) w' ∧ Ce.Kept K w w' := by
  obtain ⟨v, u, h1, h2, h3, h4⟩ := h.ex
  refine (dswap h2 hn at_ old x).mono ?_
  rintro e w' ⟨he, h', hm⟩
  exact ⟨he, Ce.Bth.stepD h1 h2 h3 h4 h.lt h' hm⟩
theorem two_len (h : Ce.Bth K B M R xs n ys m w) : Calls Try.prog 10 #[.pointer (some ⟨B, 0, none⟩)] w fun e w' => e = .returned (.int .i64 (xs.length : Int)) ∧ Below w.heap.size w w' := by
  obtain ⟨v, u, h1, _⟩ := h.ex
  exact clen h1
theorem two_steps (h : Ce.Bth K B M R xs n ys m w) : Calls Try.prog 19 #[.pointer (some ⟨B, 0, none⟩)] w fun e w' => e = .returned (.int .i64 (n : Int)) ∧ Below w.heap.size w w' := by
  obtain ⟨v, u, h1, _⟩ := h.ex
  exact csteps h1
end
end Go.Proofs.Ytlgelhkpdldgdaa
