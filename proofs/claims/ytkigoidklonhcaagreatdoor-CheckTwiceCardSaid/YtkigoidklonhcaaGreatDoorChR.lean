/-
  Layer 11's known small run.
-/
import Derived.Test.YtkigoidklonhcaaGreatDoorChQ
namespace Go.Proofs.YtkigoidklonhcaaGreatDoor
open Go.RowKit

namespace Ck
open Cd
def oRet : OpV := ⟨14, 0, 0, 0, 0⟩
def oRetA : OpV := ⟨14, 0, 1, 0, 0⟩
def oGo : OpV := ⟨10, 0, 0, 0, 1⟩
def oJoin : OpV := ⟨13, 0, 0, 0, 0⟩
def oFork : OpV := ⟨12, 0, 0, 0, 1⟩
def p1 (o : OpV) : List FnV := [⟨1, 1, [o]⟩]
def p2 : List FnV := [⟨1, 1, [oRet]⟩, ⟨1, 1, [oJoin, oFork]⟩]
def q2 : List FnV := [⟨1, 1, [oFork, oRet]⟩, ⟨1, 1, [oRet]⟩]
theorem chk_a : chk (p1 oRet) = (0, 0, 0) := by decide +kernel
theorem chk_b : (chk (p1 oRetA)).1 = 111 := by decide +kernel
theorem chk_c : (chk (p1 oGo)).1 = 112 := by decide +kernel
theorem chk_d : (chk []).1 = 110 := by decide +kernel
theorem chk_e : chk p2 = (113, 1, 1) := by decide +kernel
theorem chk_q : (chk q2).1 = 0 := by decide +kernel
theorem inp_a : inp (p1 oRet) 1 = 0 := by decide +kernel
theorem inp_b : inp (p1 oRet) 0 = 114 := by decide +kernel
theorem q_beg {i j : Nat} (h : Beg q2 i j) : i = 0 ∧ j = 1 := by
  obtain ⟨f, hf, o, ho, hk, hn⟩ := h
  match i, hf with
  | 0, hf =>
    cases hf
    simp [oFork, oRet] at ho
    rcases ho with rfl | rfl
    · refine ⟨rfl, ?_⟩
      have : (1 : Int) = (j : Int) := hn
      omega
    · exact absurd (show (14 : Nat) = 12 from hk) (by decide)
  | 1, hf =>
    cases hf
    simp [oRet] at ho
    subst ho
    exact absurd (show (14 : Nat) = 12 from hk) (by decide)
  | i + 2, hf => simp [q2] at hf
theorem beg_q : Beg q2 0 1 := ⟨_, rfl, oFork, by simp, rfl, rfl⟩
theorem out_q0 : Out q2 0 [1] := by
  have := out_yes (p := q2) (fn := 0) chk_q (by decide) (L := [false, true]) rfl (fun j hj => by
    match j, hj with
    | 1, _ => exact .one beg_q
    | j + 2, hj => simp at hj) (fun i j _ hb => by
    obtain ⟨-, rfl⟩ := q_beg hb
    rfl)
  exact this
theorem out_q1 : Out q2 1 [] := by
  have := out_yes (p := q2) (fn := 1) chk_q (by decide) (L := [false, false]) rfl (fun j hj => by
    match j, hj with
    | j + 2, hj => simp at hj) (fun i j hi hb => by
    obtain ⟨rfl, -⟩ := q_beg hb
    rcases hi with h | h
    · cases h
    · simp at h)
  exact this
theorem small_rng {f : FnV} (h1 : f.args = 1) (h2 : f.regs = 1) (h3 : f.ops.all (fun o => decide (o.k < 256) && (decide (o.d = 0) && (decide (o.a = 0 ∨ o.a = 1) && (decide (o.b = 0) && decide (o.n = 0 ∨ o.n = 1))))) = true) (h4 : f.ops.length ≤ 2) : f.Rng := by
  refine ⟨by rw [h1]; decide, by rw [h2]; decide, fun o ho => ?_, by unfold maxLen; omega⟩
  have := List.all_eq_true.1 h3 o ho
  simp only [Bool.and_eq_true, decide_eq_true_eq] at this
  exact ⟨this.1, by omega, by omega, by omega, by omega⟩
def row2 (a b : OpV) : Array Value := #[.int .u8 (a.k : Int), .int .i64 a.d, .int .i64 a.a, .int .i64 a.b, .int .i64 a.n, .int .u8 (b.k : Int), .int .i64 b.d, .int .i64 b.a, .int .i64 b.b, .int .i64 b.n]
def fm2 (a b : OpV) (n : Nat) : Fm := ⟨⟨1, 1, [a, b]⟩, some ⟨n, 0, none⟩, 2⟩
/-- Two functions, laid by hand. -/
theorem two_laid {w W1 W : World} {T1 T2 : TypeId} {A : Option Addr} {o : OpV} {n : Nat} (hp : Prog w w.heap.size A [oneF o n]) (a b : OpV) (h1 : W1 = w.alloc (.cells (row2 a b) T1)) {l : List Fm} (hl : ∀ m ∈ l, m = oneF o n ∨ m = fm2 a b w.heap.size) (h2 : W = W1.alloc (.cells (mcells l).toArray T2)) :
    Prog W W.heap.size (some ⟨w.heap.size + 1, 0, none⟩) l ∧ Below w.heap.size w W := by
  have s1 : W1.heap.size = w.heap.size + 1 := by rw [h1]; simp
  have s2 : W.heap.size = w.heap.size + 2 := by rw [h2]; simp [s1]
  have b1 : Below w.heap.size w W1 := by rw [h1]; exact fn1 _ _ _
  have b2 : Below W1.heap.size W1 W := by rw [h2]; exact fn1 _ _ _
  have bw := b1.trans (b2.mono b1.size)
  have hO : W.heap[w.heap.size]? = some (.cells (row2 a b) T1 (0, 0)) := by
    rw [b2.block _ (by omega), h1]; exact heap_alloc_new w _
  have hF : W.heap[w.heap.size + 1]? = some (.cells (mcells l).toArray T2 (0, 0)) := by
    rw [← s1, h2]; exact heap_alloc_new W1 _
  refine ⟨⟨fun _ => ⟨_, rfl, by show w.heap.size + 1 < _; omega, fun j u hu => World.news_of_block hF j u (by simpa using hu)⟩, fun m hm => ?_⟩, bw⟩
  rcases hl m hm with rfl | rfl
  · exact ((hp.os _ (List.mem_singleton.2 rfl)).below bw).mono bw.size
  · exact fun _ => ⟨_, rfl, by show w.heap.size < _; omega, fun j u hu => World.news_of_block hO j u hu⟩
end Ck
end Go.Proofs.YtkigoidklonhcaaGreatDoor
