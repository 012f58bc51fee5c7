/-
  Messages and ways in memory; the document's net at its block.
-/
import Derived.Test.YtlgelhkpdldgdaaOpen
import Derived.Test.YtlgelhkpdldgdaaProg
import Derived.BigQuiet
import Derived.WalkSmall
import Derived.Deep.OwnRows
import Derived.Lib.Hide
import Derived.RangeFuncBox
import Derived.Deep.AppendLies
import Derived.ProofKit
namespace Go.Proofs.Ytlgelhkpdldgdaa
open Go.RowKit

namespace Gm
/-- A message: its number, from whom, to whom, its text. -/
structure Msg where
  id : Int
  fr : Int
  to : Int
  text : ByteArray
/-- A way: from one place to another one. -/
abbrev Wy := Int × Int
def Msg.cells (x : Msg) : List Value := [.int .u64 x.id, .int .i64 x.fr, .int .i64 x.to, .string x.text]
def msgs (l : List Msg) : List Value := l.flatMap Msg.cells
def wys (l : List Wy) : List Value := l.flatMap fun x => [Value.int .i64 x.1, Value.int .i64 x.2]
theorem msgs_cons (x : Msg) (l : List Msg) : msgs (x :: l) = x.cells ++ msgs l := by simp [msgs]
theorem msgs_app (l m : List Msg) : msgs (l ++ m) = msgs l ++ msgs m := by simp [msgs]
theorem msgs_snoc (l : List Msg) (x : Msg) : msgs (l ++ [x]) = msgs l ++ x.cells := by simp [msgs]
theorem msgs_len (l : List Msg) : (msgs l).length = l.length * 4 := by
  induction l with
  | nil => rfl
  | cons x l ih => rw [msgs_cons, List.length_append, ih, List.length_cons]; simp [Msg.cells]; omega
theorem msgs_at (l : List Msg) (k i : Nat) (h : k < l.length) (hi : i < 4) : (msgs l)[4 * k + i]? = (l[k].cells)[i]? := by
  induction l generalizing k with
  | nil => simp at h
  | cons x l ih =>
    have hx : x.cells.length = 4 := rfl
    rw [msgs_cons]
    cases k with
    | zero => rw [List.getElem?_append_left (by omega)]; simp
    | succ k =>
      rw [show 4 * (k + 1) + i = 4 + (4 * k + i) by omega, List.getElem?_append_right (by omega), hx, show 4 + (4 * k + i) - 4 = 4 * k + i by omega]
      exact ih k (by simpa using h)
theorem wys_cons (x : Wy) (l : List Wy) : wys (x :: l) = [Value.int .i64 x.1, Value.int .i64 x.2] ++ wys l := by simp [wys]
theorem wys_snoc (l : List Wy) (x : Wy) : wys (l ++ [x]) = wys l ++ [Value.int .i64 x.1, Value.int .i64 x.2] := by simp [wys]
theorem wys_len (l : List Wy) : (wys l).length = l.length * 2 := by
  induction l with
  | nil => rfl
  | cons x l ih => rw [wys_cons, List.length_append, ih, List.length_cons]; simp; omega
theorem wys_at (l : List Wy) (k : Nat) (h : k < l.length) : (wys l)[2 * k]? = some (.int .i64 l[k].1) ∧ (wys l)[2 * k + 1]? = some (.int .i64 l[k].2) := by
  induction l generalizing k with
  | nil => simp at h
  | cons x l ih =>
    rw [wys_cons]
    cases k with
    | zero => exact ⟨rfl, rfl⟩
    | succ k =>
      have := ih k (by simpa using h)
      rw [show 2 * (k + 1) = 2 * k + 2 by omega]
      simpa using this
theorem offN (A : Addr) (k n i : Nat) (hi : i ≠ 0) : (⟨(A.add (k * n)).block, (A.add (k * n)).off + i, none⟩ : Addr) = A.add (n * k + i) := by
  unfold Addr.add
  by_cases h : k * n = 0
  · have h2 : n * k = 0 := by rw [Nat.mul_comm]; exact h
    rw [if_pos h, if_neg (by omega), h2]; simp
  · rw [if_neg h, if_neg (by omega)]
    simp only [Addr.mk.injEq, true_and, and_true]
    rw [Nat.mul_comm n k]; omega
/-- One message of a row that lies, in the walk's spelling. -/
theorem at4 {w : World} {B : Nat} {A : Option Addr} {l : List Msg} (h : Lies w B A (msgs l)) {k : Nat} (hk : k < l.length) :
    ∃ p, A = some p ∧ p.block < B ∧ w.cell? (p.add (k * 4)) = some (.int .u64 l[k].id) ∧ w.cell? ⟨(p.add (k * 4)).block, (p.add (k * 4)).off + 1, none⟩ = some (.int .i64 l[k].fr) ∧
      w.cell? ⟨(p.add (k * 4)).block, (p.add (k * 4)).off + 2, none⟩ = some (.int .i64 l[k].to) ∧ w.cell? ⟨(p.add (k * 4)).block, (p.add (k * 4)).off + 3, none⟩ = some (.string l[k].text) := by
  obtain ⟨p, rfl, hpb, hc⟩ := h (by rw [msgs_len]; omega)
  refine ⟨p, rfl, hpb, ?_, ?_, ?_, ?_⟩
  · rw [Nat.mul_comm]; exact hc (4 * k) _ (msgs_at l k 0 hk (by omega))
  · rw [offN _ _ _ _ (by omega)]; exact hc _ _ (msgs_at l k 1 hk (by omega))
  · rw [offN _ _ _ _ (by omega)]; exact hc _ _ (msgs_at l k 2 hk (by omega))
  · rw [offN _ _ _ _ (by omega)]; exact hc _ _ (msgs_at l k 3 hk (by omega))
theorem atW {w : World} {B : Nat} {A : Option Addr} {l : List Wy} (h : Lies w B A (wys l)) {k : Nat} (hk : k < l.length) :
    ∃ p, A = some p ∧ p.block < B ∧ w.cell? (p.add (k * 2)) = some (.int .i64 l[k].1) ∧ w.cell? ⟨(p.add (k * 2)).block, (p.add (k * 2)).off + 1, none⟩ = some (.int .i64 l[k].2) := by
  obtain ⟨p, rfl, hpb, hc⟩ := h (by rw [wys_len]; omega)
  obtain ⟨a0, a1⟩ := wys_at l k hk
  refine ⟨p, rfl, hpb, ?_, ?_⟩
  · rw [Nat.mul_comm]; exact hc _ _ a0
  · rw [offN _ _ _ _ (by omega)]; exact hc _ _ a1
theorem ltHeap {w : World} {b : Nat} {o : Obj} (h : w.heap[b]? = some o) : b < w.heap.size := by
  rcases Nat.lt_or_ge b w.heap.size with h' | h'
  · exact h'
  · rw [Array.getElem?_eq_none h'] at h; cases h
theorem ownsKeep {w w' : World} {base n m : Nat} {v : Value} {T : TypeId} {xs : List Value} (h : w.ownsRow base T m v n xs) (hk : ∀ i, v.ownBlock = some i → w'.heap[i]? = w.heap[i]?) : w'.ownsRow base T m v n xs := by
  obtain ⟨hl, h0 | ⟨g, cap, cur, rfl, hg, hh, r⟩⟩ := h
  · exact ⟨hl, .inl h0⟩
  · exact ⟨hl, .inr ⟨g, cap, cur, rfl, hg, (hk g rfl).trans hh, r⟩⟩
theorem ownsBase {w : World} {base n m : Nat} {v : Value} {T : TypeId} {xs : List Value} (h : w.ownsRow base T m v n xs) : w.ownsRow 0 T m v n xs := by
  obtain ⟨hl, h0 | ⟨g, cap, cur, rfl, hg, r⟩⟩ := h
  · exact ⟨hl, .inl h0⟩
  · exact ⟨hl, .inr ⟨g, cap, cur, rfl, Nat.zero_le _, r⟩⟩
theorem own_liesM {w : World} {base n c : Nat} {A : Option Addr} {T : TypeId} {l : List Msg} (h : w.ownsRow base T 4 (.slice A n c) n (msgs l)) : Lies w w.heap.size A (msgs l) := fun hp => by
  rcases h.2 with ⟨e, h0⟩ | ⟨g, cap, cur, e1, hg, hh, _⟩
  · have := h.1
    omega
  · obtain rfl : A = some ⟨g, 0, none⟩ := by injection e1
    exact ⟨⟨g, 0, none⟩, rfl, (h.lt g rfl).2, fun j u hu => h.cells (g := g) rfl j u hu⟩
theorem own_liesW {w : World} {base n c : Nat} {A : Option Addr} {T : TypeId} {l : List Wy} (h : w.ownsRow base T 2 (.slice A n c) n (wys l)) : Lies w w.heap.size A (wys l) := fun hp => by
  rcases h.2 with ⟨e, h0⟩ | ⟨g, cap, cur, e1, hg, hh, _⟩
  · have := h.1
    omega
  · obtain rfl : A = some ⟨g, 0, none⟩ := by injection e1
    exact ⟨⟨g, 0, none⟩, rfl, (h.lt g rfl).2, fun j u hu => h.cells (g := g) rfl j u hu⟩
theorem own_form {w : World} {base n m : Nat} {v : Value} {T : TypeId} {xs : List Value} (h : w.ownsRow base T m v n xs) : ∃ A c, v = .slice A n c := by
  rcases h.2 with ⟨e, h0⟩ | ⟨g, cap, cur, rfl, _⟩
  · exact ⟨none, 0, by rw [e, h0]⟩
  · exact ⟨_, _, rfl⟩
def NOff (R : Nat) (v vc : Value) (i : Nat) : Prop := i ≠ R ∧ some i ≠ v.ownBlock ∧ some i ≠ vc.ownBlock
/-- What is off some blocks stays. -/
structure Mvg (off off' : Nat → Prop) (w w' : World) : Prop where
  os : w'.os = w.os
  tape : w'.tape = w.tape
  output : w'.output = w.output
  size : w.heap.size ≤ w'.heap.size
  block : ∀ i, i < w.heap.size → off i → w'.heap[i]? = w.heap[i]?
  keep : ∀ i, i < w.heap.size → off i → off' i
theorem Mvg.refl (off : Nat → Prop) (w : World) : Mvg off off w w := ⟨rfl, rfl, rfl, Nat.le_refl _, fun _ _ _ => rfl, fun _ _ h => h⟩
theorem Mvg.trans {off off' off'' : Nat → Prop} {a b c : World} (h : Mvg off off' a b) (k : Mvg off' off'' b c) : Mvg off off'' a c :=
  ⟨k.os.trans h.os, k.tape.trans h.tape, k.output.trans h.output, Nat.le_trans h.size k.size,
    fun i hi ho => (k.block i (Nat.lt_of_lt_of_le hi h.size) (h.keep i hi ho)).trans (h.block i hi ho), fun i hi ho => k.keep i (Nat.lt_of_lt_of_le hi h.size) (h.keep i hi ho)⟩
theorem Mvg.of_below {off : Nat → Prop} {w w' : World} (hb : Below w.heap.size w w') : Mvg off off w w' := ⟨hb.os, hb.tape, hb.output, hb.size, fun i hi _ => hb.block i hi, fun _ _ h => h⟩
section
variable {R : Nat} {v vc : Value} {last : Int} {l : List Msg} {cs : List Wy} {w w' : World}
end
end Gm
end Go.Proofs.Ytlgelhkpdldgdaa
