/-
  Messages and ways in memory; the document's net at its block.
  Maps as functions of their keys, whatever the keys' and the values' types.
-/
import Derived.Test.YtepnofklmdofmaaGreatDoorLowOpen
import Derived.Test.YtepnofklmdofmaaGreatDoorProg
import Derived.BigQuiet
import Derived.WalkSmall
import Derived.Deep.OwnRows
import Derived.Lib.Hide
import Derived.RangeFuncBox
import Derived.Deep.AppendLies
import Derived.ProofKit
import Derived.Maps.OwnSet
import Derived.Maps.Views
import Derived.StringKeys
import Derived.DeepKeys3
import Derived.StillTailTactics
section
namespace Go.Proofs.YtepnofklmdofmaaGreatDoor
open Go.RowKit

namespace Gm
/-- A message: its number, from whom, to whom, its text. -/
structure Msg where
  id : Int
  fr : Int
  to : Int
  text : ByteArray
/-- A way: from one place to another one. -/
abbrev Wy := Int × Int
def Msg.cells (x : Msg) : List Value := [.int .u64 x.id, .int .i64 x.fr, .int .i64 x.to, .string x.text]
def msgs (l : List Msg) : List Value := l.flatMap Msg.cells
def wys (l : List Wy) : List Value := l.flatMap fun x => [Value.int .i64 x.1, Value.int .i64 x.2]
theorem msgs_cons (x : Msg) (l : List Msg) : msgs (x :: l) = x.cells ++ msgs l := by simp [msgs]
theorem msgs_app (l m : List Msg) : msgs (l ++ m) = msgs l ++ msgs m := by simp [msgs]
theorem msgs_snoc (l : List Msg) (x : Msg) : msgs (l ++ [x]) = msgs l ++ x.cells := by simp [msgs]
theorem msgs_len (l : List Msg) : (msgs l).length = l.length * 4 := by
  induction l with
  | nil => rfl
  | cons x l ih => rw [msgs_cons, List.length_append, ih, List.length_cons]; simp [Msg.cells]; omega
theorem msgs_at (l : List Msg) (k i : Nat) (h : k < l.length) (hi : i < 4) : (msgs l)[4 * k + i]? = (l[k].cells)[i]? := by
  induction l generalizing k with
  | nil => simp at h
  | cons x l ih =>
    have hx : x.cells.length = 4 := rfl
    rw [msgs_cons]
    cases k with
    | zero => rw [List.getElem?_append_left (by omega)]; simp
    | succ k =>
      rw [show 4 * (k + 1) + i = 4 + (4 * k + i) by omega, List.getElem?_append_right (by omega), hx, show 4 + (4 * k + i) - 4 = 4 * k + i by omega]
      exact ih k (by simpa using h)
theorem wys_cons (x : Wy) (l : List Wy) : wys (x :: l) = [Value.int .i64 x.1, Value.int .i64 x.2] ++ wys l := by simp [wys]
theorem wys_snoc (l : List Wy) (x : Wy) : wys (l ++ [x]) = wys l ++ [Value.int .i64 x.1, Value.int .i64 x.2] := by simp [wys]
theorem wys_len (l : List Wy) : (wys l).length = l.length * 2 := by
  induction l with
  | nil => rfl
  | cons x l ih => rw [wys_cons, List.length_append, ih, List.length_cons]; simp; omega
theorem wys_at (l : List Wy) (k : Nat) (h : k < l.length) : (wys l)[2 * k]? = some (.int .i64 l[k].1) ∧ (wys l)[2 * k + 1]? = some (.int .i64 l[k].2) := by
  induction l generalizing k with
  | nil => simp at h
  | cons x l ih =>
    rw [wys_cons]
    cases k with
    | zero => exact ⟨rfl, rfl⟩
    | succ k =>
      have := ih k (by simpa using h)
      rw [show 2 * (k + 1) = 2 * k + 2 by omega]
      simpa using this
theorem offN (A : Addr) (k n i : Nat) (hi : i ≠ 0) : (⟨(A.add (k * n)).block, (A.add (k * n)).off + i, none⟩ : Addr) = A.add (n * k + i) := by
  unfold Addr.add
  by_cases h : k * n = 0
  · have h2 : n * k = 0 := by rw [Nat.mul_comm]; exact h
    rw [if_pos h, if_neg (by omega), h2]; simp
  · rw [if_neg h, if_neg (by omega)]
    simp only [Addr.mk.injEq, true_and, and_true]
    rw [Nat.mul_comm n k]; omega
/-- One message of a row that lies, in the walk's spelling. -/
theorem at4 {w : World} {B : Nat} {A : Option Addr} {l : List Msg} (h : Lies w B A (msgs l)) {k : Nat} (hk : k < l.length) :
    ∃ p, A = some p ∧ p.block < B ∧ w.cell? (p.add (k * 4)) = some (.int .u64 l[k].id) ∧ w.cell? ⟨(p.add (k * 4)).block, (p.add (k * 4)).off + 1, none⟩ = some (.int .i64 l[k].fr) ∧
      w.cell? ⟨(p.add (k * 4)).block, (p.add (k * 4)).off + 2, none⟩ = some (.int .i64 l[k].to) ∧ w.cell? ⟨(p.add (k * 4)).block, (p.add (k * 4)).off + 3, none⟩ = some (.string l[k].text) := by
  obtain ⟨p, rfl, hpb, hc⟩ := h (by rw [msgs_len]; omega)
  refine ⟨p, rfl, hpb, ?_, ?_, ?_, ?_⟩
  · rw [Nat.mul_comm]; exact hc (4 * k) _ (msgs_at l k 0 hk (by omega))
  · rw [offN _ _ _ _ (by omega)]; exact hc _ _ (msgs_at l k 1 hk (by omega))
  · rw [offN _ _ _ _ (by omega)]; exact hc _ _ (msgs_at l k 2 hk (by omega))
  · rw [offN _ _ _ _ (by omega)]; exact hc _ _ (msgs_at l k 3 hk (by omega))
theorem atW {w : World} {B : Nat} {A : Option Addr} {l : List Wy} (h : Lies w B A (wys l)) {k : Nat} (hk : k < l.length) :
    ∃ p, A = some p ∧ p.block < B ∧ w.cell? (p.add (k * 2)) = some (.int .i64 l[k].1) ∧ w.cell? ⟨(p.add (k * 2)).block, (p.add (k * 2)).off + 1, none⟩ = some (.int .i64 l[k].2) := by
  obtain ⟨p, rfl, hpb, hc⟩ := h (by rw [wys_len]; omega)
  obtain ⟨a0, a1⟩ := wys_at l k hk
  refine ⟨p, rfl, hpb, ?_, ?_⟩
  · rw [Nat.mul_comm]; exact hc _ _ a0
  · rw [offN _ _ _ _ (by omega)]; exact hc _ _ a1
theorem ltHeap {w : World} {b : Nat} {o : Obj} (h : w.heap[b]? = some o) : b < w.heap.size := by
  rcases Nat.lt_or_ge b w.heap.size with h' | h'
  · exact h'
  · rw [Array.getElem?_eq_none h'] at h; cases h
theorem ownsKeep {w w' : World} {base n m : Nat} {v : Value} {T : TypeId} {xs : List Value} (h : w.ownsRow base T m v n xs) (hk : ∀ i, v.ownBlock = some i → w'.heap[i]? = w.heap[i]?) : w'.ownsRow base T m v n xs := by
  obtain ⟨hl, h0 | ⟨g, cap, cur, rfl, hg, hh, r⟩⟩ := h
  · exact ⟨hl, .inl h0⟩
  · exact ⟨hl, .inr ⟨g, cap, cur, rfl, hg, (hk g rfl).trans hh, r⟩⟩
theorem ownsBase {w : World} {base n m : Nat} {v : Value} {T : TypeId} {xs : List Value} (h : w.ownsRow base T m v n xs) : w.ownsRow 0 T m v n xs := by
  obtain ⟨hl, h0 | ⟨g, cap, cur, rfl, hg, r⟩⟩ := h
  · exact ⟨hl, .inl h0⟩
  · exact ⟨hl, .inr ⟨g, cap, cur, rfl, Nat.zero_le _, r⟩⟩
theorem own_liesM {w : World} {base n c : Nat} {A : Option Addr} {T : TypeId} {l : List Msg} (h : w.ownsRow base T 4 (.slice A n c) n (msgs l)) : Lies w w.heap.size A (msgs l) := fun hp => by
  rcases h.2 with ⟨e, h0⟩ | ⟨g, cap, cur, e1, hg, hh, _⟩
  · have := h.1
    omega
  · obtain rfl : A = some ⟨g, 0, none⟩ := by injection e1
    exact ⟨⟨g, 0, none⟩, rfl, (h.lt g rfl).2, fun j u hu => h.cells (g := g) rfl j u hu⟩
theorem own_liesW {w : World} {base n c : Nat} {A : Option Addr} {T : TypeId} {l : List Wy} (h : w.ownsRow base T 2 (.slice A n c) n (wys l)) : Lies w w.heap.size A (wys l) := fun hp => by
  rcases h.2 with ⟨e, h0⟩ | ⟨g, cap, cur, e1, hg, hh, _⟩
  · have := h.1
    omega
  · obtain rfl : A = some ⟨g, 0, none⟩ := by injection e1
    exact ⟨⟨g, 0, none⟩, rfl, (h.lt g rfl).2, fun j u hu => h.cells (g := g) rfl j u hu⟩
theorem own_form {w : World} {base n m : Nat} {v : Value} {T : TypeId} {xs : List Value} (h : w.ownsRow base T m v n xs) : ∃ A c, v = .slice A n c := by
  rcases h.2 with ⟨e, h0⟩ | ⟨g, cap, cur, rfl, _⟩
  · exact ⟨none, 0, by rw [e, h0]⟩
  · exact ⟨_, _, rfl⟩
def NOff (R : Nat) (v vc : Value) (i : Nat) : Prop := i ≠ R ∧ some i ≠ v.ownBlock ∧ some i ≠ vc.ownBlock
/-- What is off some blocks stays. -/
structure Mvg (off off' : Nat → Prop) (w w' : World) : Prop where
  os : w'.os = w.os
  tape : w'.tape = w.tape
  output : w'.output = w.output
  size : w.heap.size ≤ w'.heap.size
  block : ∀ i, i < w.heap.size → off i → w'.heap[i]? = w.heap[i]?
  keep : ∀ i, i < w.heap.size → off i → off' i
theorem Mvg.refl (off : Nat → Prop) (w : World) : Mvg off off w w := ⟨rfl, rfl, rfl, Nat.le_refl _, fun _ _ _ => rfl, fun _ _ h => h⟩
theorem Mvg.trans {off off' off'' : Nat → Prop} {a b c : World} (h : Mvg off off' a b) (k : Mvg off' off'' b c) : Mvg off off'' a c :=
  ⟨k.os.trans h.os, k.tape.trans h.tape, k.output.trans h.output, Nat.le_trans h.size k.size,
    fun i hi ho => (k.block i (Nat.lt_of_lt_of_le hi h.size) (h.keep i hi ho)).trans (h.block i hi ho), fun i hi ho => k.keep i (Nat.lt_of_lt_of_le hi h.size) (h.keep i hi ho)⟩
theorem Mvg.of_below {off : Nat → Prop} {w w' : World} (hb : Below w.heap.size w w') : Mvg off off w w' := ⟨hb.os, hb.tape, hb.output, hb.size, fun i hi _ => hb.block i hi, fun _ _ h => h⟩
section
variable {R : Nat} {v vc : Value} {last : Int} {l : List Msg} {cs : List Wy} {w w' : World}
end
end Gm
end Go.Proofs.YtepnofklmdofmaaGreatDoor
end

section
namespace Go.Proofs.YtepnofklmdofmaaGreatDoor
open Go.RowKit

namespace Gm
/-- A value as a datum of its own. -/
def heldE (v : Value) : Option (DataW Value × List MemPlace) := some (.held v, [])
/-- x may be a key of type k. -/
def IsKey (k : TypeId) (x : Value) : Prop := ∃ l, keyOf Tryz.prog k x = some l
/-- Block B is a map with keys of type k that reads as f, and has n entries. -/
def MapF (k : TypeId) (w : World) (B : Nat) (f : Value → Option Value) (n : Nat) : Prop :=
  ∃ D : DataW Value, w.ownsMap Tryz.prog k heldE B n D ∧ Maps.size D = n ∧
    ∀ x l, keyOf Tryz.prog k x = some l → Maps.has D l = (f x).isSome ∧ ∀ a, f x = some a → ∀ z, D.atKey l z = .held a
def updF (f : Value → Option Value) (k : Value) (r : Option Value) (x : Value) [Decidable (x = k)] : Option Value := if x = k then r else f x
theorem own_tightF {P : Program} {k : TypeId} {R : Value → Option (DataW Value × List MemPlace)} {w : World} {b n : Nat} {D : DataW Value} (h : w.ownsMap P k R b n D) : w.ownsMap P k R b (Maps.size D) D := by
  obtain ⟨es, clock, hb, F, hs, rfl⟩ := h
  exact ⟨es, clock, hb, F, by simp [Maps.size, length_sorted], rfl⟩
section
variable {k e t : TypeId} {w : World} {B n : Nat} {f : Value → Option Value}
theorem MapF.lt (h : MapF k w B f n) : B < w.heap.size := by
  obtain ⟨D, h1, _⟩ := h
  exact h1.lt
theorem MapF.of_block {w' : World} (h : MapF k w B f n) (hb : w'.heap[B]? = w.heap[B]?) : MapF k w' B f n := by
  obtain ⟨D, ⟨es, clock, h1, h2⟩, h3⟩ := h
  exact ⟨D, ⟨es, clock, hb.trans h1, h2⟩, h3⟩
theorem MapF.below {w' : World} (h : MapF k w B f n) (hb : Below w.heap.size w w') : MapF k w' B f n := h.of_block (hb.block _ h.lt)
theorem MapF.isMap (h : MapF k w B f n) : ∃ es c, w.heap[B]? = some (.map es c) := by
  obtain ⟨D, ⟨es, clock, h1, _⟩, _⟩ := h
  exact ⟨_, _, h1⟩
theorem MapF.made (w : World) (k : TypeId) : MapF k (w.alloc (.map #[] 0)) w.heap.size (fun _ => none) 0 :=
  ⟨.map [], World.ownsMap_made w _ _ _, rfl, fun x l _ => ⟨rfl, fun a h => by cases h⟩⟩
theorem MapF.congr {g : Value → Option Value} (h : MapF k w B f n) (hg : ∀ x, IsKey k x → g x = f x) : MapF k w B g n := by
  obtain ⟨D, h1, h2, h3⟩ := h
  refine ⟨D, h1, h2, fun x l hx => ?_⟩
  rw [hg x ⟨l, hx⟩]
  exact h3 x l hx
/-- v, ok := m[k]. -/
theorem MapF.look (h : MapF k w B f n) (K : Maps.Keyed Tryz.prog k) (ht : Tryz.prog.underlying t = some (.map k e)) {z : Value} (hz : (zeroValue e).run Tryz.prog w = .ok z w) {x : Value} (hx : IsKey k x) :
    (Instr.lookup t (.map (some B)) x true).run Tryz.prog w = .ok (.tuple #[(f x).getD z, .bool (f x).isSome]) w := by
  obtain ⟨D, h1, h2, h3⟩ := h
  obtain ⟨l, hl⟩ := hx
  obtain ⟨hh, ha⟩ := h3 x l hl
  obtain ⟨v, ps, hr, hv⟩ := h1.look_ok K ht hz (zd := .held z) (zp := []) rfl hl
  rw [hr, hh]
  have hv1 : DataW.held v = D.atKey l (.held z) := congrArg Prod.fst (Option.some.inj hv)
  cases hf : f x with
  | none =>
    rw [hf] at hh
    rw [Maps.atKey_of_not_has hh] at hv1
    rw [DataW.held.inj hv1]; rfl
  | some a =>
    rw [ha a hf] at hv1
    rw [DataW.held.inj hv1]; rfl
/-- m[k]. -/
theorem MapF.look1 (h : MapF k w B f n) (K : Maps.Keyed Tryz.prog k) (ht : Tryz.prog.underlying t = some (.map k e)) {z : Value} (hz : (zeroValue e).run Tryz.prog w = .ok z w) {x : Value} (hx : IsKey k x) :
    (Instr.lookup t (.map (some B)) x false).run Tryz.prog w = .ok ((f x).getD z) w := by
  obtain ⟨D, h1, h2, h3⟩ := h
  obtain ⟨l, hl⟩ := hx
  obtain ⟨hh, ha⟩ := h3 x l hl
  obtain ⟨v, ps, hr, hv⟩ := h1.lookup K ht hz (zd := .held z) (zp := []) rfl hl
  rw [hr]
  have hv1 : DataW.held v = D.atKey l (.held z) := congrArg Prod.fst (Option.some.inj hv)
  cases hf : f x with
  | none =>
    rw [hf] at hh
    rw [Maps.atKey_of_not_has hh] at hv1
    rw [DataW.held.inj hv1]; rfl
  | some a =>
    rw [ha a hf] at hv1
    rw [DataW.held.inj hv1]; rfl
/-- m[k] = a. -/
theorem MapF.put (h : MapF k w B f n) (K : Maps.Keyed Tryz.prog k) (ht : Tryz.prog.underlying t = some (.map k e)) (hn : n < maxLen) {x : Value} (hx : IsKey k x) (a : Value) (g : Value → Option Value) (hg : g x = some a) (ho : ∀ y, y ≠ x → g y = f y) :
    ∃ w', (Instr.mapUpdate t (.map (some B)) x a).run Tryz.prog w = .ok () w' ∧ MapF k w' B g (if (f x).isSome then n else n + 1) ∧ w.grownBy w' (some B) := by
  obtain ⟨D, h1, h2, h3⟩ := h
  obtain ⟨l, hl⟩ := hx
  have hT := h1.tidy K
  have hkl := K.key hl
  obtain ⟨w', hr, ho1, hg1⟩ := h1.update K ht hn hl (d := .held a) (ps := []) rfl
  have hsz : Maps.size (D.put l (.held a)) = if (f x).isSome then n else n + 1 := by
    rw [Maps.size_put hT, (h3 x l hl).1, h2]
  refine ⟨w', hr, ⟨_, by rw [← hsz]; exact own_tightF ho1, hsz, fun y ly hy => ?_⟩, hg1⟩
  by_cases e1 : y = x
  · subst e1
    obtain rfl : l = ly := Option.some.inj (hl.symm.trans hy)
    rw [Maps.has_put_same hT.isMap hkl, hg]
    exact ⟨rfl, fun b hb z => by rw [Maps.atKey_put_same hT.isMap hkl]; cases hb; rfl⟩
  · have hne : ly ≠ l := fun e2 => e1 (K.inj hy (e2 ▸ hl))
    rw [Maps.has_put_other hne, ho y e1]
    refine ⟨(h3 y ly hy).1, fun b hb z => ?_⟩
    rw [Maps.atKey_put_other hne]
    exact (h3 y ly hy).2 b hb z
/-- delete(m, k). -/
theorem MapF.del (h : MapF k w B f n) (K : Maps.Keyed Tryz.prog k) (ht : Tryz.prog.underlying t = some (.map k e)) {x : Value} (hx : IsKey k x) (g : Value → Option Value) (hg : g x = none) (ho : ∀ y, y ≠ x → g y = f y) (ty : TypeId) :
    ∃ w', (Builtin.delete_ #[t, k] ty #[.map (some B), x]).run Tryz.prog w = .ok (.tuple #[]) w' ∧ MapF k w' B g (if (f x).isSome then n - 1 else n) ∧ w.grownBy w' (some B) := by
  obtain ⟨D, h1, h2, h3⟩ := h
  obtain ⟨l, hl⟩ := hx
  have hT := h1.tidy K
  obtain ⟨w', hr, ho1, hg1⟩ := h1.drop K ht hl ty
  have hsz : Maps.size (D.del l) = if (f x).isSome then n - 1 else n := by
    have h4 := Maps.size_del (k := l) hT
    rw [(h3 x l hl).1, h2] at h4
    split at h4 <;> rename_i h5
    · rw [if_pos h5]; omega
    · rw [if_neg h5]; omega
  refine ⟨w', hr, ⟨_, by rw [← hsz]; exact own_tightF ho1, hsz, fun y ly hy => ?_⟩, hg1.grown⟩
  by_cases e1 : y = x
  · subst e1
    obtain rfl : l = ly := Option.some.inj (hl.symm.trans hy)
    rw [Maps.has_del_same, hg]
    exact ⟨rfl, fun b hb => by cases hb⟩
  · have hne : ly ≠ l := fun e2 => e1 (K.inj hy (e2 ▸ hl))
    rw [Maps.has_del_other hne, ho y e1]
    refine ⟨(h3 y ly hy).1, fun b hb z => ?_⟩
    rw [Maps.atKey_del_other hne]
    exact (h3 y ly hy).2 b hb z
/-- len(m). -/
theorem MapF.len (h : MapF k w B f n) (ht : Tryz.prog.underlying t = some (.map k e)) (ty : TypeId) : (Builtin.len_ #[t] ty #[.map (some B)]).run Tryz.prog w = .ok (.int .i64 n) w := by
  obtain ⟨D, h1, h2, _⟩ := h
  rw [h1.len ht ty, h2]
end
/-! At the operation. -/
section
variable {P : Program} (w : World) {ops : Array Oper} {rest : List Oper} {o : Oper} {a : Act} {Q : Exit → Act → World → Prop}
theorem gpl_look (hg : o.guard = none) (m x : Operand) (t : TypeId) (ok : Bool) (hop : o.op = Op.lookup t m x ok) (mv xv v : Value) (hm : a.eval m = mv) (hx : a.eval x = xv) (hr : (Instr.lookup t mv xv ok).run P w = .ok v w)
    (hK : wpList P ops Q rest (a.put o.dst v) w) : wpList P ops Q (o :: rest) a w := by
  refine wpList_plain hg fun K' hK' => ?_
  unfold Oper.wp
  simp [execOp, hop, hm, hx, hr, Result.andThen]
  exact hK' _ _ hK
theorem gpl_upd (hg : o.guard = none) (m x y : Operand) (t : TypeId) (hop : o.op = Op.mapUpdate t m x y) (mv xv yv : Value) (hm : a.eval m = mv) (hx : a.eval x = xv) (hy : a.eval y = yv) (w' : World) (hr : (Instr.mapUpdate t mv xv yv).run P w = .ok () w')
    (hK : wpList P ops Q rest (a.put o.dst undef) w') : wpList P ops Q (o :: rest) a w := by
  refine wpList_plain hg fun K' hK' => ?_
  unfold Oper.wp
  simp [execOp, hop, hm, hx, hy, hr, Result.andThen]
  exact hK' _ _ hK
theorem gpl_del (hg : o.guard = none) (m x : Operand) (t k : TypeId) (hop : o.op = Op.call { callee := Callee.builtin Builtin.delete, args := #[m, x], argTypes := #[t, k] }) (mv xv : Value) (hm : a.eval m = mv) (hx : a.eval x = xv) (w' : World)
    (hr : (Builtin.delete_ #[t, k] o.type #[mv, xv]).run P w = .ok (.tuple #[]) w') (hK : wpList P ops Q rest (a.put o.dst (.tuple #[])) w') : wpList P ops Q (o :: rest) a w := by
  refine wpList_plain hg fun K' hK' => ?_
  unfold Oper.wp
  simp [execOp, hop, resolve, invoke, builtin, hm, hx, hr, Result.andThen]
  exact hK' _ _ hK
theorem gpl_len (hg : o.guard = none) (m : Operand) (t : TypeId) (hop : o.op = Op.call { callee := Callee.builtin Builtin.len, args := #[m], argTypes := #[t] }) (mv v : Value) (hm : a.eval m = mv)
    (hr : (Builtin.len_ #[t] o.type #[mv]).run P w = .ok v w) (hK : wpList P ops Q rest (a.put o.dst v) w) : wpList P ops Q (o :: rest) a w := by
  refine wpList_plain hg fun K' hK' => ?_
  unfold Oper.wp
  simp [execOp, hop, resolve, invoke, builtin, hm, hr, Result.andThen]
  exact hK' _ _ hK
end
theorem key8 : Maps.Keyed Tryz.prog 5 := Maps.int_keyed Tryz.underlying5
theorem isKey8 {a : Int} (h0 : 0 ≤ a) (h1 : a < 256) : IsKey 5 (.int .u8 a) :=
  ⟨_, Maps.keyOf_int_mk Tryz.underlying5 (by simp [Lit.wf, IntKind.min, IntKind.max, IntKind.bits, IntKind.signed]; omega)⟩
end Gm
end Go.Proofs.YtepnofklmdofmaaGreatDoor
end
