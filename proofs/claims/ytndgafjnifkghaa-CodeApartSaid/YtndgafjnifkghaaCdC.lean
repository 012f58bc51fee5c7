/-
  Contracts of code.registers (where an op has its registers) and bare (an op without its parts).
-/
import Derived.Test.YtndgafjnifkghaaCdB
import Derived.OwnWalk
import Derived.Maps.AppendAt
namespace Go.Proofs.Ytndgafjnifkghaa
open Go.RowKit

namespace Cd
theorem ltH {w : World} {b : Nat} {o : Obj} (h : w.heap[b]? = some o) : b < w.heap.size := by
  rcases Nat.lt_or_ge b w.heap.size with h' | h'
  · exact h'
  · rw [Array.getElem?_eq_none h'] at h; cases h
theorem rowKeep {w w' : World} {base n m : Nat} {v : Value} {T : TypeId} {xs : List Value} (h : w.ownsRow base T m v n xs) (hk : ∀ i, v.ownBlock = some i → w'.heap[i]? = w.heap[i]?) : w'.ownsRow base T m v n xs := by
  obtain ⟨hl, h0 | ⟨g, cap, cur, rfl, hg, hh, r⟩⟩ := h
  · exact ⟨hl, .inl h0⟩
  · exact ⟨hl, .inr ⟨g, cap, cur, rfl, hg, (hk g rfl).trans hh, r⟩⟩
theorem rowForm {w : World} {base n m : Nat} {v : Value} {T : TypeId} {xs : List Value} (h : w.ownsRow base T m v n xs) : ∃ A c, v = .slice A n c := by
  rcases h.2 with ⟨e, h0⟩ | ⟨g, cap, cur, e, _⟩
  · exact ⟨none, 0, by rw [e, h0]⟩
  · exact ⟨_, _, e⟩
theorem rowBase {w : World} {base b2 n m : Nat} {v : Value} {T : TypeId} {xs : List Value} (h : w.ownsRow base T m v n xs) (hb : b2 ≤ base) : w.ownsRow b2 T m v n xs := by
  obtain ⟨hl, h0 | ⟨g, cap, cur, e, hg, r⟩⟩ := h
  · exact ⟨hl, .inl h0⟩
  · exact ⟨hl, .inr ⟨g, cap, cur, e, Nat.le_trans hb hg, r⟩⟩
theorem rowLies {w : World} {base n c m : Nat} {A : Option Addr} {T : TypeId} {l : List Value} (h : w.ownsRow base T m (.slice A n c) n l) : Lies w w.heap.size A l := fun hp => by
  rcases h.2 with ⟨e, h0⟩ | ⟨g, cap, cur, e1, hg, hh, _⟩
  · have := h.1
    rw [h0] at this
    omega
  · obtain rfl : A = some ⟨g, 0, none⟩ := by injection e1
    exact ⟨⟨g, 0, none⟩, rfl, (h.lt g rfl).2, fun j u hu => h.cells (g := g) rfl j u hu⟩

/-! ### Where an op's registers are -/
def ids (d a b : Bool) : List Nat := (if d then [1] else []) ++ (if a then [2] else []) ++ (if b then [3] else [])
theorem ids_mem {d a b : Bool} {i : Nat} (h : i ∈ ids d a b) : i = 1 ∨ i = 2 ∨ i = 3 := by
  cases d <;> cases a <;> cases b <;> simp [ids] at h <;> omega
def OpV.getI (o : OpV) (i : Nat) : Int := if i = 1 then o.d else if i = 2 then o.a else o.b
def OpV.setI (o : OpV) (i : Nat) (x : Int) : OpV := if i = 1 then ⟨o.k, x, o.a, o.b, o.n⟩ else if i = 2 then ⟨o.k, o.d, x, o.b, o.n⟩ else ⟨o.k, o.d, o.a, x, o.n⟩
def ptrs (B : Nat) (l : List Nat) : List Value := l.map fun i => Value.pointer (some ⟨B, i, none⟩)
theorem ptrs_at {B : Nat} {l : List Nat} {k : Nat} (h : k < l.length) : (ptrs B l)[k]? = some (.pointer (some ⟨B, l[k], none⟩)) := by
  unfold ptrs
  rw [List.getElem?_map, List.getElem?_eq_getElem h]
  rfl
/-- A row of pointers that the call itself makes. -/
structure RS (w0 : World) (v : Value) (n : Nat) (xs : List Value) (w : World) : Prop where
  row : w.ownsRow w0.heap.size 112 1 v n xs
  bel : Below w0.heap.size w0 w
theorem ptr_info : (Try.prog.info? 112).map (fun i => (i.zero, i.size, i.bytes)) = some (some (.pointer none), 1, 8) := by kernel_rfl
theorem at_app {P : Program} {w : World} {ops : Array Oper} {rest : List Oper} {o : Oper} {a : Act} {Q : Exit → Act → World → Prop} {s x : Operand} {t : TypeId} (_ : o.op = .call { callee := .builtin .append, args := #[s, x], argTypes := #[t, t] }) (h : wpList P ops Q (o :: rest) a w) : wpList P ops Q (o :: rest) a w := h
theorem rpush {w0 w : World} {v : Value} {n : Nat} {xs : List Value} {T1 : TypeId} (h : RS w0 v n xs w) {ops : Array Oper} {rest : List Oper} {o : Oper} {a : Act} {Q : Exit → Act → World → Prop} (hg : o.guard = none) (s x : Operand)
    (hop : o.op = .call { callee := .builtin .append, args := #[s, x], argTypes := #[109, 109] }) (hs : a.eval s = v) (b : Nat) (hx : a.eval x = .slice (some ⟨b, 0, none⟩) 1 1) (p : Value) (hb : w.heap.size = b) (hp : p.oneCell' = true) (hn : n ≤ 100)
    (hK : ∀ v' w', RS w0 v' (n + 1) (xs ++ [p]) w' → wpList Try.prog ops Q rest (a.put o.dst v') w') : wpList Try.prog ops Q (o :: rest) a (w.alloc (.cells #[p] T1)) := by
  obtain ⟨i, hi, hz⟩ := Option.map_eq_some_iff.1 ptr_info
  simp only [Prod.mk.injEq] at hz
  obtain ⟨z1, z2, z3⟩ := hz
  subst hb
  refine wpList_append_own _ hg s x 109 hop w0.heap.size 112 i (.pointer none) 1 8 Try.underlying109 hi z1 z2 z3 rfl (by decide) v n xs hs (h.row.alloc _) ⟨w.heap.size, 0, none⟩ 1 1 [p] hx rfl (cell_one_new _ _ _) (by simpa using hp) (by unfold maxLen; omega) (by omega) (by have := h.bel.size; simp; omega) ?_
  intro v' w' hown hgr _
  exact hK v' w' ⟨hown, (h.bel.alloc h.bel.size _).grown hgr (by have := h.bel.size; simp; omega) (fun k hk => (h.row.lt k hk).1)⟩
end Cd

set_option maxHeartbeats 200000 in
set_option maxRecDepth 20000 in
theorem cregs (d a b n : Bool) (B : Nat) (w : World) :
    Calls Try.prog 72 #[.int .u8 (Cd.pb d a b n : Int), .pointer (some ⟨B, 0, none⟩)] w fun e w' => ∃ v, e = .returned v ∧ Cd.RS w v (Cd.ids d a b).length (Cd.ptrs B (Cd.ids d a b)) w' := by
  have HS : Hid (Cd.RS w (.slice none 0 0) 0 [] w) := ⟨⟨rfl, .inl ⟨rfl, rfl⟩⟩, Below.refl _ _⟩
  cases d <;> cases a <;> cases b
  all_goals
    go_enter Try.func72, Try.ntmps72
    go_wp2_with (first | (go_at_call 73; (first | with_reducible refine (chasD _ _ _ _ _).mono ?_ | with_reducible refine (chasA _ _ _ _ _).mono ?_ | with_reducible refine (chasB _ _ _ _ _).mono ?_); rintro e w' ⟨rfl, rfl⟩) | (refine Cd.at_app rfl ?_; refine Cd.rpush HS.out rfl _ _ rfl rfl _ rfl _ (by first | with_reducible rfl | simp) (by rfl) (by omega) ?_; intro v1 w1 hs1; have HS := Lib.hid hs1; clear hs1))
    go_ret
    exact ⟨_, rfl, HS.out⟩
end Go.Proofs.Ytndgafjnifkghaa
