/-
  A great program built up (layer 10): appends, a row of bytes made and turned into a text.
-/
import Derived.Test.YtkigoidklonhcaaGreatDoorLowCrE
namespace Go.Proofs.YtkigoidklonhcaaGreatDoor
open Go.RowKit

namespace Cd
/-- append(ops, o), at a region's list. -/
theorem opush {ops : Array Oper} {rest : List Oper} {oo : Oper} {a : Act} {w : World} {Q : Exit → Act → World → Prop} {T1 : TypeId} {base n b : Nat} {v : Value} {xs : List Value}
    (hrow : w.ownsRow base 44 5 v n xs) (hgd : oo.guard = none) (s x : Operand)
    (hop : oo.op = .call { callee := .builtin .append, args := #[s, x], argTypes := #[39, 39] }) (hs : a.eval s = v) (hx : a.eval x = .slice (some ⟨b, 0, none⟩) 1 1) (o : OpV) (hb : w.heap.size = b) (hn : n ≤ 100000) (hbase : base ≤ w.heap.size)
    (h : ∀ g cap w', w'.ownsRow base 44 5 (.slice (some ⟨g, 0, none⟩) (n + 1) cap) (n + 1) (xs ++ o.cells) → (w.alloc (.cells #[.int .u8 (o.k : Int), .int .i64 o.d, .int .i64 o.a, .int .i64 o.b, .int .i64 o.n] T1)).grownBy w' v.ownBlock → wpList Tryz.prog ops Q rest (a.put oo.dst (.slice (some ⟨g, 0, none⟩) (n + 1) cap)) w') :
    wpList Tryz.prog ops Q (oo :: rest) a (w.alloc (.cells #[.int .u8 (o.k : Int), .int .i64 o.d, .int .i64 o.a, .int .i64 o.b, .int .i64 o.n] T1)) := by
  obtain ⟨i, hi, hz⟩ := Option.map_eq_some_iff.1 opInfo
  simp only [Prod.mk.injEq] at hz
  obtain ⟨z1, z2, z3⟩ := hz
  subst hb
  refine wpList_append_lies _ hgd s x 39 hop base 44 i (.agg #[.int .u8 0, .int .i64 0, .int .i64 0, .int .i64 0, .int .i64 0]) 5 40 Tryz.underlying39 hi z1 z2 z3 rfl (by decide) v n xs hs (hrow.alloc _) ⟨w.heap.size, 0, none⟩ 1 1 o.cells hx rfl
    (fun j u hu => World.news_of_block (heap_alloc_new w (.cells #[.int .u8 (o.k : Int), .int .i64 o.d, .int .i64 o.a, .int .i64 o.b, .int .i64 o.n] T1)) j u hu) (by unfold OpV.cells; simp [Value.oneCell']) (by decide) (by unfold maxLen; omega) (by omega) (by simp; omega) (w.heap.size + 1) (by simp) ?_
  intro g cap w' h1 h2 _ _
  exact h g cap w' h1 h2
/-- A program that is being built: its block P; the rows lie from b0 on. -/
structure LSt (w0 : World) (P b0 i : Nat) (ms : List Fm) (A : Option Addr) (c : Nat) (w : World) : Prop where
  p : PBlk w P (.slice A i c)
  bel : Below w0.heap.size w0 w
  rows : Rows w b0 A c ms
  len : ms.length = i
  rng : ∀ m ∈ ms, m.f.Rng
  lo : b0 ≤ w.heap.size
  ne : w0.heap.size ≤ P ∧ P < b0
/-- A text of a one, and zeros. -/
def oneZ (n : Nat) : ByteArray := ⟨(1 :: List.replicate (n - 1) 0).toArray⟩
theorem oneZ_dec {n : Nat} (h : 3 ≤ n) : (dec (oneZ n)).2 = if 16384 < n then 4 else 8 := by
  have hs : (oneZ n).size = n := by
    show (1 :: List.replicate (n - 1) (0 : UInt8)).toArray.size = n
    simp
    omega
  by_cases hb : 16384 < n
  · rw [if_pos hb]
    unfold dec
    rw [if_pos (by rw [hs]; exact hb)]
  · rw [if_neg hb]
    have hpk : pok [] = true := by decide
    have e : (1 :: List.replicate (n - 1) (0 : UInt8)) = pbs [] ++ List.replicate (n - 2) 0 := by
      have e1 : pbs [] = [1, 0] := by decide +kernel
      rw [e1]
      obtain ⟨m, rfl⟩ : ∃ m, n = m + 3 := ⟨n - 3, by omega⟩
      show 1 :: List.replicate (m + 2) 0 = 1 :: 0 :: List.replicate (m + 1) 0
      rw [List.replicate_succ]
    have hl : (pbs [] ++ List.replicate (n - 2) (0 : UInt8)).length ≤ 16384 := by
      rw [← e]
      simp
      omega
    have := dec_left hpk (fun f hf => by simp at hf) (List.replicate (n - 2) 0) hl
    unfold oneZ
    rw [e, this, if_neg (by
      intro h0
      have := congrArg List.length h0
      rw [List.length_replicate] at this
      simp at this
      omega)]
theorem conv_one {n B : Nat} {w : World} (hn : 0 < n) (h : w.heap[B]? = some (.cells (madeCells #[.int .u8 0] n) 5 (0, 0))) :
    (convert 86 9 (.slice (some ⟨B, 0, none⟩) n n)).run Tryz.prog (w.setCell ⟨B, 0, none⟩ (.int .u8 1)) = .ok (.string (oneZ n)) (w.setCell ⟨B, 0, none⟩ (.int .u8 1)) := by
  have hr := run_convert_bytes_back (P := Tryz.prog) (w.setCell ⟨B, 0, none⟩ (.int .u8 1)) 86 9 5 ⟨B, 0, none⟩ n (1 :: List.replicate (n - 1) 0) Tryz.underlying86 Tryz.underlying5 Tryz.underlying9 (fun j hj => by
    have hj' : j < n := by simp at hj; omega
    rw [Addr.add_mid, cell_of_row _ _ _ _ _ _ (heap_setCell_same w B 0 _ _ (.int .u8 1) h)]
    cases j with
    | zero =>
      rw [Array.getElem?_setIfInBounds]
      simp [size_madeCells, hn]
    | succ j =>
      rw [Array.getElem?_setIfInBounds, if_neg (by omega), Array.getElem?_eq_getElem (by simp [size_madeCells]; omega)]
      simp [madeCells, Nat.mod_one])
  have e : (1 :: List.replicate (n - 1) (0 : UInt8)).length = n := by simp; omega
  rw [e] at hr
  exact hr
end Cd
end Go.Proofs.YtkigoidklonhcaaGreatDoor
