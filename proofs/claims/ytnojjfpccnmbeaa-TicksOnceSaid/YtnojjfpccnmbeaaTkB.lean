/-
  The document's timers: Find, without.
-/
import Derived.Test.YtnojjfpccnmbeaaTkA
import Derived.RangeFuncBox
import Derived.Deep.AppendLies
import Derived.ProofKit
namespace Go.Proofs.Ytnojjfpccnmbeaa
open Go.RowKit

namespace Tk
/-- What is off some blocks stays. -/
structure Mvt (off off' : Nat → Prop) (w w' : World) : Prop where
  os : w'.os = w.os
  tape : w'.tape = w.tape
  output : w'.output = w.output
  size : w.heap.size ≤ w'.heap.size
  block : ∀ i, i < w.heap.size → off i → w'.heap[i]? = w.heap[i]?
  keep : ∀ i, i < w.heap.size → off i → off' i
theorem Mvt.refl (off : Nat → Prop) (w : World) : Mvt off off w w := ⟨rfl, rfl, rfl, Nat.le_refl _, fun _ _ _ => rfl, fun _ _ h => h⟩
theorem Mvt.trans {off off' off'' : Nat → Prop} {a b c : World} (h : Mvt off off' a b) (k : Mvt off' off'' b c) : Mvt off off'' a c :=
  ⟨k.os.trans h.os, k.tape.trans h.tape, k.output.trans h.output, Nat.le_trans h.size k.size,
    fun i hi ho => (k.block i (Nat.lt_of_lt_of_le hi h.size) (h.keep i hi ho)).trans (h.block i hi ho), fun i hi ho => k.keep i (Nat.lt_of_lt_of_le hi h.size) (h.keep i hi ho)⟩
theorem Mvt.of_below {off : Nat → Prop} {w w' : World} (hb : Below w.heap.size w w') : Mvt off off w w' := ⟨hb.os, hb.tape, hb.output, hb.size, fun i hi _ => hb.block i hi, fun _ _ h => h⟩
/-- The document's timers in memory: the object at R, its list v. -/
structure DTm (R : Nat) (v : Value) (c : Int) (l : List Tm) (w : World) : Prop where
  obj : w.heap[R]? = some (.cells #[.int .i64 c, v] 30 (0, 0))
  row : w.ownsRow 0 42 2 v l.length (tks l)
  ne : v.ownBlock ≠ some R
def DOff (R : Nat) (v : Value) (i : Nat) : Prop := i ≠ R ∧ some i ≠ v.ownBlock
theorem ltHeap {w : World} {b : Nat} {o : Obj} (h : w.heap[b]? = some o) : b < w.heap.size := by
  rcases Nat.lt_or_ge b w.heap.size with h' | h'
  · exact h'
  · rw [Array.getElem?_eq_none h'] at h; cases h
theorem ownsKeep {w w' : World} {base n : Nat} {v : Value} {T : TypeId} {xs : List Value} (h : w.ownsRow base T 2 v n xs) (hk : ∀ i, v.ownBlock = some i → w'.heap[i]? = w.heap[i]?) : w'.ownsRow base T 2 v n xs := by
  obtain ⟨hl, h0 | ⟨g, cap, cur, rfl, hg, hh, r⟩⟩ := h
  · exact ⟨hl, .inl h0⟩
  · exact ⟨hl, .inr ⟨g, cap, cur, rfl, hg, (hk g rfl).trans hh, r⟩⟩
theorem ownsBase {w : World} {base n : Nat} {v : Value} {T : TypeId} {xs : List Value} (h : w.ownsRow base T 2 v n xs) : w.ownsRow 0 T 2 v n xs := by
  obtain ⟨hl, h0 | ⟨g, cap, cur, rfl, hg, r⟩⟩ := h
  · exact ⟨hl, .inl h0⟩
  · exact ⟨hl, .inr ⟨g, cap, cur, rfl, Nat.zero_le _, r⟩⟩
section
variable {R : Nat} {v : Value} {c : Int} {l : List Tm} {w w' : World}
theorem DTm.below (h : DTm R v c l w) (hb : Below w.heap.size w w') : DTm R v c l w' :=
  ⟨(hb.block _ (ltHeap h.obj)).trans h.obj, ownsKeep h.row (fun i hi => hb.block i (h.row.lt i hi).2), h.ne⟩
theorem DTm.form (h : DTm R v c l w) : ∃ A n, v = .slice A l.length n := by
  rcases h.row.2 with ⟨e, h0⟩ | ⟨g, cap, cur, rfl, _⟩
  · exact ⟨none, 0, by rw [e, h0]⟩
  · exact ⟨_, _, rfl⟩
theorem DTm.c0 (h : DTm R v c l w) : w.cell? ⟨R, 0, none⟩ = some (.int .i64 c) := cell_of_row _ _ 0 _ _ _ h.obj
theorem DTm.c1 (h : DTm R v c l w) : w.cell? ⟨R, 1, none⟩ = some v := cell_of_row _ _ 1 _ _ _ h.obj
theorem DOff.fresh (h : DTm R v c l w) {i : Nat} (hi : w.heap.size ≤ i) : DOff R v i :=
  ⟨fun e => by have := ltHeap h.obj; omega, fun e => by have := (h.row.lt i e.symm).2; omega⟩
end
/-- Which of a list a key's timer is. -/
def Fnd (k : ByteArray) (l : List Tm) (r : Int) : Prop := (r = -1 ∧ ∀ x ∈ l, x.1 ≠ k) ∨ ∃ (i : Nat) (h : i < l.length), r = (i : Int) ∧ (l[i]).1 = k
theorem tm_info : (Try.prog.info? 42).map (fun i => (i.zero, i.size, i.bytes)) = some (some (.agg #[.string ⟨#[]⟩, .int .i64 0]), 2, 24) := by kernel_rfl
theorem cellTwoTm (W : World) (x y : Value) (T : TypeId) : ∀ j u, [x, y][j]? = some u → (W.alloc (.cells #[x, y] T)).cell? ((⟨W.heap.size, 0, none⟩ : Addr).add j) = some u := fun j u hu => by
  have e : (⟨W.heap.size, 0, none⟩ : Addr).add j = ⟨W.heap.size, j, none⟩ := by unfold Addr.add; split <;> simp_all
  rw [e, World.cell?_alloc_at _ _ _ _ rfl, ← hu]
  simp
theorem erase_snoc {l : List Tm} {i k : Nat} (h : k < l.length) : (l.take (k + 1)).eraseIdx i = if k = i then (l.take k).eraseIdx i else (l.take k).eraseIdx i ++ [l[k]] := by
  rw [List.take_succ_eq_append_getElem h]
  have hl : (l.take k).length = k := by rw [List.length_take]; omega
  split
  · rename_i e
    subst e
    rw [List.eraseIdx_append_of_length_le (by omega), List.eraseIdx_of_length_le (by omega : (l.take k).length ≤ k), hl]
    simp
  · rename_i e
    by_cases hik : i < k
    · rw [List.eraseIdx_append_of_lt_length (by omega)]
    · rw [List.eraseIdx_append_of_length_le (by omega), List.eraseIdx_of_length_le (by omega : (l.take k).length ≤ i), hl]
      rw [List.eraseIdx_of_length_le (by simp; omega)]
end Tk

set_option maxRecDepth 20000 in
set_option maxHeartbeats 1000000 in
theorem rfind {R : Nat} {v : Value} {c : Int} {l : List Tk.Tm} {w : World} (h : Tk.DTm R v c l w) (hl : l.length ≤ 100000) (k : ByteArray) :
    Calls Try.prog 28 #[.pointer (some ⟨R, 0, none⟩), .string k] w fun e w' => (∃ r, e = .returned (.int .i64 r) ∧ Tk.Fnd k l r) ∧ w = w' := by
  obtain ⟨A, n, rfl⟩ := h.form
  have c1 := h.c1
  have HLI := Lib.hid (Tk.own_lies h.row)
  clear h
  go_enter Try.func28, Try.ntmps28
  go_wp2_with fail
  go_loopw [5] (fun i wr => ∃ j : Nat, j ≤ l.length ∧ i = .int .i64 j ∧ Hid (∀ x ∈ l.take j, x.1 ≠ k) ∧ wr = w) (fun i _ => l.length - (intOf i).toNat)
  case atStart => exact ⟨0, Nat.zero_le _, rfl, fun x hx => by simp at hx, rfl⟩
  case round =>
    obtain ⟨j, hj, rfl, HE, rfl⟩ := hrel
    by_cases hlt : j < l.length
    · obtain ⟨p, rfl, hpb, hp0, hp1⟩ := Tk.at2 HLI.out hlt
      have k0 : (0 : Int) ≤ (j : Int) := by omega
      have k1 : (j : Int) < l.length := by omega
      have HX : Hid (∃ h : j < l.length, l[j] = l[j]) := ⟨hlt, rfl⟩
      have HS : Hid ((l[j]).1 ≠ k → ∀ x ∈ l.take (j + 1), x.1 ≠ k) := fun hne x hx => by
        rw [List.take_succ_eq_append_getElem hlt] at hx
        rcases List.mem_append.1 hx with hx | hx
        · exact HE.out x hx
        · rw [List.mem_singleton.1 hx]; exact hne
      have HT : Hid ((l[j]).1 = k → Tk.Fnd k l (j : Int)) := fun e => .inr ⟨j, hlt, rfl, e⟩
      generalize l[j] = x at hp0 hp1 HS HT
      obtain ⟨x1, x2⟩ := x
      simp only [] at hp0 hp1
      clear HX
      by_cases e : x1 = k
      · subst e
        have HT2 := Lib.hid (HT.out rfl)
        clear HS HT
        go_wp2_with fail
        go_ret
        exact ⟨⟨_, rfl, HT2.out⟩, rfl⟩
      · have e2 : (x1.toList == k.toList) = false := by
          rw [beq_eq_false_iff_ne]
          intro h
          rw [Lib.toList_data, Lib.toList_data] at h
          exact e (ByteArray.ext (Array.ext' h))
        have HS2 := Lib.hid (HS.out e)
        clear HS HT e
        go_wp2_with fail
        go_roundw
        case rel => exact ⟨j + 1, by omega, by go_num, HS2.out, trivial⟩
        case measure => simp [intOf]; omega
    · have k1 : ¬ ((j : Int) < l.length) := by omega
      have HN : Hid (∀ x ∈ l, x.1 ≠ k) := by
        have := HE.out
        rwa [List.take_of_length_le (by omega)] at this
      go_wp2_with fail
      go_ret
      exact ⟨⟨_, rfl, .inl ⟨rfl, HN.out⟩⟩, rfl⟩

set_option maxRecDepth 20000 in
set_option maxHeartbeats 2000000 in
theorem rwithout {R : Nat} {v : Value} {c : Int} {l : List Tk.Tm} {w : World} (h : Tk.DTm R v c l w) (hl : l.length ≤ 100000) (a : Int) (i : Nat) (hi : a = (i : Int) ∨ (a = -1 ∧ l.length ≤ i)) :
    Calls Try.prog 29 #[.pointer (some ⟨R, 0, none⟩), .int .i64 a] w fun e w' => e = .returned (.tuple #[]) ∧ ∃ v', Tk.DTm R v' c (l.eraseIdx i) w' ∧ Tk.Mvt (Tk.DOff R v) (Tk.DOff R v') w w' ∧ w'.ownsRow w.heap.size 42 2 v' (l.eraseIdx i).length (Tk.tks (l.eraseIdx i)) := by
  obtain ⟨A, n, rfl⟩ := h.form
  obtain ⟨i0, hi0, hz0, hz1, hz2⟩ := info_parts Tk.tm_info
  have hRl := Tk.ltHeap h.obj
  have HLI := Lib.hid (Tk.own_lies h.row)
  have HC : Hid (∀ wx, Below w.heap.size w wx → wx.cell? ⟨R, 1, none⟩ = some (.slice A l.length n)) := fun wx hb => (h.below hb).c1
  have H := Lib.hid h
  clear h
  go_enter Try.func29, Try.ntmps29
  go_wp2_with fail
  go_loopw [4, 5] (fun O t wr => ∃ (A2 : Option Addr) (c2 j : Nat) (pre : List Tk.Tm), O = .slice A2 pre.length c2 ∧ t = .int .i64 j ∧ j ≤ l.length ∧ pre.length ≤ j ∧ Hid (pre = (l.take j).eraseIdx i) ∧ Hid (wr.ownsRow w.heap.size 42 2 (.slice A2 pre.length c2) pre.length (Tk.tks pre)) ∧ Hid (Below w.heap.size w wr)) (fun _ t _ => l.length - (intOf t).toNat)
  case atStart => exact ⟨none, 0, 0, [], rfl, rfl, Nat.zero_le _, Nat.le_refl _, by show _ = _; simp, World.ownsRow_nil _ _ _ _, Below.refl _ _⟩
  case round =>
    obtain ⟨A2, c2, j, pre, rfl, rfl, hj, hpl, HE, HROW, HB⟩ := hrel
    have hc1 := HC.out _ HB.out
    by_cases hlt : j < l.length
    · have k0 : (0 : Int) ≤ (j : Int) := by omega
      have k1 : (j : Int) < l.length := by omega
      by_cases hji : j = i
      · have ha : (((j : Int)) != a) = false := by
          rcases hi with hi | ⟨_, hi⟩
          · rw [hi, hji]; simp
          · omega
        have HE2 : Hid (pre = (l.take (j + 1)).eraseIdx i) := by show _ = _; rw [Tk.erase_snoc hlt, if_pos hji]; exact HE.out
        clear hji
        go_wp2_with fail
        go_roundw
        case rel => exact ⟨A2, c2, j + 1, pre, rfl, by go_num, by omega, by omega, HE2.out, HROW.out, HB.out⟩
        case measure => simp [intOf]; omega
      · have ha : (((j : Int)) != a) = true := by
          rw [bne_iff_ne]
          rcases hi with hi | ⟨hi, _⟩
          · rw [hi]; omega
          · rw [hi]; omega
        have HE2 : Hid (pre ++ [l[j]] = (l.take (j + 1)).eraseIdx i) := by show _ = _; rw [Tk.erase_snoc hlt, if_neg hji, ← HE.out]
        obtain ⟨p, rfl, hpb, hp0, hp1⟩ := Tk.at2 (HLI.out.below HB.out) hlt
        generalize l[j] = x at hp0 hp1 HE2
        obtain ⟨x1, x2⟩ := x
        simp only [] at hp0 hp1
        have hws := HB.out.size
        clear hji
        go_wp2_with (at_builtin; refine wpList_append_own _ rfl _ _ 28 rfl w.heap.size 42 i0 (.agg #[.string ⟨#[]⟩, .int .i64 0]) 2 24 Try.underlying28 hi0 hz0 hz1 hz2 rfl (by decide) _ _ _ rfl (HROW.out.alloc _) ⟨wr.heap.size, 0, none⟩ 1 1 [.string x1, .int .i64 x2] rfl rfl (Tk.cellTwoTm wr (.string x1) (.int .i64 x2) 42) (by simp [Value.oneCell']) (by unfold maxLen; omega) (by omega) (by simp; omega) ?_)
        intro v' w2 hown' hgrow _
        obtain ⟨g', cap', rfl⟩ := ownsRow_succ hown'
        have hlt2 := fun k => (HROW.out.lt k)
        have hb2 : Below w.heap.size w w2 := (HB.out.alloc (by omega) _).grown hgrow (by simp; omega) (fun k hk => (hlt2 k hk).1)
        have HB2 := Lib.hid hb2
        have hr2 : w2.ownsRow w.heap.size 42 2 (.slice (some ⟨g', 0, none⟩) (pre ++ [(x1, x2)]).length cap') (pre ++ [(x1, x2)]).length (Tk.tks (pre ++ [(x1, x2)])) := by
          rw [Tk.tks_snoc, List.length_append]
          exact hown'
        have HR2 := Lib.hid hr2
        clear hown' hgrow hlt2 hb2 hr2
        go_wp2_with fail
        go_roundw
        case rel => exact ⟨some ⟨g', 0, none⟩, cap', j + 1, pre ++ [(x1, x2)], by simp, by go_num, by omega, by simp; omega, HE2.out, HR2.out, HB2.out⟩
        case measure => simp [intOf]; omega
    · have k1 : ¬ ((j : Int) < l.length) := by omega
      have HP : Hid (pre = l.eraseIdx i) := by
        have := HE.out
        rwa [List.take_of_length_le (by omega)] at this
      have hR := (H.out.below HB.out)
      have f1 := frozen_of_row _ _ 1 _ _ hR.obj
      have HRX := Lib.hid hR
      clear hR
      go_wp2_with fail
      go_end0
      have hkeep : ∀ g, (Value.slice A2 pre.length c2).ownBlock = some g → (wr.setCell ⟨R, 1, none⟩ (.slice A2 pre.length c2)).heap[g]? = wr.heap[g]? := fun g hg => Below.heap_setCell _ _ _ _ (by intro e; have h1 := (HROW.out.lt g hg).1; have h2 : g = R := e; omega)
      refine ⟨rfl, .slice A2 pre.length c2, ?_, ?_, by rw [← HP.out]; exact Tk.ownsKeep HROW.out hkeep⟩
      · have hrow := HROW.out
        have hneR : ∀ g, (Value.slice A2 pre.length c2).ownBlock = some g → g ≠ R := fun g hg => by have := (hrow.lt g hg).1; omega
        rw [← HP.out]
        refine ⟨by rw [heap_setCell_same _ _ _ _ _ _ HRX.out.obj]; rfl, Tk.ownsKeep (Tk.ownsBase hrow) (fun g hg => ?_), fun e => hneR R e rfl⟩
        exact Below.heap_setCell _ _ _ _ (by intro e; exact hneR g hg e)
      · refine ⟨HB.out.os, HB.out.tape, HB.out.output, Nat.le_trans HB.out.size (by simp [World.setCell]), fun g hg ho => ?_, fun g hg ho => ?_⟩
        · rw [Below.heap_setCell _ _ _ _ (by intro e; exact ho.1 e)]
          exact HB.out.block g hg
        · exact ⟨ho.1, fun e => by have := (HROW.out.lt g e.symm).1; omega⟩
end Go.Proofs.Ytnojjfpccnmbeaa
