/-
  Contracts of sector's put and Write.
-/
import Derived.Test.YtmoifihgomjbcaaSecB
namespace Go.Proofs.Ytmoifihgomjbcaa
open Go.RowKit
attribute [local go_sem ↓] Go.wp_at_zero Go.wp_at_succ

/-! ### Rows of cells that are written -/
theorem Sec.spl_cons (cur : List Value) (o : Nat) (v : Value) (r : List Value) (h : o + (r.length + 1) ≤ cur.length) : Sec.spl (cur.set o v) (o + 1) r = Sec.spl cur o (v :: r) := by
  unfold Sec.spl
  have e1 : (cur.set o v).take (o + 1) = cur.take o ++ [v] := by
    rw [List.take_succ_eq_append_getElem (by simp; omega)]
    simp [List.take_set_of_le]
  have e2 : (cur.set o v).drop (o + 1 + r.length) = cur.drop (o + (v :: r).length) := by
    rw [List.drop_set_of_lt (by omega)]
    congr 1
    simp only [List.length_cons]
    omega
  rw [e1, e2]
  simp
theorem Sec.heap_setCells (b : Nat) (t : TypeId) : ∀ (vs : List Value) (o : Nat) (w : World) (cur : List Value), w.heap[b]? = some (.cells cur.toArray t (0, 0)) → o + vs.length ≤ cur.length →
    (w.setCells b o vs).heap[b]? = some (.cells (Sec.spl cur o vs).toArray t (0, 0))
  | [], o, w, cur, h, _ => by rw [Sec.spl_nil]; exact h
  | v :: r, o, w, cur, h, hl => by
    simp only [List.length_cons] at hl
    rw [World.setCells, Sec.heap_setCells b t r (o + 1) _ (cur.set o v) (by rw [heap_setCell_same w b o _ t v h]; simp) (by simp; omega), Sec.spl_cons _ _ _ _ (by omega)]
theorem Sec.grown_setCells (b : Nat) : ∀ (vs : List Value) (o : Nat) (w : World), w.grownBy (w.setCells b o vs) (some b)
  | [], _, _ => ⟨rfl, rfl, rfl, Nat.le_refl _, fun _ _ _ => rfl⟩
  | v :: r, o, w => Sec.grown_trans (Sec.grown_set w b o v) (Sec.grown_setCells b r (o + 1) _)

namespace Sec
variable {D : Bl} {s : St} {w w' : World}
theorem Moves.of_grown {row : Option Nat} (hg : w.grownBy w' row) (hr : ∀ i, D.off i → some i ≠ row) : Moves D D w w' :=
  ⟨hg.os, hg.tape, hg.output, hg.size, fun i hi ho => hg.block i hi (hr i ho), rfl, rfl, rfl, rfl, fun _ _ h => h⟩
theorem At.now_set (h : At D s w) (hg : w.grownBy w' (some D.m)) (x : List UInt8) (hx : w'.heap[D.m]? = some (.cells (cel x).toArray 57 (0, 0))) :
    At D { s with now := x } w' ∧ Moves D D w w' :=
  ⟨⟨(hg.block _ h.ltb (by simpa using h.ne2)).trans h.ob, (hg.block _ h.lts (by simpa using h.ne3)).trans h.good, hx, h.row.kept hg (.inr h.ne6), h.lo1, h.lo2, h.lo3, h.ne1, h.ne2, h.ne3, h.ne4, h.ne5, h.ne6⟩,
   .of_grown hg fun i ho e => ho.2.2.1 (Option.some.inj e)⟩
theorem At.good_set (h : At D s w) (hg : w.grownBy w' (some D.s)) (x : List UInt8) (hx : w'.heap[D.s]? = some (.cells (cel x).toArray 57 (0, 0))) :
    At D { s with good := x } w' ∧ Moves D D w w' :=
  ⟨⟨(hg.block _ h.ltb (by simpa using h.ne1)).trans h.ob, hx, (hg.block _ h.ltm (by simpa using h.ne3.symm)).trans h.now, h.row.kept hg (.inr h.ne5), h.lo1, h.lo2, h.lo3, h.ne1, h.ne2, h.ne3, h.ne4, h.ne5, h.ne6⟩,
   .of_grown hg fun i ho e => ho.2.1 (Option.some.inj e)⟩
/-- The slice of what is loose turns: into v, which owns l, in the old one's row or in a new block. -/
theorem At.row_set (h : At D s w) {w1 : World} (hg : w.grownBy w1 D.v.ownBlock) (v : Value) (l : List (Nat × List UInt8)) (hown : w1.ownsRow D.lo 65 129 v l.length (wcels l))
    (hat : v.ownBlock = D.v.ownBlock ∨ ∀ i, v.ownBlock = some i → w.heap.size ≤ i) : Sec.At { D with v := v } { s with loose := l } (w1.setCell ⟨D.b, 2, none⟩ v) ∧ Moves D { D with v := v } w (w1.setCell ⟨D.b, 2, none⟩ v) := by
  have hv : ∀ i, i < w.heap.size → some i ≠ D.v.ownBlock → some i ≠ v.ownBlock := fun i hi hne e => by
    rcases hat with hat | hat
    · exact hne (e.trans hat)
    · have := hat i e.symm
      omega
  have hb : w1.heap[D.b]? = some (.cells (own D s) 53 (0, 0)) := (hg.block _ h.ltb (fun e => h.ne4 e.symm)).trans h.ob
  have hg2 := grown_set w1 D.b 2 v
  have hsz := hg.size
  refine ⟨⟨?_, ?_, ?_, hown.kept hg2 (.inr fun e => hv D.b h.ltb (fun e => h.ne4 e.symm) e.symm), h.lo1, h.lo2, h.lo3, h.ne1, h.ne2, h.ne3, ?_, ?_, ?_⟩, ⟨hg2.os.trans hg.os, hg2.tape.trans hg.tape, hg2.output.trans hg.output, Nat.le_trans hg.size hg2.size, ?_, rfl, rfl, rfl, rfl, hv⟩⟩
  · rw [heap_setCell_same _ _ _ _ _ _ hb]; rfl
  · exact (hg2.block D.s (by have := h.lts; omega) (by simpa using h.ne1.symm)).trans ((hg.block _ h.lts (fun e => h.ne5 e.symm)).trans h.good)
  · exact (hg2.block D.m (by have := h.ltm; omega) (by simpa using h.ne2.symm)).trans ((hg.block _ h.ltm (fun e => h.ne6 e.symm)).trans h.now)
  · exact fun e => hv D.b h.ltb (fun e => h.ne4 e.symm) e.symm
  · exact fun e => hv D.s h.lts (fun e => h.ne5 e.symm) e.symm
  · exact fun e => hv D.m h.ltm (fun e => h.ne6 e.symm) e.symm
  · intro i hi ho
    exact (hg2.block _ (by omega) (by simpa using ho.1)).trans (hg.block _ hi ho.2.2.2)
/-- What a sector is read as, and that it may be written. -/
theorem At.there_now (h : At D s w) (hs : s.Ok) {k : Nat} (hk : k < s.n) : w.there D.m (k * 128) 128 := fun j hj => by
  rw [cell_of_row w D.m _ _ _ _ h.now, frozen_of_row w D.m _ _ _ h.now]
  refine ⟨?_, rfl⟩
  have := hs.now
  rw [Array.getElem?_eq_getElem (by simp [cel_len, this]; omega)]
  rfl
theorem At.there_good (h : At D s w) (hs : s.good.length = s.n * 128) {k : Nat} (hk : k < s.n) : w.there D.s (k * 128) 128 := fun j hj => by
  rw [cell_of_row w D.s _ _ _ _ h.good, frozen_of_row w D.s _ _ _ h.good]
  refine ⟨?_, rfl⟩
  rw [Array.getElem?_eq_getElem (by simp [cel_len, hs]; omega)]
  rfl
theorem range_of_row {w : World} {b : Nat} {t : TypeId} {xs : List UInt8} (h : w.heap[b]? = some (.cells (cel xs).toArray t (0, 0))) (o n : Nat) : w.rangeAt b o (cel ((xs.drop o).take n)) := fun j v hv => by
  rw [cell_of_row w b _ _ _ _ h]
  have hj : j < (cel ((xs.drop o).take n)).length := (List.getElem?_eq_some_iff.1 hv).1
  rw [cel_len, List.length_take, List.length_drop] at hj
  rw [← cel_take, ← cel_drop, List.getElem?_take, if_pos (by omega), List.getElem?_drop] at hv
  simpa using hv
end Sec

/-! ### A write as a struct, and in a slice of its own -/
theorem Sec.fill_cons (place : Nat → Option (Nat × Nat)) (cells : List Value) (i : Nat) (v : Value) (rest : List (Nat × Value)) (off size : Nat) (hp : place i = some (off, size)) (hs : v.cells.size = size) (hfit : off + size ≤ cells.length) :
    Instr.fill place cells.toArray ((i, v) :: rest) = Instr.fill place (Sec.spl cells off v.cells.toList).toArray rest := by
  have hl : v.cells.toList.length = size := by simpa using hs
  obtain ⟨g1, g2⟩ := Great.foldl_set off v.cells.toList 0 cells.toArray
  conv => lhs; unfold Instr.fill
  simp only [hp]
  rw [if_neg (by simp [hs]; omega)]
  congr 1
  rw [← Array.foldl_toList, Array.toList_zipIdx]
  apply Array.ext_getElem?
  intro k
  rw [g2 k, hl]
  simp only [Nat.add_zero, List.size_toArray, List.getElem?_toArray]
  rw [Sec.spl_get (by rw [hl]; exact hfit), hl]
  by_cases h : off ≤ k ∧ k < off + size
  · rw [if_pos ⟨h.1, h.2, by omega⟩, if_pos h]
  · rw [if_neg (by omega), if_neg h]
theorem Sec.spl_all {cells ys : List Value} (h : cells.length = ys.length) : Sec.spl cells 0 ys = ys := by
  unfold Sec.spl
  rw [List.take_zero, List.nil_append, Nat.zero_add, List.drop_of_length_le (by omega), List.append_nil]
theorem Sec.spl_two {cells ys : List Value} (a : Value) (h : cells.length = ys.length + 1) : Sec.spl (Sec.spl cells 0 [a]) 1 ys = a :: ys := by
  unfold Sec.spl
  cases cells with
  | nil => simp at h
  | cons c r =>
    have hr : r.length = ys.length := by simpa using h
    simp [hr]
    omega
theorem sec_places : (match Try.prog.underlying 65 with
    | some (.struct fields) => fields.toList.mapM (fun f => (Try.prog.info? f.type).map fun i => (f.offset, i.size))
    | _ => none) = some [(0, 1), (1, 128)] := by kernel_rfl
theorem sec_wzero : (Try.prog.info? 65).map (fun i => (i.zero.map (·.cells.size), i.size, i.bytes)) = some (some 129, 129, 136) := by kernel_rfl
theorem sec_build (k : Nat) (x : List UInt8) (hx : x.length = 128) (w : World) : (Instr.build 65 #[(0, .int .i64 (k : Int)), (1, .agg (Sec.cel x).toArray)]).run Try.prog w = .ok (.agg (Sec.wcell (k, x)).toArray) w := by
  refine run_build w _ _ _ ?_
  obtain ⟨i, hi, hz⟩ := Option.map_eq_some_iff.1 sec_wzero
  simp only [Prod.mk.injEq] at hz
  obtain ⟨z, hz1, hz2⟩ := Option.map_eq_some_iff.1 hz.1
  have hp := sec_places
  unfold Program.built
  rw [hi]
  cases hu : Try.prog.underlying 65 with
  | none => rw [hu] at hp; cases hp
  | some d =>
    rw [hu] at hp
    cases d <;> first | cases hp | skip
    simp only [hz1, hp]
    have hzl : z.cells = z.cells.toList.toArray := Array.toArray_toList.symm
    have hzn : z.cells.toList.length = 129 := by rw [Array.length_toList, hz2]
    have hzs : (Sec.spl z.cells.toList 0 (Value.int .i64 (k : Int)).cells.toList).length = 129 := by
      rw [Sec.spl_len (by rw [hzn]; show 0 + 1 ≤ 129; omega), hzn]
    rw [hzl, Sec.fill_cons _ _ 0 _ _ 0 1 rfl rfl (by omega), Sec.fill_cons _ _ 1 _ _ 1 128 rfl (by simp [Value.cells, Sec.cel_len, hx]) (by rw [hzs]; omega)]
    show some _ = _
    rw [show (Value.int IntKind.i64 (k : Int)).cells.toList = [.int .i64 (k : Int)] from rfl, show (Value.agg (Sec.cel x).toArray).cells.toList = Sec.cel x by simp [Value.cells], Sec.spl_two _ (by rw [hzn, Sec.cel_len, hx])]
    rfl
theorem sec_buildSlice (k : Nat) (x : List UInt8) (hx : x.length = 128) (w : World) : (Instr.buildSlice 47 1 #[(0, .agg (Sec.wcell (k, x)).toArray)]).run Try.prog w = .ok (.slice (some ⟨w.heap.size, 0, none⟩) 1 1) (w.alloc (.cells (Sec.wcell (k, x)).toArray 65)) := by
  obtain ⟨i, hi, hz⟩ := Option.map_eq_some_iff.1 sec_wzero
  simp only [Prod.mk.injEq] at hz
  obtain ⟨z, hz1, hz2⟩ := Option.map_eq_some_iff.1 hz.1
  have hl : (Sec.wcell (k, x)).length = 129 := by rw [Sec.wcell_len]; simp [hx]
  refine run_buildSlice w _ _ 1 _ _ i z Try.underlying47 hi hz1 (by rw [hz.2.1]; decide) (by rw [hz.2.1]; decide) ?_
  rw [hz.2.1, hz2]
  have e : ((Array.range (1 * 129)).map (z.cells[· % 129]!)) = ((Array.range (1 * 129)).map (z.cells[· % 129]!)).toList.toArray := Array.toArray_toList.symm
  rw [e]
  show Instr.fill _ _ [(0, _)] = _
  rw [Sec.fill_cons _ _ 0 _ _ 0 129 rfl (by simp [Value.cells, hl]) (by simp)]
  show some _ = _
  rw [show (Value.agg (Sec.wcell (k, x)).toArray).cells.toList = Sec.wcell (k, x) by simp [Value.cells], Sec.spl_all (by simp [hl])]
/-- The same, as a walk lays it open: the zero value, and the fold over the part's cells. -/
def Sec.wzeros : Array Value := (Sec.wcell (0, List.replicate 128 0)).toArray
theorem sec_wzeros (w : World) : (zeroValue 65).run Try.prog w = .ok (.agg Sec.wzeros) w := by kernel_rfl
theorem Sec.wzeros_size : Sec.wzeros.size = 129 := by
  unfold Sec.wzeros
  rw [List.size_toArray, Sec.wcell_len]
  simp
theorem Sec.wzeros_ne : ¬ Sec.wzeros = #[] := by
  intro h
  have := congrArg Array.size h
  rw [Sec.wzeros_size] at this
  simp at this
theorem Sec.wfold (k : Nat) (x : List UInt8) (hx : x.length = 128) : List.foldl (fun (cs : Array Value) (x : Value × Nat) => cs.setIfInBounds (1 + x.snd) x.fst) (Sec.wzeros.setIfInBounds 0 (.int .i64 (k : Int))) (Sec.cel x).zipIdx = (Sec.wcell (k, x)).toArray := by
  obtain ⟨g1, g2⟩ := Great.foldl_set 1 (Sec.cel x) 0 (Sec.wzeros.setIfInBounds 0 (.int .i64 (k : Int)))
  have hl : (Sec.cel x).length = 128 := by rw [Sec.cel_len, hx]
  apply Array.ext_getElem?
  intro j
  rw [g2 j]
  simp only [Array.size_setIfInBounds, Sec.wzeros_size, hl, Sec.wcell, List.getElem?_toArray, Nat.add_zero]
  by_cases h0 : j = 0
  · subst h0
    rw [if_neg (by omega)]
    simp [Sec.wzeros_size]
  · obtain ⟨i, rfl⟩ : ∃ i, j = i + 1 := ⟨j - 1, by omega⟩
    by_cases h : i < 128
    · rw [if_pos (by omega), List.getElem?_cons_succ, Nat.add_sub_cancel]
    · rw [if_neg (by omega), List.getElem?_cons_succ, List.getElem?_eq_none (by omega), Array.getElem?_eq_none (by rw [Array.size_setIfInBounds, Sec.wzeros_size]; omega)]
theorem Sec.wfold_all (ys : List Value) (n : Nat) (hy : ys.length = n) (a : Array Value) (ha : a.size = n) : List.foldl (fun (cs : Array Value) (x : Value × Nat) => cs.setIfInBounds x.snd x.fst) a ys.zipIdx = ys.toArray := by
  obtain ⟨g1, g2⟩ := Great.foldl_set 0 ys 0 a
  simp only [Nat.zero_add, Nat.sub_zero] at g1 g2
  apply Array.ext_getElem?
  intro j
  have e : ys.toArray[j]? = ys[j]? := List.getElem?_toArray ..
  rw [g2 j, e]
  by_cases h : j < n
  · rw [if_pos (by omega)]
  · rw [if_neg (by omega), Array.getElem?_eq_none (by omega), List.getElem?_eq_none (by omega)]
end Go.Proofs.Ytmoifihgomjbcaa
