/-
  Layer 13: the contract of the law's begun: a program that begins with a task's function.
-/
import Derived.Test.YtepnofklmdofmaaGreatDoorLowEvQ
import Derived.Test.YtepnofklmdofmaaGreatDoorLowCrI
namespace Go.Proofs.YtepnofklmdofmaaGreatDoor
open Go.RowKit

namespace Ev
open Cd
/-- The functions that are being laid: the program at OB, its row v. -/
structure OutS (OB : Nat) (v : Value) (L : List Fm) (w : World) : Prop where
  o : PBlk w OB v
  rows : w.ownsRow OB 107 3 v L.length (mcells L)
  ops : ∀ m ∈ L, Lies w w.heap.size m.A (ocells m.f.ops) ∧ (ocells m.f.ops ≠ [] → ∀ p, m.A = some p → TOff OB v p.block)
theorem OutS.ne {OB : Nat} {v : Value} {L : List Fm} {w : World} (h : OutS OB v L w) : v.ownBlock ≠ some OB := fun e => by
  rcases h.rows.2 with ⟨rfl, _⟩ | ⟨g, cap, cur, rfl, _, hg, _⟩
  · simp [Value.ownBlock] at e
  · simp only [Value.ownBlock, Option.some.injEq] at e
    subst e
    have := h.o
    unfold PBlk at this
    rw [hg] at this
    injection this with this
    injection this with _ h2
    exact absurd h2 (by decide)
theorem OutS.mv {OB : Nat} {v : Value} {L : List Fm} {w w' : World} (h : OutS OB v L w) (hb : Below w.heap.size w w') : OutS OB v L w' := by
  have mv : Gm.Mvg (TOff OB v) (TOff OB v) w w' := Gm.Mvg.of_below hb
  exact ⟨h.o.of_block (hb.block _ h.o.lt), Gm.ownsKeep h.rows (fun i hi => hb.block i (h.rows.lt i hi).2), fun m hm => ⟨lies_mv (h.ops m hm).1 (h.ops m hm).2 mv, (h.ops m hm).2⟩⟩
/-- A function was appended. -/
theorem OutS.push {OB : Nat} {v : Value} {L : List Fm} {w w' : World} (h : OutS OB v L w) {g cap : Nat} {m : Fm} (hown : w'.ownsRow OB 107 3 (.slice (some ⟨g, 0, none⟩) (L.length + 1) cap) (L.length + 1) (mcells L ++ m.cells)) (hgr : w.grownBy w' v.ownBlock) (hg : v.ownBlock = some g ∨ w.heap.size ≤ g)
    (hm : Lies w w.heap.size m.A (ocells m.f.ops) ∧ (ocells m.f.ops ≠ [] → ∀ p, m.A = some p → TOff OB v p.block)) :
    OutS OB (.slice (some ⟨g, 0, none⟩) (L.length + 1) cap) (L ++ [m]) (w'.setCell ⟨OB, 0, none⟩ (.slice (some ⟨g, 0, none⟩) (L.length + 1) cap)) ∧ Gm.Mvg (TOff OB v) (TOff OB (.slice (some ⟨g, 0, none⟩) (L.length + 1) cap)) w (w'.setCell ⟨OB, 0, none⟩ (.slice (some ⟨g, 0, none⟩) (L.length + 1) cap)) := by
  have hk : ∀ i, i ≠ OB → (w'.setCell ⟨OB, 0, none⟩ (.slice (some ⟨g, 0, none⟩) (L.length + 1) cap)).heap[i]? = w'.heap[i]? := fun i hi => Below.heap_setCell _ _ _ _ hi
  have hO : PBlk w' OB v := h.o.of_block (hgr.block OB h.o.lt (fun e => h.ne e.symm))
  have hgO : g ≠ OB := fun e => by
    rcases hg with hg | hg
    · exact h.ne (by rw [hg, e])
    · have := h.o.lt; omega
  have mv : Gm.Mvg (TOff OB v) (TOff OB (.slice (some ⟨g, 0, none⟩) (L.length + 1) cap)) w (w'.setCell ⟨OB, 0, none⟩ (.slice (some ⟨g, 0, none⟩) (L.length + 1) cap)) :=
    ⟨hgr.os, hgr.tape, hgr.output, Nat.le_trans hgr.size (by simp [World.setCell]), fun i hi ho => (hk i ho.1).trans (hgr.block i hi ho.2), fun i hi ho => ⟨ho.1, fun e => by
      have : some i = some g := e
      injection this with this
      subst this
      rcases hg with hg | hg
      · exact ho.2 hg.symm
      · omega⟩⟩
  have hl : ∀ m : Fm, (Lies w w.heap.size m.A (ocells m.f.ops) ∧ (ocells m.f.ops ≠ [] → ∀ p, m.A = some p → TOff OB v p.block)) → Lies (w'.setCell ⟨OB, 0, none⟩ (.slice (some ⟨g, 0, none⟩) (L.length + 1) cap)) (w'.setCell ⟨OB, 0, none⟩ (.slice (some ⟨g, 0, none⟩) (L.length + 1) cap)).heap.size m.A (ocells m.f.ops) ∧ (ocells m.f.ops ≠ [] → ∀ p, m.A = some p → TOff OB (.slice (some ⟨g, 0, none⟩) (L.length + 1) cap) p.block) := fun m hm =>
    ⟨lies_mv hm.1 hm.2 mv, fun hn p hp => by
      obtain ⟨ad, e, hb, _⟩ := hm.1 (List.length_pos_iff.2 hn)
      rw [hp] at e
      cases e
      exact mv.keep _ hb (hm.2 hn p hp)⟩
  refine ⟨⟨hO.set0 _, ?_, fun m' hm' => ?_⟩, mv⟩
  · rw [List.length_append, mcells_snoc]
    exact Gm.ownsKeep hown fun i hi => hk i fun e => hgO (by
      have : some g = some i := hi
      injection this with this
      omega)
  · rcases List.mem_append.1 hm' with h1 | h1
    · exact hl m' (h.ops m' h1)
    · rw [List.mem_singleton.1 h1]
      exact hl m hm
/-- append([]api.Op{}, ops...): a row of one's own. -/
theorem oapp (w : World) (A : Option Addr) (os : List OpV) (c : Nat) (hl : Lies w w.heap.size A (ocells os)) (h0 : 0 < os.length) (hn : os.length ≤ 100000) (ty : TypeId) :
    ∃ g cap w', (Builtin.append_ #[105, 105] ty #[.slice (some ⟨w.heap.size, 0, none⟩) 0 0, .slice A os.length c]).run Tryz.prog (w.alloc (.cells #[] 72)) = .ok (.slice (some ⟨g, 0, none⟩) os.length cap) w' ∧ w'.ownsRow w.heap.size 72 5 (.slice (some ⟨g, 0, none⟩) os.length cap) os.length (ocells os) ∧ Below w.heap.size w w' := by
  obtain ⟨i, hi, hz⟩ := Option.map_eq_some_iff.1 opInfo
  simp only [Prod.mk.injEq] at hz
  obtain ⟨z1, z2, z3⟩ := hz
  have hlen : (ocells os).length = os.length * 5 := ocells_len os
  obtain ⟨ad, rfl, hb, hc⟩ := hl (by rw [hlen]; omega)
  have hown := World.ownsRow_made (base := w.heap.size) (e := 72) (size := 5) w #[] 0 (Nat.le_refl _) (Nat.zero_le _) rfl
  have hba : Below w.heap.size w (w.alloc (.cells #[] 72)) := Cd.fn1 _ _ _
  have hone : ∀ u ∈ ocells os, u.oneCell' = true := fun u hu => by
    obtain ⟨o, _, ho⟩ := List.mem_flatMap.1 hu
    simp only [OpV.cells, List.mem_cons, List.not_mem_nil, or_false] at ho
    rcases ho with rfl | rfl | rfl | rfl | rfl <;> rfl
  obtain ⟨v', w', a, b, d, _, _⟩ := run_append_own_at (P := Tryz.prog) (w.alloc (.cells #[] 72)) w.heap.size 105 ty 72 i _ 5 40 Tryz.underlying105 hi z1 z2 z3 rfl (by omega) _ 0 [] hown ad os.length c (ocells os) hlen (fun j u hu => (hba.cell (p := ad.add j) (by rw [Lies.add_block]; exact hb)).trans (hc j u hu)) hone (by unfold maxLen; omega) (by omega) hba.size
  rw [Nat.zero_add, List.nil_append] at b
  obtain ⟨g, cap, rfl⟩ := own_some b h0
  exact ⟨g, cap, w', a, b, hba.grown d hba.size (fun k hk => by
    have : some w.heap.size = some k := hk
    injection this with this
    omega)⟩
theorem wpl_oapp {w w' : World} {ops : Array Oper} {rest : List Oper} {oo : Oper} {a : Act} {Q : Exit → Act → World → Prop} {v u v' : Value} {ty : TypeId} (hgd : oo.guard = none) (s x : Operand)
    (hop : oo.op = .call { callee := .builtin .append, args := #[s, x], argTypes := #[105, 105] } ∧ oo.type = ty) (hs : a.eval s = v) (hx : a.eval x = u)
    (hr : (Builtin.append_ #[105, 105] ty #[v, u]).run Tryz.prog w = .ok v' w') (h : wpList Tryz.prog ops Q rest (a.put oo.dst v') w') : wpList Tryz.prog ops Q (oo :: rest) a w := by
  obtain ⟨hop, rfl⟩ := hop
  refine wpList_plain hgd fun K' hK' => ?_
  unfold Oper.wp
  simp [execOp, hop, resolve, invoke, builtin, hs, hx, hr, Result.andThen]
  exact hK' _ _ h
/-- One more op is told as the new program has it. -/
def half_ (os : List OpV) (k : Nat) : List OpV := (os.take k).map shO ++ os.drop k
theorem half_len (os : List OpV) (k : Nat) : (half_ os k).length = os.length := by
  unfold half_
  rw [List.length_append, List.length_map, List.length_take, List.length_drop]
  omega
theorem half_at {os : List OpV} {k : Nat} (h : k < os.length) : (half_ os k)[k]? = some os[k] := by
  unfold half_
  rw [List.getElem?_append_right (by rw [List.length_map, List.length_take]; omega), List.length_map, List.length_take, Nat.min_eq_left (by omega), Nat.sub_self, List.getElem?_drop, Nat.add_zero, List.getElem?_eq_getElem h]
theorem half_succ {os : List OpV} {k : Nat} (h : k < os.length) : half_ os (k + 1) = (half_ os k).set k (shO os[k]) := by
  unfold half_
  have hl : ((os.take k).map shO).length = k := by rw [List.length_map, List.length_take]; omega
  rw [List.take_succ_eq_append_getElem h, List.map_append, List.append_assoc, List.set_append_right (h := by omega), hl, Nat.sub_self, List.drop_eq_getElem_cons h]
  rfl
theorem ocells_set4 {os : List OpV} {k : Nat} (h : k < os.length) (x : Int) : (ocells os).set (k * 5 + 4) (.int .i64 x) = ocells (os.set k { os[k] with n := x }) := by
  induction os generalizing k with
  | nil => simp at h
  | cons o os ih =>
    cases k with
    | zero => rfl
    | succ k =>
      have e : ocells (o :: os) = o.cells ++ ocells os := rfl
      have hc : o.cells.length = 5 := rfl
      rw [e, List.set_append_right (h := by omega), hc, show (k + 1) * 5 + 4 - 5 = k * 5 + 4 by omega, ih (by simpa using h)]
      rfl
theorem mcells_set2 {L : List Fm} {q : Nat} (h : q < L.length) (A : Option Addr) (n c : Nat) (m : Fm) (h1 : m.f.args = L[q].f.args) (h2 : m.f.regs = L[q].f.regs) (h3 : m.A = A) (h4 : m.f.ops.length = n) (h5 : m.c = c) : (mcells L).set (q * 3 + 2) (.slice A n c) = mcells (L.set q m) := by
  induction L generalizing q with
  | nil => simp at h
  | cons x L ih =>
    have e : ∀ y : Fm, mcells (y :: L) = y.cells ++ mcells L := fun _ => rfl
    have hc : x.cells.length = 3 := rfl
    cases q with
    | zero =>
      have h1' : m.f.args = x.f.args := h1
      have h2' : m.f.regs = x.f.regs := h2
      show (mcells (x :: L)).set 2 _ = mcells (m :: L)
      rw [e, e]
      unfold Fm.cells
      rw [h1', h2', h3, h4, h5]
      rfl
    | succ q =>
      rw [e, List.set_append_right (h := by omega), hc, show (q + 1) * 3 + 2 - 3 = q * 3 + 2 by omega, ih (by simpa using h) (by simpa using h1) (by simpa using h2)]
      rfl
/-- append(l, f) of a function, at a step of a region that draws. -/
theorem fpushU {ops : Array Oper} {oo : Oper} {a : Act} {U : World} {K : Act → World → Prop} {Q : Exit → Act → World → Prop} {E : Prop} {T1 : TypeId} {base n b : Nat} {v : Value} {xs : List Value}
    (hrow : U.ownsRow base 107 3 v n xs) (hgd : oo.guard = none) (s x : Operand)
    (hop : oo.op = .call { callee := .builtin .append, args := #[s, x], argTypes := #[22, 22] }) (hs : a.eval s = v) (hx : a.eval x = .slice (some ⟨b, 0, none⟩) 1 1) (m : Fm)
    (hb : U.heap[b]? = some (.cells #[.int .i64 m.f.args, .int .i64 m.f.regs, .slice m.A m.f.ops.length m.c] T1 (0, 0))) (hn : n ≤ 100000) (hbase : base ≤ U.heap.size)
    (h : ∀ g cap w', w'.ownsRow base 107 3 (.slice (some ⟨g, 0, none⟩) (n + 1) cap) (n + 1) (xs ++ m.cells) → U.grownBy w' v.ownBlock → (v.ownBlock = some g ∨ g = U.heap.size) → K (a.put oo.dst (.slice (some ⟨g, 0, none⟩) (n + 1) cap)) w') :
    if Region.wanted oo (yielded ops a.tmps) = true then Oper.wp Tryz.prog oo a U K Q else E := by
  obtain ⟨i, hi, hz⟩ := Option.map_eq_some_iff.1 fnInfo
  simp only [Prod.mk.injEq] at hz
  obtain ⟨z1, z2, z3⟩ := hz
  refine step_append_lies _ hgd s x 22 hop base 107 i (.agg #[.int .i64 0, .int .i64 0, .slice none 0 0]) 3 40 Tryz.underlying22 hi z1 z2 z3 rfl (by decide) v n xs hs hrow ⟨b, 0, none⟩ 1 1 m.cells hx rfl
    (fun j u hu => World.news_of_block hb j u hu) (by unfold Fm.cells; simp [Value.oneCell']) (by decide) (by unfold maxLen; omega) (by omega) hbase U.heap.size rfl ?_
  intro g cap w' h1 h2 h3 _
  exact h g cap w' h1 h2 h3
end Ev

end Go.Proofs.YtepnofklmdofmaaGreatDoor
