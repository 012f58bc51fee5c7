/-
  Layer 13: the contract of the law's begun: a program that begins with a task's function.
-/
import Derived.Test.YtnlhacgihmelhaaDoorLowEvQ
import Derived.Test.YtnlhacgihmelhaaDoorLowCrI
namespace Go.Proofs.YtnlhacgihmelhaaDoor
open Go.RowKit

namespace Ev
open Cd
/-- The functions that are being laid: the program at OB, its row v. -/
structure OutS (OB : Nat) (v : Value) (L : List Fm) (w : World) : Prop where
  o : PBlk w OB v
  rows : w.ownsRow OB 55 3 v L.length (mcells L)
  ops : ∀ m ∈ L, Lies w w.heap.size m.A (ocells m.f.ops) ∧ (ocells m.f.ops ≠ [] → ∀ p, m.A = some p → TOff OB v p.block)
theorem OutS.ne {OB : Nat} {v : Value} {L : List Fm} {w : World} (h : OutS OB v L w) : v.ownBlock ≠ some OB := fun e => by
  rcases h.rows.2 with ⟨rfl, _⟩ | ⟨g, cap, cur, rfl, _, hg, _⟩
  · simp [Value.ownBlock] at e
  · simp only [Value.ownBlock, Option.some.injEq] at e
    subst e
    have := h.o
    unfold PBlk at this
    rw [hg] at this
    injection this with this
    injection this with _ h2
    exact absurd h2 (by decide)
theorem OutS.mv {OB : Nat} {v : Value} {L : List Fm} {w w' : World} (h : OutS OB v L w) (hb : Below w.heap.size w w') : OutS OB v L w' := by
  have mv : Gm.Mvg (TOff OB v) (TOff OB v) w w' := Gm.Mvg.of_below hb
  exact ⟨h.o.of_block (hb.block _ h.o.lt), Gm.ownsKeep h.rows (fun i hi => hb.block i (h.rows.lt i hi).2), fun m hm => ⟨lies_mv (h.ops m hm).1 (h.ops m hm).2 mv, (h.ops m hm).2⟩⟩
/-- A function was appended. -/
theorem OutS.push {OB : Nat} {v : Value} {L : List Fm} {w w' : World} (h : OutS OB v L w) {g cap : Nat} {m : Fm} (hown : w'.ownsRow OB 55 3 (.slice (some ⟨g, 0, none⟩) (L.length + 1) cap) (L.length + 1) (mcells L ++ m.cells)) (hgr : w.grownBy w' v.ownBlock) (hg : v.ownBlock = some g ∨ w.heap.size ≤ g)
    (hm : Lies w w.heap.size m.A (ocells m.f.ops) ∧ (ocells m.f.ops ≠ [] → ∀ p, m.A = some p → TOff OB v p.block)) :
    OutS OB (.slice (some ⟨g, 0, none⟩) (L.length + 1) cap) (L ++ [m]) (w'.setCell ⟨OB, 0, none⟩ (.slice (some ⟨g, 0, none⟩) (L.length + 1) cap)) ∧ Gm.Mvg (TOff OB v) (TOff OB (.slice (some ⟨g, 0, none⟩) (L.length + 1) cap)) w (w'.setCell ⟨OB, 0, none⟩ (.slice (some ⟨g, 0, none⟩) (L.length + 1) cap)) := by
  have hk : ∀ i, i ≠ OB → (w'.setCell ⟨OB, 0, none⟩ (.slice (some ⟨g, 0, none⟩) (L.length + 1) cap)).heap[i]? = w'.heap[i]? := fun i hi => Below.heap_setCell _ _ _ _ hi
  have hO : PBlk w' OB v := h.o.of_block (hgr.block OB h.o.lt (fun e => h.ne e.symm))
  have hgO : g ≠ OB := fun e => by
    rcases hg with hg | hg
    · exact h.ne (by rw [hg, e])
    · have := h.o.lt; omega
  have mv : Gm.Mvg (TOff OB v) (TOff OB (.slice (some ⟨g, 0, none⟩) (L.length + 1) cap)) w (w'.setCell ⟨OB, 0, none⟩ (.slice (some ⟨g, 0, none⟩) (L.length + 1) cap)) :=
    ⟨hgr.os, hgr.tape, hgr.output, Nat.le_trans hgr.size (by simp [World.setCell]), fun i hi ho => (hk i ho.1).trans (hgr.block i hi ho.2), fun i hi ho => ⟨ho.1, fun e => by
      have : some i = some g := e
      injection this with this
      subst this
      rcases hg with hg | hg
      · exact ho.2 hg.symm
      · omega⟩⟩
  have hl : ∀ m : Fm, (Lies w w.heap.size m.A (ocells m.f.ops) ∧ (ocells m.f.ops ≠ [] → ∀ p, m.A = some p → TOff OB v p.block)) → Lies (w'.setCell ⟨OB, 0, none⟩ (.slice (some ⟨g, 0, none⟩) (L.length + 1) cap)) (w'.setCell ⟨OB, 0, none⟩ (.slice (some ⟨g, 0, none⟩) (L.length + 1) cap)).heap.size m.A (ocells m.f.ops) ∧ (ocells m.f.ops ≠ [] → ∀ p, m.A = some p → TOff OB (.slice (some ⟨g, 0, none⟩) (L.length + 1) cap) p.block) := fun m hm =>
    ⟨lies_mv hm.1 hm.2 mv, fun hn p hp => by
      obtain ⟨ad, e, hb, _⟩ := hm.1 (List.length_pos_iff.2 hn)
      rw [hp] at e
      cases e
      exact mv.keep _ hb (hm.2 hn p hp)⟩
  refine ⟨⟨hO.set0 _, ?_, fun m' hm' => ?_⟩, mv⟩
  · rw [List.length_append, mcells_snoc]
    exact Gm.ownsKeep hown fun i hi => hk i fun e => hgO (by
      have : some g = some i := hi
      injection this with this
      omega)
  · rcases List.mem_append.1 hm' with h1 | h1
    · exact hl m' (h.ops m' h1)
    · rw [List.mem_singleton.1 h1]
      exact hl m hm
/-- append([]api.Op{}, ops...): a row of one's own. -/
theorem oapp (w : World) (A : Option Addr) (os : List OpV) (c : Nat) (hl : Lies w w.heap.size A (ocells os)) (h0 : 0 < os.length) (hn : os.length ≤ 100000) (ty : TypeId) :
    ∃ g cap w', (Builtin.append_ #[53, 53] ty #[.slice (some ⟨w.heap.size, 0, none⟩) 0 0, .slice A os.length c]).run Tryd.prog (w.alloc (.cells #[] 57)) = .ok (.slice (some ⟨g, 0, none⟩) os.length cap) w' ∧ w'.ownsRow w.heap.size 57 5 (.slice (some ⟨g, 0, none⟩) os.length cap) os.length (ocells os) ∧ Below w.heap.size w w' := by
  obtain ⟨i, hi, hz⟩ := Option.map_eq_some_iff.1 opInfo
  simp only [Prod.mk.injEq] at hz
  obtain ⟨z1, z2, z3⟩ := hz
  have hlen : (ocells os).length = os.length * 5 := ocells_len os
  obtain ⟨ad, rfl, hb, hc⟩ := hl (by rw [hlen]; omega)
  have hown := World.ownsRow_made (base := w.heap.size) (e := 57) (size := 5) w #[] 0 (Nat.le_refl _) (Nat.zero_le _) rfl
  have hba : Below w.heap.size w (w.alloc (.cells #[] 57)) := Cd.fn1 _ _ _
  have hone : ∀ u ∈ ocells os, u.oneCell' = true := fun u hu => by
    obtain ⟨o, _, ho⟩ := List.mem_flatMap.1 hu
    simp only [OpV.cells, List.mem_cons, List.not_mem_nil, or_false] at ho
    rcases ho with rfl | rfl | rfl | rfl | rfl <;> rfl
  obtain ⟨v', w', a, b, d, _, _⟩ := run_append_own_at (P := Tryd.prog) (w.alloc (.cells #[] 57)) w.heap.size 53 ty 57 i _ 5 40 Tryd.underlying53 hi z1 z2 z3 rfl (by omega) _ 0 [] hown ad os.length c (ocells os) hlen (fun j u hu => (hba.cell (p := ad.add j) (by rw [Lies.add_block]; exact hb)).trans (hc j u hu)) hone (by unfold maxLen; omega) (by omega) hba.size
  rw [Nat.zero_add, List.nil_append] at b
  obtain ⟨g, cap, rfl⟩ := own_some b h0
  exact ⟨g, cap, w', a, b, hba.grown d hba.size (fun k hk => by
    have : some w.heap.size = some k := hk
    injection this with this
    omega)⟩
theorem wpl_oapp {w w' : World} {ops : Array Oper} {rest : List Oper} {oo : Oper} {a : Act} {Q : Exit → Act → World → Prop} {v u v' : Value} {ty : TypeId} (hgd : oo.guard = none) (s x : Operand)
    (hop : oo.op = .call { callee := .builtin .append, args := #[s, x], argTypes := #[53, 53] } ∧ oo.type = ty) (hs : a.eval s = v) (hx : a.eval x = u)
    (hr : (Builtin.append_ #[53, 53] ty #[v, u]).run Tryd.prog w = .ok v' w') (h : wpList Tryd.prog ops Q rest (a.put oo.dst v') w') : wpList Tryd.prog ops Q (oo :: rest) a w := by
  obtain ⟨hop, rfl⟩ := hop
  refine wpList_plain hgd fun K' hK' => ?_
  unfold Oper.wp
  simp [execOp, hop, resolve, invoke, builtin, hs, hx, hr, Result.andThen]
  exact hK' _ _ h
/-- One more op is told as the new program has it. -/
def half_ (os : List OpV) (k : Nat) : List OpV := (os.take k).map shO ++ os.drop k
theorem half_len (os : List OpV) (k : Nat) : (half_ os k).length = os.length := by
  unfold half_
  rw [List.length_append, List.length_map, List.length_take, List.length_drop]
  omega
theorem half_at {os : List OpV} {k : Nat} (h : k < os.length) : (half_ os k)[k]? = some os[k] := by
  unfold half_
  rw [List.getElem?_append_right (by rw [List.length_map, List.length_take]; omega), List.length_map, List.length_take, Nat.min_eq_left (by omega), Nat.sub_self, List.getElem?_drop, Nat.add_zero, List.getElem?_eq_getElem h]
theorem half_succ {os : List OpV} {k : Nat} (h : k < os.length) : half_ os (k + 1) = (half_ os k).set k (shO os[k]) := by
  unfold half_
  have hl : ((os.take k).map shO).length = k := by rw [List.length_map, List.length_take]; omega
  rw [List.take_succ_eq_append_getElem h, List.map_append, List.append_assoc, List.set_append_right (h := by omega), hl, Nat.sub_self, List.drop_eq_getElem_cons h]
  rfl
theorem ocells_set4 {os : List OpV} {k : Nat} (h : k < os.length) (x : Int) : (ocells os).set (k * 5 + 4) (.int .i64 x) = ocells (os.set k { os[k] with n := x }) := by
  induction os generalizing k with
  | nil => simp at h
  | cons o os ih =>
    cases k with
    | zero => rfl
    | succ k =>
      have e : ocells (o :: os) = o.cells ++ ocells os := rfl
      have hc : o.cells.length = 5 := rfl
      rw [e, List.set_append_right (h := by omega), hc, show (k + 1) * 5 + 4 - 5 = k * 5 + 4 by omega, ih (by simpa using h)]
      rfl
theorem mcells_set2 {L : List Fm} {q : Nat} (h : q < L.length) (A : Option Addr) (n c : Nat) (m : Fm) (h1 : m.f.args = L[q].f.args) (h2 : m.f.regs = L[q].f.regs) (h3 : m.A = A) (h4 : m.f.ops.length = n) (h5 : m.c = c) : (mcells L).set (q * 3 + 2) (.slice A n c) = mcells (L.set q m) := by
  induction L generalizing q with
  | nil => simp at h
  | cons x L ih =>
    have e : ∀ y : Fm, mcells (y :: L) = y.cells ++ mcells L := fun _ => rfl
    have hc : x.cells.length = 3 := rfl
    cases q with
    | zero =>
      have h1' : m.f.args = x.f.args := h1
      have h2' : m.f.regs = x.f.regs := h2
      show (mcells (x :: L)).set 2 _ = mcells (m :: L)
      rw [e, e]
      unfold Fm.cells
      rw [h1', h2', h3, h4, h5]
      rfl
    | succ q =>
      rw [e, List.set_append_right (h := by omega), hc, show (q + 1) * 3 + 2 - 3 = q * 3 + 2 by omega, ih (by simpa using h) (by simpa using h1) (by simpa using h2)]
      rfl
/-- append(l, f) of a function, at a step of a region that draws. -/
theorem fpushU {ops : Array Oper} {oo : Oper} {a : Act} {U : World} {K : Act → World → Prop} {Q : Exit → Act → World → Prop} {E : Prop} {T1 : TypeId} {base n b : Nat} {v : Value} {xs : List Value}
    (hrow : U.ownsRow base 55 3 v n xs) (hgd : oo.guard = none) (s x : Operand)
    (hop : oo.op = .call { callee := .builtin .append, args := #[s, x], argTypes := #[22, 22] }) (hs : a.eval s = v) (hx : a.eval x = .slice (some ⟨b, 0, none⟩) 1 1) (m : Fm)
    (hb : U.heap[b]? = some (.cells #[.int .i64 m.f.args, .int .i64 m.f.regs, .slice m.A m.f.ops.length m.c] T1 (0, 0))) (hn : n ≤ 100000) (hbase : base ≤ U.heap.size)
    (h : ∀ g cap w', w'.ownsRow base 55 3 (.slice (some ⟨g, 0, none⟩) (n + 1) cap) (n + 1) (xs ++ m.cells) → U.grownBy w' v.ownBlock → (v.ownBlock = some g ∨ g = U.heap.size) → K (a.put oo.dst (.slice (some ⟨g, 0, none⟩) (n + 1) cap)) w') :
    if Region.wanted oo (yielded ops a.tmps) = true then Oper.wp Tryd.prog oo a U K Q else E := by
  obtain ⟨i, hi, hz⟩ := Option.map_eq_some_iff.1 fnInfo
  simp only [Prod.mk.injEq] at hz
  obtain ⟨z1, z2, z3⟩ := hz
  refine step_append_lies _ hgd s x 22 hop base 55 i (.agg #[.int .i64 0, .int .i64 0, .slice none 0 0]) 3 40 Tryd.underlying22 hi z1 z2 z3 rfl (by decide) v n xs hs hrow ⟨b, 0, none⟩ 1 1 m.cells hx rfl
    (fun j u hu => World.news_of_block hb j u hu) (by unfold Fm.cells; simp [Value.oneCell']) (by decide) (by unfold maxLen; omega) (by omega) hbase U.heap.size rfl ?_
  intro g cap w' h1 h2 h3 _
  exact h g cap w' h1 h2 h3
end Ev

set_option maxHeartbeats 4000000 in
set_option maxRecDepth 20000 in
theorem begun13 (l : List Cd.Fm) (hlen : ∀ m ∈ l, 0 < m.f.ops.length ∧ m.f.ops.length ≤ 64) (hn : l.length ≤ 16) (hN : ∀ m ∈ l, ∀ o ∈ m.f.ops, o.k = 12 → 0 ≤ o.n ∧ o.n < 1000) (A : Option Addr) (c : Nat) (w : World) (hP : Cd.Prog w w.heap.size A l) (fn : Nat) (hfn : fn < l.length) :
    Calls Tryd.prog 9 #[.agg #[.slice A l.length c], .int .i64 (fn : Int)] w fun e w' => ∃ (ms : List Cd.Fm) (A' : Option Addr) (c' : Nat), e = .returned (.agg #[.slice A' ms.length c']) ∧ Cd.fns ms = Ev.begun (Cd.fns l) fn ∧ Cd.Prog w' w'.heap.size A' ms ∧ Below w.heap.size w w' := by
  obtain ⟨W0, hW0⟩ : ∃ W0, W0 = w.alloc (.cells #[.slice A l.length c] 24) := ⟨_, rfl⟩
  obtain ⟨W1, hW1⟩ : ∃ W1, W1 = W0.alloc (.cells #[.slice none 0 0] 24) := ⟨_, rfl⟩
  have hs0 : W0.heap.size = w.heap.size + 1 := by rw [hW0]; simp
  have hs1 : W1.heap.size = w.heap.size + 2 := by rw [hW1]; simp [hs0]
  have hb0 : Below w.heap.size w W0 := by rw [hW0]; exact Cd.fn1 _ _ _
  have hb1 : Below W0.heap.size W0 W1 := by rw [hW1]; exact Cd.fn1 _ _ _
  have hbW : Below w.heap.size w W1 := hb0.trans (hb1.mono hb0.size)
  have hX : Cd.PBlk W1 w.heap.size (.slice A l.length c) := by show W1.heap[_]? = _; rw [hb1.block w.heap.size (by omega), hW0]; exact heap_alloc_new w _
  have hZ : Cd.PBlk W1 (w.heap.size + 1) (.slice none 0 0) := by show W1.heap[_]? = _; rw [← hs0, hW1]; exact heap_alloc_new W0 _
  have HCP := Lib.hid (rCopy10 l (fun m hm => by have := (hlen m hm).2; omega) (by omega) A c W1 ((hP.below hbW).mono hbW.size))
  have c0 := hX.c0
  have HZ := Lib.hid hZ
  have HB := Lib.hid hbW
  have HI := Lib.hid Cd.pgSize
  have HLEN := Lib.hid hlen
  have HNN := Lib.hid hN
  have HLN := Lib.hid hn
  have HFN := Lib.hid hfn
  have HS1 : Hid (W1.heap.size = w.heap.size + 2) := hs1
  clear hb0 hb1 hX hZ hP hlen hN hbW hs1
  go_enter Tryd.func9, Tryd.ntmps9
  go_upto_region 1 with fail
  rw [← hW0, ← hs0, ← hW1, hs0]
  clear hW1 hW0 hs0
  obtain ⟨Z, hZe⟩ : ∃ Z, Z = w.heap.size + 1 := ⟨_, rfl⟩
  rw [← hZe] at HZ ⊢
  have HZE := Lib.hid hZe
  clear hZe
  go_wp2_with fail
  refine HCP.out.mono ?_
  rintro e w2 ⟨ms0, A0, cc0, rfl, hms0, hrs0, hb2⟩
  have hml : ms0.length = l.length := by have := congrArg List.length hms0; rwa [Cd.fns_len, Cd.fns_len] at this
  obtain ⟨V1, hV1⟩ : ∃ V, V = w2.alloc (.cells #[.slice A0 ms0.length cc0] 24) := ⟨_, rfl⟩
  obtain ⟨V, hV⟩ : ∃ V, V = V1.alloc (.cells #[.slice none 0 0] 24) := ⟨_, rfl⟩
  have hbV1 : Below w2.heap.size w2 V1 := by rw [hV1]; exact Cd.fn1 _ _ _
  have hbV : Below V1.heap.size V1 V := by rw [hV]; exact Cd.fn1 _ _ _
  have hs2 : V1.heap.size = w2.heap.size + 1 := by rw [hV1]; simp
  have hb2s := hb2.size
  have hbw : Below W1.heap.size W1 V := hb2.trans ((hbV1.trans (hbV.mono hbV1.size)).mono hb2s)
  have HC : Hid (Cd.PBlk V w2.heap.size (.slice A0 ms0.length cc0) ∧ w2.heap.size < w2.heap.size + 1) := ⟨by show V.heap[_]? = _; rw [hbV.block w2.heap.size (by omega), hV1]; exact heap_alloc_new w2 _, by omega⟩
  have hOB : Cd.PBlk V (w2.heap.size + 1) (.slice none 0 0) := by show V.heap[_]? = _; rw [← hs2, hV]; exact heap_alloc_new V1 _
  have HOUT : Hid (Ev.OutS (w2.heap.size + 1) (.slice none 0 0) [] V) := ⟨hOB, ⟨rfl, .inl ⟨rfl, rfl⟩⟩, fun m hm => by simp at hm⟩
  have HQ : Hid (Cd.Prog V (w2.heap.size + 1) A0 ms0) := by
    have h1 := (hrs0.prog.below (hbV1.trans (hbV.mono hbV1.size))).mono (Nat.le_succ w2.heap.size)
    exact h1
  have HZV : Hid (Cd.PBlk V Z (.slice none 0 0) ∧ Z < w2.heap.size + 1 ∧ w.heap.size ≤ w2.heap.size ∧ Below w.heap.size w V) := ⟨HZ.out.of_block (hbw.block Z HZ.out.lt), by have := HZ.out.lt; omega, by have := HB.out.size; omega, HB.out.trans (hbw.mono HB.out.size)⟩
  have HMS : Hid (Cd.fns ms0 = Cd.fns l) := hms0
  have HZA : Hid (∀ m ∈ ms0, ∀ p, m.A = some p → Z < p.block) := fun m hm p hp => by
    have h1 := ((hrs0.os m hm).lt p.block (by rw [hp]; rfl)).1
    have h2 := HZE.out
    have h3 := HS1.out
    omega
  clear hb2 hbV1 hbV hbw hOB hrs0 hms0 hb2s HCP c0 HZ HB
  rw [hml] at HC
  rw [hml] at hV1
  go_upto_region 3 with fail
  rw [← hV1, ← hs2, ← hV, hs2]
  clear hV hV1 hs2
  obtain ⟨OB, hOBe⟩ : ∃ OB, OB = w2.heap.size + 1 := ⟨_, rfl⟩
  rw [← hOBe] at HC HOUT HQ HZV ⊢
  generalize w2.heap.size = C at HC HZV ⊢
  clear hOBe
  have hfl : fn < ms0.length := by rw [hml]; exact HFN.out
  have HML := Lib.hid hml
  have hl16 : l.length ≤ 16 := HLN.out
  clear hml
  have hVOB : OB ≤ V.heap.size := Nat.le_of_lt HOUT.out.o.lt
  obtain ⟨ad, hadA, -⟩ := Cd.fn_at HQ.out.fs hfl
  subst hadA
  have f0 : (0 : Int) ≤ (fn : Int) := by omega
  have f1 : (fn : Int) < (l.length : Int) := by have := HFN.out; omega
  go_cut [] (fun wx => ∃ v1 : Value, Hid (Ev.OutS OB v1 [ms0[fn]] wx ∧ Below OB V wx))
  case first =>
    obtain ⟨ad', hE', hadl, d0, d1, d2⟩ := Cd.fn_at (HQ.out.below (Below.refl OB V)).fs hfl
    cases hE'
    have HOM : Hid (Lies V V.heap.size (ms0[fn]).A (Cd.ocells (ms0[fn]).f.ops) ∧ (Cd.ocells (ms0[fn]).f.ops ≠ [] → ∀ p, (ms0[fn]).A = some p → p.block < OB)) := by
      have h := (HQ.out.below (Below.refl OB V)).os _ (List.getElem_mem hfl)
      refine ⟨h.mono hVOB, fun hnn p hp => ?_⟩
      obtain ⟨ad, e, hb, _⟩ := h (List.length_pos_iff.2 hnn)
      rw [hp] at e
      cases e
      exact hb
    obtain ⟨m, hm⟩ : ∃ m, m = ms0[fn] := ⟨_, rfl⟩
    rw [← hm] at d0 d1 d2 HOM
    have HMM := Lib.hid hm
    clear hm
    have HOU := Lib.hid HOUT.out
    have HCB : Hid (Cd.PBlk V C (.slice (some ad) l.length cc0)) := HC.out.1.of_block (((Below.refl OB V)).block C HC.out.2)
    have c0 := HCB.out.c0
    have o0 := HOU.out.o.c0
    have of0 := HOU.out.o.f 0
    obtain ⟨U, hU⟩ : ∃ U, U = (V.alloc (.cells #[.int .i64 m.f.args, .int .i64 m.f.regs, .slice m.A m.f.ops.length m.c] 55)).drew := ⟨_, rfl⟩
    have hbU : Below V.heap.size V U := by rw [hU]; exact (Cd.fn1 _ _ _).drew
    have HU : Hid (Ev.OutS OB (.slice none 0 0) [] U) := HOU.out.mv hbU
    have HBL : Hid (U.heap[V.heap.size]? = some (.cells #[.int .i64 m.f.args, .int .i64 m.f.regs, .slice m.A m.f.ops.length m.c] 55 (0, 0))) := by
      show _ = _
      rw [hU]
      exact heap_alloc_new V _
    have HMU : Hid (Lies U U.heap.size m.A (Cd.ocells m.f.ops) ∧ (Cd.ocells m.f.ops ≠ [] → ∀ p, m.A = some p → Ev.TOff OB (.slice none 0 0) p.block)) := ⟨(HOM.out.1.below hbU).mono hbU.size, fun hnn p hp => ⟨by have := HOM.out.2 hnn p hp; omega, fun e => by have := (HOU.out.rows.lt p.block e.symm).1; have := HOM.out.2 hnn p hp; omega⟩⟩
    have HUB : Hid (OB ≤ U.heap.size ∧ Below OB V U) := ⟨Nat.le_of_lt HU.out.o.lt, ((Below.refl OB V)).trans (hbU.mono (Nat.le_of_lt HOU.out.o.lt))⟩
    have hUB := HUB.out.1
    have c0v := Ev.cell_alloc (.cells #[.int .i64 m.f.args, .int .i64 m.f.regs, .slice m.A m.f.ops.length m.c] 55) c0
    have o0v := Ev.cell_alloc (.cells #[.int .i64 m.f.args, .int .i64 m.f.regs, .slice m.A m.f.ops.length m.c] 55) o0
    have HUE : Hid ((V.alloc (.cells #[.int .i64 m.f.args, .int .i64 m.f.regs, .slice m.A m.f.ops.length m.c] 55)).drew = U) := hU.symm
    have hn100 : 0 ≤ 100000 := by omega
    have hrowU : U.ownsRow OB 55 3 (.slice none 0 0) 0 (Cd.mcells []) := HU.out.rows
    have HROW := Lib.hid hrowU
    clear hU hbU hrowU
    go_region_law (first
      | (rw [HUE.out]
         refine Ev.fpushU (U := U) HROW.out (by rfl) _ _ (by rfl) (by rfl) (by rfl) m HBL.out hn100 hUB ?_
         intro g cap w6 hown hgr hg
         have o06 : w6.cell? ⟨OB, 0, none⟩ = some ((.slice none 0 0)) := (World.cell?_of_block (w := U) (hgr.block OB HU.out.o.lt (fun e => HU.out.ne e.symm))).trans HU.out.o.c0
         have of6 : w6.frozen? ⟨OB, 0, none⟩ = false := (World.frozen?_of_block (w := U) (hgr.block OB HU.out.o.lt (fun e => HU.out.ne e.symm))).trans (HU.out.o.f 0)))
    all_goals
      go_wp2_with fail
      go_meet
      case rel =>
        have hp := HU.out.push (L := []) (m := m) hown hgr (by rcases hg with h | h; exact .inl h; exact .inr (by rw [h]; exact Nat.le_refl _)) HMU.out
        rw [HMM.out] at hp
        exact ⟨_, hp.1, HUB.out.2.trans ⟨hp.2.os, hp.2.tape, hp.2.output, hp.2.size, fun i hi => hp.2.block i (Nat.lt_of_lt_of_le hi HUB.out.1) ⟨by omega, fun e => by have := (HU.out.rows.lt i e.symm).1; omega⟩⟩⟩
  case rest =>
    rename World => w4
    obtain ⟨v1, H4⟩ := hcut
    clear HOUT
    go_wp2_with fail
    go_loopw [7] (fun s7 wr => ∃ (i : Nat) (v2 : Value), i ≤ l.length ∧ s7 = .int .i64 i ∧ Hid (Ev.OutS OB v2 (ms0[fn] :: ms0.take i) wr ∧ Below OB V wr)) (fun s7 _ => l.length - (intOf s7).toNat)
    case atStart => exact ⟨0, v1, Nat.zero_le _, rfl, H4.out⟩
    case round =>
      obtain ⟨i, v2, hi, rfl, HS⟩ := hrel
      have HCW : Hid (Cd.PBlk wr C (.slice (some ad) l.length cc0)) := HC.out.1.of_block (HS.out.2.block C HC.out.2)
      have c00 := HCW.out.c0
      have hWOB : OB ≤ wr.heap.size := Nat.le_of_lt HS.out.1.o.lt
      by_cases hlt : i < l.length
      · have hjl : i < ms0.length := by rw [HML.out]; exact hlt
        have i0 : (0 : Int) ≤ (i : Int) := by omega
        have i1 : (i : Int) < (l.length : Int) := by omega
        have hLl : (ms0[fn] :: ms0.take i).length = i + 1 := by rw [List.length_cons, List.length_take]; omega
        have HLL := Lib.hid hLl
        clear hLl
        have HTK : Hid (ms0.take (i + 1) = ms0.take i ++ [ms0[i]]) := List.take_succ_eq_append_getElem hjl
        obtain ⟨ad', hE', hadl, d0, d1, d2⟩ := Cd.fn_at (HQ.out.below HS.out.2).fs hjl
        cases hE'
        have HOM : Hid (Lies wr wr.heap.size (ms0[i]).A (Cd.ocells (ms0[i]).f.ops) ∧ (Cd.ocells (ms0[i]).f.ops ≠ [] → ∀ p, (ms0[i]).A = some p → p.block < OB)) := by
          have h := (HQ.out.below HS.out.2).os _ (List.getElem_mem hjl)
          refine ⟨h.mono hWOB, fun hnn p hp => ?_⟩
          obtain ⟨ad, e, hb, _⟩ := h (List.length_pos_iff.2 hnn)
          rw [hp] at e
          cases e
          exact hb
        obtain ⟨m, hm⟩ : ∃ m, m = ms0[i] := ⟨_, rfl⟩
        rw [← hm] at d0 d1 d2 HOM
        have HMM := Lib.hid hm
        clear hm
        have HOU := Lib.hid HS.out.1
        have HCB : Hid (Cd.PBlk wr C (.slice (some ad) l.length cc0)) := HC.out.1.of_block ((HS.out.2).block C HC.out.2)
        have c0 := HCB.out.c0
        have o0 := HOU.out.o.c0
        have of0 := HOU.out.o.f 0
        obtain ⟨U, hU⟩ : ∃ U, U = (wr.alloc (.cells #[.int .i64 m.f.args, .int .i64 m.f.regs, .slice m.A m.f.ops.length m.c] 55)).drew := ⟨_, rfl⟩
        have hbU : Below wr.heap.size wr U := by rw [hU]; exact (Cd.fn1 _ _ _).drew
        have HU : Hid (Ev.OutS OB v2 (ms0[fn] :: ms0.take i) U) := HOU.out.mv hbU
        have HBL : Hid (U.heap[wr.heap.size]? = some (.cells #[.int .i64 m.f.args, .int .i64 m.f.regs, .slice m.A m.f.ops.length m.c] 55 (0, 0))) := by
          show _ = _
          rw [hU]
          exact heap_alloc_new wr _
        have HMU : Hid (Lies U U.heap.size m.A (Cd.ocells m.f.ops) ∧ (Cd.ocells m.f.ops ≠ [] → ∀ p, m.A = some p → Ev.TOff OB v2 p.block)) := ⟨(HOM.out.1.below hbU).mono hbU.size, fun hnn p hp => ⟨by have := HOM.out.2 hnn p hp; omega, fun e => by have := (HOU.out.rows.lt p.block e.symm).1; have := HOM.out.2 hnn p hp; omega⟩⟩
        have HUB : Hid (OB ≤ U.heap.size ∧ Below OB V U) := ⟨Nat.le_of_lt HU.out.o.lt, (HS.out.2).trans (hbU.mono (Nat.le_of_lt HOU.out.o.lt))⟩
        have hUB := HUB.out.1
        have c0v := Ev.cell_alloc (.cells #[.int .i64 m.f.args, .int .i64 m.f.regs, .slice m.A m.f.ops.length m.c] 55) c0
        have o0v := Ev.cell_alloc (.cells #[.int .i64 m.f.args, .int .i64 m.f.regs, .slice m.A m.f.ops.length m.c] 55) o0
        have HUE : Hid ((wr.alloc (.cells #[.int .i64 m.f.args, .int .i64 m.f.regs, .slice m.A m.f.ops.length m.c] 55)).drew = U) := hU.symm
        have hn100 : (i + 1) ≤ 100000 := by omega
        have hrowU : U.ownsRow OB 55 3 v2 (i + 1) (Cd.mcells (ms0[fn] :: ms0.take i)) := (by have := HU.out.rows; rw [HLL.out] at this; exact this)
        have HROW := Lib.hid hrowU
        clear hU hbU hrowU
        go_upto_region 7 with fail
        go_region_law (first
          | (rw [HUE.out]
             refine Ev.fpushU (U := U) HROW.out (by rfl) _ _ (by rfl) (by rfl) (by rfl) m HBL.out hn100 hUB ?_
             intro g cap w6 hown hgr hg
             have o06 : w6.cell? ⟨OB, 0, none⟩ = some (v2) := (World.cell?_of_block (w := U) (hgr.block OB HU.out.o.lt (fun e => HU.out.ne e.symm))).trans HU.out.o.c0
             have of6 : w6.frozen? ⟨OB, 0, none⟩ = false := (World.frozen?_of_block (w := U) (hgr.block OB HU.out.o.lt (fun e => HU.out.ne e.symm))).trans (HU.out.o.f 0)))
        all_goals
          go_wp2_with fail
          go_roundw
          case rel =>
            have hp := HU.out.push (L := (ms0[fn] :: ms0.take i)) (m := m) (by rw [HLL.out]; exact hown) hgr (by rcases hg with h | h; exact .inl h; exact .inr (by rw [h]; exact Nat.le_refl _)) HMU.out
            rw [HLL.out, HMM.out] at hp
            have hp3 : Ev.OutS OB (.slice (some ⟨g, 0, none⟩) (i + 1 + 1) cap) (ms0[fn] :: ms0.take (i + 1)) (w6.setCell ⟨OB, 0, none⟩ (.slice (some ⟨g, 0, none⟩) (i + 1 + 1) cap)) := by
              rw [HTK.out]
              exact hp.1
            exact ⟨i + 1, .slice (some ⟨g, 0, none⟩) (i + 1 + 1) cap, by omega, by go_num, hp3, HUB.out.2.trans ⟨hp.2.os, hp.2.tape, hp.2.output, hp.2.size, fun i hi => hp.2.block i (Nat.lt_of_lt_of_le hi HUB.out.1) ⟨by omega, fun e => by have := (HU.out.rows.lt i e.symm).1; omega⟩⟩⟩
          case measure => simp [intOf]; omega
      · obtain rfl : i = l.length := by omega
        have i1 : ¬ ((l.length : Int) < (l.length : Int)) := by omega
        clear hlt
        have HM0 : Hid (ms0[fn] :: ms0.take l.length = ms0[fn] :: ms0) := by show _ = _; rw [← HML.out, List.take_length]
        rw [HM0.out] at HS
        obtain ⟨A2, c2, hv2⟩ := Ev.own_slice HS.out.1.rows
        have hLn : (ms0[fn] :: ms0).length = l.length + 1 := by rw [List.length_cons, HML.out]
        rw [hLn] at hv2
        subst hv2
        go_wp2_with fail
        clear hLn i1 c00
        go_loopw [8] (fun s8 wo => ∃ (q : Nat) (A3 : Option Addr) (c3 : Nat) (L : List Cd.Fm), q ≤ l.length + 1 ∧ s8 = .int .i64 q ∧ Hid (Ev.OutS OB (.slice A3 (l.length + 1) c3) L wo ∧ L.length = l.length + 1 ∧ Below OB V wo ∧ Cd.fns L = (Cd.fns ((ms0[fn] :: ms0).take q)).map Ev.shF ++ Cd.fns ((ms0[fn] :: ms0).drop q) ∧ ∀ m ∈ L, ∀ p, m.A = some p → Z < p.block)) (fun s8 _ => l.length + 1 - (intOf s8).toNat)
        case atStart => exact ⟨0, A2, c2, ms0[fn] :: ms0, Nat.zero_le _, rfl, HS.out.1, by rw [List.length_cons, HML.out], HS.out.2, by simp [Cd.fns], fun m hm p hp => by
          rcases List.mem_cons.1 hm with h | h
          · rw [h] at hp
            exact HZA.out _ (List.getElem_mem hfl) p hp
          · exact HZA.out _ h p hp⟩
        case round =>
          obtain ⟨q, A3, c3, L, hq, rfl, HK⟩ := hrel
          have o00 := HK.out.1.o.c0
          by_cases hlq : q < l.length + 1
          · have hqL : q < L.length := by rw [HK.out.2.1]; exact hlq
            have q0 : (0 : Int) ≤ (q : Int) := by omega
            have q1 : (q : Int) < ((l.length + 1 : Nat) : Int) := by omega
            obtain ⟨g, cap, hv3⟩ := Ev.own_some HK.out.1.rows (by omega)
            rw [HK.out.2.1] at hv3
            injection hv3 with hv31 hv32 hv33
            subst hv31 hv33
            have hrw := HK.out.1.rows
            obtain ⟨r2, rf2⟩ := Ev.row_cell (by rw [HK.out.2.1] at hrw; exact hrw) (Cd.mcells_at hqL (i := 2) rfl)
            obtain ⟨m, hm⟩ : ∃ m, m = L[q] := ⟨_, rfl⟩
            rw [← hm] at r2
            have HMM := Lib.hid hm
            have hMl : (ms0[fn] :: ms0).length = l.length + 1 := by rw [List.length_cons, HML.out]
            have HMQ : Hid (m.f = ((ms0[fn] :: ms0)[q]'(by rw [hMl]; exact hlq)).f) := by
              have h1 := congrArg (fun x : List Cd.FnV => x[q]?) HK.out.2.2.2.1
              have hA : (Cd.fns ((ms0[fn] :: ms0).take q)).length = q := by rw [Cd.fns_len, List.length_take, hMl]; omega
              have h2 : (Cd.fns L)[q]? = some L[q].f := by unfold Cd.fns; rw [List.getElem?_map, List.getElem?_eq_getElem hqL]; rfl
              replace h1 : (Cd.fns L)[q]? = ((Cd.fns ((ms0[fn] :: ms0).take q)).map Ev.shF ++ Cd.fns ((ms0[fn] :: ms0).drop q))[q]? := h1
              rw [h2, List.getElem?_append_right (by rw [List.length_map, hA]; exact Nat.le_refl _), List.length_map, hA, Nat.sub_self] at h1
              unfold Cd.fns at h1
              rw [List.getElem?_map, List.getElem?_drop, Nat.add_zero, List.getElem?_eq_getElem (by rw [hMl]; exact hlq)] at h1
              show _ = _
              rw [hm]
              exact Option.some.inj h1
            have hops : 0 < m.f.ops.length ∧ m.f.ops.length ≤ 64 ∧ ∀ o ∈ m.f.ops, o.k = 12 → 0 ≤ o.n ∧ o.n < 1000 := by
              have hmem : m.f ∈ Cd.fns ms0 := by
                rw [HMQ.out]
                have := List.getElem_mem (l := ms0[fn] :: ms0) (n := q) (by rw [hMl]; exact hlq)
                rcases List.mem_cons.1 this with h | h
                · rw [h]; exact List.mem_map.2 ⟨_, List.getElem_mem hfl, rfl⟩
                · exact List.mem_map.2 ⟨_, h, rfl⟩
              rw [HMS.out] at hmem
              obtain ⟨m', hm1, hm2⟩ := List.mem_map.1 hmem
              have h1 := HLEN.out m' hm1
              have h2 := HNN.out m' hm1
              rw [hm2] at h1 h2
              exact ⟨h1.1, h1.2, h2⟩
            have HLM : Hid (Lies wr wr.heap.size m.A (Cd.ocells m.f.ops)) := by show Lies _ _ _ _; rw [hm]; exact (HK.out.1.ops _ (List.getElem_mem hqL)).1
            clear hm hrw
            obtain ⟨g2, cap2, w6, hap, hown, hb6⟩ := Ev.oapp wr m.A m.f.ops m.c HLM.out hops.1 (by omega) 53
            have HAP := Lib.hid hap
            have o00' := Ev.cell_alloc (.cells #[] 57) o00
            have r2' := Ev.cell_alloc (.cells #[] 57) r2
            have HB6 := Lib.hid hb6
            have HOW : Hid (w6.ownsRow wr.heap.size 57 5 (.slice (some ⟨g2, 0, none⟩) m.f.ops.length cap2) m.f.ops.length (Cd.ocells (Ev.half_ m.f.ops 0))) := hown
            have HOPS := Lib.hid hops
            have hn63 : (m.f.ops.length : Int) ≤ 9223372036854775807 := by omega
            clear hap hown hb6 hops hi
            go_wp2_with (refine Cd.at_app rfl ?_; refine Ev.wpl_oapp rfl _ _ ⟨rfl, rfl⟩ rfl rfl HAP.out ?_)
            go_loopw [10] (fun s10 wk => ∃ k : Nat, k ≤ m.f.ops.length ∧ s10 = .int .i64 k ∧ Hid (wk.ownsRow wr.heap.size 57 5 (.slice (some ⟨g2, 0, none⟩) m.f.ops.length cap2) m.f.ops.length (Cd.ocells (Ev.half_ m.f.ops k)) ∧ Below wr.heap.size wr wk)) (fun s10 _ => m.f.ops.length - (intOf s10).toNat)
            case atStart => exact ⟨0, Nat.zero_le _, rfl, HOW.out, HB6.out⟩
            case round =>
              rename World => wk
              obtain ⟨k, hk, rfl, HI2⟩ := hrel
              by_cases hlk : k < m.f.ops.length
              · have k0 : (0 : Int) ≤ (k : Int) := by omega
                have k1 : (k : Int) < (m.f.ops.length : Int) := by omega
                have hhl : k < (Ev.half_ m.f.ops k).length := by rw [Ev.half_len]; exact hlk
                have hhe : (Ev.half_ m.f.ops k)[k] = m.f.ops[k] := by
                  have := Ev.half_at hlk
                  rw [List.getElem?_eq_getElem hhl] at this
                  exact Option.some.inj this
                obtain ⟨e0, -⟩ := Ev.row_cell HI2.out.1 (Cd.ocells_at hhl (i := 0) rfl)
                obtain ⟨e4, ef4⟩ := Ev.row_cell HI2.out.1 (Cd.ocells_at hhl (i := 4) rfl)
                rw [hhe] at e0 e4
                rw [Nat.add_zero] at e0
                have HSU := Lib.hid (Ev.half_succ hlk)
                have HGE := Lib.hid hhe
                have hno := HOPS.out.2.2 _ (List.getElem_mem hlk)
                obtain ⟨o, ho⟩ : ∃ o, o = m.f.ops[k] := ⟨_, rfl⟩
                rw [← ho] at e0 e4 hno HSU HGE
                have HHL := Lib.hid hhl
                clear ho hlk hhe
                by_cases h12 : o.k = 12
                · have ek : (o.k : Int) = 12 := by omega
                  rw [ek] at e0
                  have hn1 := hno h12
                  have hs : IntKind.i64.wrap (o.n + 1) = o.n + 1 := by rw [IntKind.wrap_i64]; omega
                  have HNW : Hid ((wk.setCell ⟨g2, k * 5 + 4, none⟩ (.int .i64 (o.n + 1))).ownsRow wr.heap.size 57 5 (.slice (some ⟨g2, 0, none⟩) m.f.ops.length cap2) m.f.ops.length (Cd.ocells (Ev.half_ m.f.ops (k + 1))) ∧ Below wr.heap.size wr (wk.setCell ⟨g2, k * 5 + 4, none⟩ (.int .i64 (o.n + 1)))) := by
                    have h1 := HI2.out.1
                    have h2 := Ev.erow_set h1 (j := k * 5 + 4) (by rw [Cd.ocells_len]; have := HHL.out; omega) (.int .i64 (o.n + 1))
                    rw [Ev.ocells_set4 HHL.out, HGE.out] at h2
                    have e : Ev.shO o = { o with n := o.n + 1 } := by unfold Ev.shO; rw [if_pos h12]
                    rw [HSU.out, e]
                    exact ⟨h2, HI2.out.2.setCell (h1.lt g2 rfl).1 _⟩
                  clear h12 ek hn1 hno
                  go_wp2_with fail
                  go_roundw
                  case rel => exact ⟨k + 1, by omega, by go_num, HNW.out⟩
                  case measure => simp [intOf]; omega
                · have ek : ((o.k : Int) == 12) = false := by rw [beq_eq_false_iff_ne]; omega
                  have HNW : Hid (Ev.half_ m.f.ops (k + 1) = Ev.half_ m.f.ops k) := by
                    have e : Ev.shO o = o := by unfold Ev.shO; rw [if_neg h12]
                    show _ = _
                    rw [HSU.out, e, ← HGE.out]
                    exact List.set_getElem_self _
                  clear h12 hno
                  go_wp2_with fail
                  go_roundw
                  case rel => exact ⟨k + 1, by omega, by go_num, by rw [HNW.out]; exact HI2.out.1, HI2.out.2⟩
                  case measure => simp [intOf]; omega
              · obtain rfl : k = m.f.ops.length := by omega
                have k1 : ¬ ((m.f.ops.length : Int) < (m.f.ops.length : Int)) := by omega
                have hgl : g < wr.heap.size := (HK.out.1.rows.lt g rfl).2
                have hgo : OB < wr.heap.size := HK.out.1.o.lt
                have hrow2 := HI2.out.1
                have hg2 := hrow2.lt g2 rfl
                have hhal : Ev.half_ m.f.ops m.f.ops.length = m.f.ops.map Ev.shO := by unfold Ev.half_; rw [List.take_length, List.drop_length, List.append_nil]
                rw [hhal] at hrow2
                have o0k := (HI2.out.2.cell (p := ⟨OB, 0, none⟩) hgo).trans o00
                have r2k := (HI2.out.2.cell (p := ⟨g, q * 3 + 2, none⟩) hgl).trans r2
                have rf2k := (HI2.out.2.frozen (p := ⟨g, q * 3 + 2, none⟩) hgl).trans rf2
                have hOk := HK.out.1.mv HI2.out.2
                have hqL2 : q < L.length := by rw [HK.out.2.1]; omega
                obtain ⟨mm, hmm⟩ : ∃ mm : Cd.Fm, mm = ⟨Ev.shF m.f, some ⟨g2, 0, none⟩, cap2⟩ := ⟨_, rfl⟩
                have hmo : mm.f.ops.length = m.f.ops.length := by rw [hmm]; exact List.length_map ..
                have HNW : Hid (Ev.OutS OB (.slice (some ⟨g, 0, none⟩) (l.length + 1) c3) (L.set q mm) (wk.setCell ⟨g, q * 3 + 2, none⟩ (.slice (some ⟨g2, 0, none⟩) m.f.ops.length cap2)) ∧ (L.set q mm).length = l.length + 1 ∧ Below OB V (wk.setCell ⟨g, q * 3 + 2, none⟩ (.slice (some ⟨g2, 0, none⟩) m.f.ops.length cap2)) ∧
                    Cd.fns (L.set q mm) = (Cd.fns ((ms0[fn] :: ms0).take (q + 1))).map Ev.shF ++ Cd.fns ((ms0[fn] :: ms0).drop (q + 1)) ∧ ∀ m ∈ L.set q mm, ∀ p, m.A = some p → Z < p.block) := by
                  have hgB : g ≠ OB := fun e => hOk.ne (by rw [← e]; rfl)
                  have hk8 : ∀ i, i ≠ g → (wk.setCell ⟨g, q * 3 + 2, none⟩ (.slice (some ⟨g2, 0, none⟩) m.f.ops.length cap2)).heap[i]? = wk.heap[i]? := fun i hi => Below.heap_setCell _ _ _ _ hi
                  have hsz8 : wk.heap.size ≤ (wk.setCell ⟨g, q * 3 + 2, none⟩ (.slice (some ⟨g2, 0, none⟩) m.f.ops.length cap2)).heap.size := by simp [World.setCell]
                  have mv8 : Gm.Mvg (fun i => i ≠ g) (fun i => i ≠ g) wk (wk.setCell ⟨g, q * 3 + 2, none⟩ (.slice (some ⟨g2, 0, none⟩) m.f.ops.length cap2)) := ⟨rfl, rfl, rfl, hsz8, fun i _ ho => hk8 i ho, fun _ _ ho => ho⟩
                  refine ⟨⟨hOk.o.of_block (hk8 OB (fun e => hgB e.symm)), ?_, fun m' hm' => ?_⟩, by rw [List.length_set]; exact HK.out.2.1, ?_, ?_, fun m' hm' p hp => ?_⟩
                  · have h1 := hOk.rows
                    rw [HK.out.2.1] at h1
                    have h2 := Ev.erow_set h1 (j := q * 3 + 2) (by rw [Cd.mcells_len]; omega) (.slice (some ⟨g2, 0, none⟩) m.f.ops.length cap2)
                    rw [Ev.mcells_set2 hqL2 _ _ _ mm (by rw [hmm, ← HMM.out]; rfl) (by rw [hmm, ← HMM.out]; rfl) (by rw [hmm]) hmo (by rw [hmm])] at h2
                    rw [List.length_set, HK.out.2.1]
                    exact h2
                  · rcases List.mem_or_eq_of_mem_set hm' with h | rfl
                    · have h1 := hOk.ops m' h
                      exact ⟨Ev.lies_mv (off := fun i => i ≠ g) (off' := fun i => i ≠ g) h1.1 (fun hn p hp e => (h1.2 hn p hp).2 (by rw [e]; rfl)) mv8, h1.2⟩
                    · have hli : Lies wk wk.heap.size m'.A (Cd.ocells m'.f.ops) := by
                        rw [hmm]
                        have hr3 : wk.ownsRow wr.heap.size 57 5 (.slice (some ⟨g2, 0, none⟩) m.f.ops.length cap2) m.f.ops.length (Cd.ocells (m.f.ops.map Ev.shO)) := hrow2
                        exact Cd.rowLies hr3
                      have hb2 : ∀ p, m'.A = some p → p.block = g2 := fun p hp => by rw [hmm] at hp; cases hp; rfl
                      exact ⟨Ev.lies_mv (off := fun i => i ≠ g) (off' := fun i => i ≠ g) hli (fun _ p hp e => by have := hb2 p hp; omega) mv8, fun _ p hp => ⟨by have := hb2 p hp; omega, fun e => by
                        have h5 := hb2 p hp
                        have : some p.block = some g := e
                        injection this with this
                        omega⟩⟩
                  · exact (HK.out.2.2.1.trans (HI2.out.2.mono (Nat.le_of_lt hgo))).setCell (HK.out.1.rows.lt g rfl).1 _
                  · have hMl2 : (ms0[fn] :: ms0).length = l.length + 1 := by rw [List.length_cons, HML.out]
                    have hqM : q < (ms0[fn] :: ms0).length := by rw [hMl2]; omega
                    have e1 : Cd.fns (L.set q mm) = (Cd.fns L).set q (Ev.shF m.f) := by unfold Cd.fns; rw [List.map_set, hmm]
                    have hA : ((Cd.fns ((ms0[fn] :: ms0).take q)).map Ev.shF).length = q := by rw [List.length_map, Cd.fns_len, List.length_take]; omega
                    rw [e1, HK.out.2.2.2.1, List.set_append_right (h := by omega), hA, Nat.sub_self, List.take_succ_eq_append_getElem hqM, List.drop_eq_getElem_cons hqM, HMQ.out]
                    unfold Cd.fns
                    rw [List.map_append, List.map_append, List.append_assoc]
                    rfl
                  · rcases List.mem_or_eq_of_mem_set hm' with h | rfl
                    · exact HK.out.2.2.2.2 m' h p hp
                    · rw [hmm] at hp
                      cases hp
                      show Z < g2
                      have := hg2.1
                      have := HZV.out.2.1
                      omega
                clear hgl hgo hrow2 hg2 hhal hOk hqL2 hmm hmo hlk
                go_wp2_with fail
                go_roundw
                case rel => exact ⟨q + 1, some ⟨g, 0, none⟩, c3, L.set q mm, by omega, by go_num, HNW.out⟩
                case measure => simp [intOf]; omega
          · obtain rfl : q = l.length + 1 := by omega
            have q1 : ¬ (((l.length + 1 : Nat) : Int) < ((l.length + 1 : Nat) : Int)) := by omega
            have q2 : ¬ ((l.length : Int) + 1 < (l.length : Int) + 1) := by omega
            have HZW : Hid (Cd.PBlk wr Z (.slice none 0 0)) := HZV.out.1.of_block (HK.out.2.2.1.block Z HZV.out.2.1)
            have z0 := HZW.out.c0
            have zf := HZW.out.f 0
            have HNZ := Lib.hid (HZW.out.set0 (.slice A3 (l.length + 1) c3))
            have HQQ : Hid (∃ (ms : List Cd.Fm) (A' : Option Addr) (c' : Nat), Ending.returned (.agg #[.slice A3 (l.length + 1) c3]) = .returned (.agg #[.slice A' ms.length c']) ∧ Cd.fns ms = Ev.begun (Cd.fns l) fn ∧ Cd.Prog (wr.setCell ⟨Z, 0, none⟩ (.slice A3 (l.length + 1) c3)) (wr.setCell ⟨Z, 0, none⟩ (.slice A3 (l.length + 1) c3)).heap.size A' ms ∧ Below w.heap.size w (wr.setCell ⟨Z, 0, none⟩ (.slice A3 (l.length + 1) c3))) := by
              have hMl2 : (ms0[fn] :: ms0).length = l.length + 1 := by rw [List.length_cons, HML.out]
              have hzo : Z < OB := HZV.out.2.1
              have mvz : Gm.Mvg (fun i => i ≠ Z) (fun i => i ≠ Z) wr (wr.setCell ⟨Z, 0, none⟩ (.slice A3 (l.length + 1) c3)) := ⟨rfl, rfl, rfl, by simp [World.setCell], fun i _ ho => Below.heap_setCell _ _ _ _ ho, fun _ _ ho => ho⟩
              refine ⟨L, A3, c3, by rw [HK.out.2.1], ?_, ⟨?_, fun m hm => ?_⟩, (HZV.out.2.2.2.trans (HK.out.2.2.1.mono (by have := HZV.out.2.2.1; have := HC.out.2; omega))).setCell (by have := HZE.out; show w.heap.size ≤ Z; omega) _⟩
              · rw [HK.out.2.2.2.1, List.take_of_length_le (Nat.le_of_eq hMl2), List.drop_of_length_le (Nat.le_of_eq hMl2)]
                unfold Ev.begun
                rw [← HMS.out]
                have e : (Cd.fns ms0)[fn]? = some ms0[fn].f := by unfold Cd.fns; rw [List.getElem?_map, List.getElem?_eq_getElem hfl]; rfl
                rw [e]
                unfold Cd.fns
                simp
              · have h1 := HK.out.1.rows
                rw [HK.out.2.1] at h1
                have h2 := Cd.rowLies h1
                exact Ev.lies_mv (off := fun i => i ≠ Z) (off' := fun i => i ≠ Z) h2 (fun _ p hp e => by
                  have := (h1.lt p.block (by rw [hp]; rfl)).1
                  omega) mvz
              · exact Ev.lies_mv (off := fun i => i ≠ Z) (off' := fun i => i ≠ Z) (HK.out.1.ops m hm).1 (fun _ p hp e => by
                  have := HK.out.2.2.2.2 m hm p hp
                  omega) mvz
            clear hlq
            go_wp2_with fail
            refine bodyPost_ret (v := .agg #[.slice A3 (l.length + 1) c3]) (results_cell_row Tryd.results9 _ _ Z 24 #[.slice A3 (l.length + 1) c3] (0, 0) _ rfl HNZ.out Tryd.underlying24 rfl HI.out) rfl ?_
            obtain ⟨ms, A', c', k1, k2, k3, k4⟩ := HQQ.out
            exact ⟨ms, A', ⟨c', k1⟩, k2, k3, k4⟩
end Go.Proofs.YtnlhacgihmelhaaDoor
